/-
  Joined: PRes, NBase, PlainCount.
-/
import Derived.Test.YtnmilkehggjpfaaZBMil01
import Derived.Test.YtnmilkehggjpfaaZBMil06
import Derived.Test.YtnmilkehggjpfaaZBMil07
section
namespace Go.Proofs.Ytnmilkehggjpfaa
open Go.RowKit
set_option linter.unusedVariables false
set_option maxRecDepth 100000

/-- The rows of a table with m columns besides the edge. -/
def tabX (T : Tab) (m : Nat) : Nat → List Int := fun i => (List.range (m + 1)).map (T i)
theorem tabX_len (T : Tab) (m i : Nat) : (tabX T m i).length = m + 1 := by simp [tabX]
theorem tabX_at (T : Tab) (m i j : Nat) (h : j ≤ m) : (tabX T m i)[j]?.getD 0 = T i j := by
  unfold tabX
  rw [List.getElem?_map, List.getElem?_range (by omega)]
  rfl
/-- The numbers of a diagonal, in the first i rows. -/
def sdgTo (T : Tab) (m k : Nat) : Nat → List Int
  | 0 => []
  | i + 1 => if i ≤ k ∧ k - i ≤ m then sdgTo T m k i ++ [T i (k - i)] else sdgTo T m k i
def sdg (T : Tab) (n m k : Nat) : List Int := sdgTo T m k (n + 1)
theorem sdgTo_len (T : Tab) (m k : Nat) : ∀ i, (sdgTo T m k i).length ≤ i
  | 0 => Nat.le_refl _
  | i + 1 => by
    have := sdgTo_len T m k i
    unfold sdgTo
    split
    · rw [List.length_append, List.length_singleton]; omega
    · omega
theorem sdgTo_mem (T : Tab) (m k : Nat) : ∀ i, ∀ z ∈ sdgTo T m k i, ∃ a b, z = T a b
  | 0, z, h => by cases h
  | i + 1, z, h => by
    unfold sdgTo at h
    split at h
    · rcases List.mem_append.1 h with h | h
      · exact sdgTo_mem T m k i z h
      · exact ⟨i, k - i, List.mem_singleton.1 h⟩
    · exact sdgTo_mem T m k i z h
/-- The sum of the first i numbers. -/
def smTo (l : List Int) : Nat → Int
  | 0 => 0
  | i + 1 => smTo l i + l[i]?.getD 0
def sm (l : List Int) : Int := smTo l l.length
theorem smTo_bound {l : List Int} (h : ∀ z ∈ l, 0 ≤ z ∧ z ≤ 1000000) : ∀ i, i ≤ l.length → 0 ≤ smTo l i ∧ smTo l i ≤ (i : Int) * 1000000
  | 0, _ => ⟨Int.le_refl _, by simp [smTo]⟩
  | i + 1, hi => by
    have h1 := smTo_bound h i (by omega)
    have h2 := h (l[i]'(by omega)) (List.getElem_mem _)
    unfold smTo
    rw [List.getElem?_eq_getElem (by omega)]
    simp only [Option.getD_some]
    omega
def apL (l : List Int) : Prop := apt (fun j => l[j]?.getD 0) l.length
/-- The zeros at the end left out. -/
def trimTo (l : List Int) : Nat → List Int
  | 0 => []
  | j + 1 => if l[j]?.getD 0 = 0 then trimTo l j else l.take (j + 1)
def trim (l : List Int) : List Int := trimTo l l.length
/-- The sums of the first k diagonals. -/
def outs (T : Tab) (n m k : Nat) : List Int := (List.range k).map fun k' => sm (sdg T n m (k' + 1))
theorem outs_len (T : Tab) (n m k : Nat) : (outs T n m k).length = k := by simp [outs]
theorem outs_succ (T : Tab) (n m k : Nat) : outs T n m (k + 1) = outs T n m k ++ [sm (sdg T n m (k + 1))] := by simp [outs, List.range_succ]
/-- The exponent list of a table, if all numbers of ways are odd. -/
noncomputable def resS (n m : Nat) (T : Tab) : Option (List Int) :=
  @ite _ (∀ k, k < n + m → apL (sdg T n m (k + 1))) (Classical.propDecidable _) (some (trim (outs T n m (n + m)))) none

def ResPost (o : Option (List Int)) (w : World) (e : Ending) (w' : World) : Prop :=
  match o with
  | some l => ∃ u, e = .returned (.tuple #[u, .bool true]) ∧ w'.ownsRow w.heap.size 2 1 u l.length (l.map (Value.int .i64)) ∧ Below w.heap.size w w'
  | none => e = .returned (.tuple #[.slice none 0 0, .bool false]) ∧ Below w.heap.size w w'

/-- A row without its end. -/
theorem own_take {w : World} {B n : Nat} {a : Option Addr} {cap : Nat} {e : TypeId} {xs : List Value} (h : w.ownsRow B e 1 (.slice a n cap) n xs) (k : Nat) (hk : k ≤ n) : w.ownsRow B e 1 (.slice a k cap) k (xs.take k) := by
  have hl : xs.length = n := by have := h.1; omega
  refine ⟨by rw [List.length_take, hl]; omega, ?_⟩
  rcases h.2 with ⟨e1, h0⟩ | ⟨g, cap', cur, e1, hb, hg, h1, h2, h3, h4⟩
  · cases e1
    exact .inl ⟨by rw [show k = 0 by omega], by omega⟩
  · cases e1
    refine .inr ⟨g, cap, cur, rfl, hb, hg, by omega, h2, h3, ?_⟩
    rw [← h4, List.take_take]
    congr 1
    omega

def slen : Value → Nat
  | .slice _ n _ => n
  | _ => 0
theorem trimTo_zero (l : List Int) (j : Nat) (h : l[j]?.getD 0 = 0) : trimTo l (j + 1) = trimTo l j := by rw [trimTo, if_pos h]
theorem trimTo_take (l : List Int) (j : Nat) (h : l[j]?.getD 0 ≠ 0) : trimTo l (j + 1) = l.take (j + 1) := by rw [trimTo, if_neg h]

/-- A row of a table. -/
theorem row_at {w : World} {B n m : Nat} {V : Value} {VS : Nat → Value} {T : Tab} (h : Fam w B V n VS (tabX T m)) (i : Nat) (hi : i < n) : ∃ g q, VS i = .slice (some ⟨g, 0, none⟩) (m + 1) q ∧ ∀ j, j ≤ m → w.cell? ⟨g, j, none⟩ = some (.int .i64 (T i j)) := by
  have h1 := h.inn i hi
  rw [tabX_len] at h1
  rcases h1.2 with ⟨_, h0⟩ | ⟨g, cap, cur, e, _⟩
  · omega
  · rw [e] at h1
    refine ⟨g, cap, e, fun j hj => ?_⟩
    rw [h1.cellAt j (by omega)]
    unfold tabX
    rw [List.getElem?_map, List.getElem?_map, List.getElem?_range (by omega)]
    rfl
theorem table_at {w : World} {B n m : Nat} {b cap : Nat} {VS : Nat → Value} {T : Tab} (h : Fam w B (.slice (some ⟨b, 0, none⟩) n cap) n VS (tabX T m)) (i : Nat) (hi : i < n) : w.cell? ⟨b, i, none⟩ = some (VS i) := by
  obtain ⟨a9, c9, e9, _, hc⟩ := h.head
  cases e9
  obtain ⟨b', e', hc2⟩ := hc.resolve_left (by omega)
  cases e'
  exact hc2 i hi

set_option maxHeartbeats 4000000 in
theorem l04Result_any (n m B : Nat) (V : Value) (VS : Nat → Value) (T : Tab) (w : World) (hF : Fam w B V (n + 1) VS (tabX T m)) (hn : n ≤ 10) (hm : m ≤ 10) (hT : ∀ a b, 0 ≤ T a b ∧ T a b ≤ 1000000) :
    Calls Try.prog 188 #[V] w (ResPost (resS n m T) w) := by
  have H := Lib.hid hF
  have HT := Lib.hid hT
  obtain ⟨a, cap, rfl, hm0, hc⟩ := hF.head
  obtain ⟨b, rfl, hc2⟩ := hc.resolve_left (by omega)
  have c0 := hc2 0 (by omega)
  obtain ⟨r0, q0, e0, _⟩ := own_len (hF.inn 0 (by omega))
  rw [tabX_len] at e0
  rw [e0] at c0
  have O0 : Hid ((w.alloc (.cells #[] 2)).ownsRow w.heap.size 2 1 (.slice (some ⟨w.heap.size, 0, none⟩) 0 0) 0 ((outs T n m 0).map (Value.int .i64))) := Lib.hid (World.ownsRow_made w #[] 0 (Nat.le_refl _) (Nat.zero_le _) (by simp))
  have B0 : Hid (Below w.heap.size w (w.alloc (.cells #[] 2))) := Lib.hid ((Below.refl _ w).alloc (Nat.le_refl _) _)
  clear hF hT hc hc2 hm0 e0
  go_enter Try.func188, Try.ntmps188
  go_wp2_with fail
  go_loopw [5, 6, 7, 8, 9, 10] (fun O K _ _ _ _ wr => ∃ k : Nat, k ≤ n + m ∧ K = .int .i64 ((k : Int) + 1) ∧ Hid (wr.ownsRow w.heap.size 2 1 O k ((outs T n m k).map (Value.int .i64))) ∧ Hid (Below w.heap.size w wr) ∧ Hid (∀ k', k' < k → apL (sdg T n m (k' + 1)))) (fun _ K _ _ _ _ _ => n + m + 2 - (intOf K).toNat)
  case atStart => exact ⟨0, by omega, rfl, O0, B0, Lib.hid (fun k hk => absurd hk (Nat.not_lt_zero _))⟩
  case round =>
    clear O0 B0 c0
    obtain ⟨k, hk, rfl, hO, hB, hA⟩ := hrel
    rename World => w1
    by_cases hlt : k < n + m
    · have hlt' : (k : Int) + 1 < (n : Int) + 1 + ((m : Int) + 1) - 1 := by omega
      have L0 : Hid ((w1.alloc (.cells #[] 2)).ownsRow w1.heap.size 2 1 (.slice (some ⟨w1.heap.size, 0, none⟩) 0 0) (sdgTo T m (k + 1) 0).length ((sdgTo T m (k + 1) 0).map (Value.int .i64))) := Lib.hid (World.ownsRow_made w1 #[] 0 (Nat.le_refl _) (Nat.zero_le _) (by simp))
      have C0 : Hid (Below w1.heap.size w1 (w1.alloc (.cells #[] 2))) := Lib.hid ((Below.refl _ w1).alloc (Nat.le_refl _) _)
      go_wp2_with fail
      go_loopw [7, 8] (fun S c wr => ∃ i : Nat, i ≤ n + 1 ∧ c = .int .i64 i ∧ Hid (wr.ownsRow w1.heap.size 2 1 S (sdgTo T m (k + 1) i).length ((sdgTo T m (k + 1) i).map (Value.int .i64))) ∧ Hid (Below w1.heap.size w1 wr)) (fun _ c _ => n + 1 - (intOf c).toNat)
      case atStart => exact ⟨0, by omega, rfl, L0, C0⟩
      case round =>
        clear L0 C0
        obtain ⟨i, hi, rfl, hL, hC⟩ := hrel
        rename World => w2
        by_cases hil : i < n + 1
        · have hil' : (i : Int) < (n : Int) + 1 := by omega
          have FW := H.out.below (hB.out.trans (hC.out.mono hB.out.size))
          obtain ⟨g, q, eg, hg⟩ := row_at FW i hil
          have c1 := table_at FW i hil
          rw [eg] at c1
          have hl11 := sdgTo_len T m (k + 1) i
          by_cases hA1 : i ≤ k + 1
          · obtain ⟨d, hd⟩ : ∃ d : Nat, k + 1 - i = d := ⟨_, rfl⟩
            have ed : (k : Int) + 1 - (i : Int) = (d : Int) := by omega
            by_cases hA2 : d ≤ m
            · have c2 := hg d hA2
              have NX : Hid (sdgTo T m (k + 1) (i + 1) = sdgTo T m (k + 1) i ++ [T i d]) := Lib.hid (by rw [sdgTo, if_pos ⟨hA1, by omega⟩, hd])
              have hdm : (d : Int) < (m : Int) + 1 := by omega
              generalize T i d = x at c2 NX
              have O2 := Lib.hid (hL.out.alloc (.cells #[.int .i64 x] 2))
              have B2 := Lib.hid (hC.out.alloc hC.out.size (.cells #[.int .i64 x] 2))
              have SR := Lib.hid (one_src (w := w2) (t := 2) (.int .i64 x))
              clear hg eg FW hd hL hC
              go_wp2_with (at_builtin; refine wpList_ints _ rfl _ _ rfl w1.heap.size (sdgTo T m (k + 1) i).length _ _ rfl O2.out (some ⟨w2.heap.size, 0, none⟩) 1 1 [Value.int .i64 x] rfl (.inr ⟨_, rfl, SR.out⟩) rfl (by simp [Value.oneCell']) (by omega) B2.out.size ?_; intro v3 w3 ho3 hg3; have O3 := Lib.hid ho3; have B3 := Lib.hid (B2.out.grown hg3 B2.out.size (fun q hq => (O2.out.lt q (hq.symm ▸ rfl)).1)); clear ho3 hg3)
              go_roundw
              case rel => exact ⟨i + 1, by omega, by go_num, Lib.hid (by rw [NX.out, List.length_append, List.map_append]; exact O3.out), B3⟩
              case measure => simp [intOf]; omega
            · have NX : Hid (sdgTo T m (k + 1) (i + 1) = sdgTo T m (k + 1) i) := Lib.hid (by rw [sdgTo, if_neg (by omega)])
              have hdm : ¬ (d : Int) < (m : Int) + 1 := by omega
              clear hg eg FW hd
              go_wp2_with fail
              go_roundw
              case rel => exact ⟨i + 1, by omega, by go_num, Lib.hid (by rw [NX.out]; exact hL.out), hC⟩
              case measure => simp [intOf]; omega
          · have NX : Hid (sdgTo T m (k + 1) (i + 1) = sdgTo T m (k + 1) i) := Lib.hid (by rw [sdgTo, if_neg (by omega)])
            have hneg : (k : Int) + 1 - (i : Int) < 0 := by omega
            clear hg eg FW
            go_wp2_with fail
            go_roundw
            case rel => exact ⟨i + 1, by omega, by go_num, Lib.hid (by rw [NX.out]; exact hL.out), hC⟩
            case measure => simp [intOf]; omega
        · obtain rfl : i = n + 1 := by omega
          have hil' : ¬ ((n + 1 : Nat) : Int) < (n : Int) + 1 := by omega
          obtain ⟨l, hl⟩ : ∃ l, sdgTo T m (k + 1) (n + 1) = l := ⟨_, rfl⟩
          have hlen : l.length ≤ n + 1 := by rw [← hl]; exact sdgTo_len T m (k + 1) (n + 1)
          have hbd : Hid (∀ z ∈ l, 0 ≤ z ∧ z ≤ 1000000) := Lib.hid (fun z hz => by
            rw [← hl] at hz
            obtain ⟨x, y, e⟩ := sdgTo_mem T m (k + 1) (n + 1) z hz
            rw [e]; exact HT.out x y)
          have HSD : Hid (sdg T n m (k + 1) = l) := Lib.hid hl
          rw [hl] at hL
          have RL := Lib.hid (rd_of_own hL.out rfl)
          obtain ⟨la, lc, rfl, _⟩ := own_len hL.out
          clear hl
          by_cases hap : apL l
          · have AP := Lib.hid (l01Apart_yes _ l.length _ w2 RL.out hap)
            have HA2 : Hid (∀ k', k' < k + 1 → apL (sdg T n m (k' + 1))) := Lib.hid (fun k' hk' => by
              by_cases e : k' = k
              · rw [e, HSD.out]; exact hap
              · exact hA.out k' (by omega))
            have OS : Hid (outs T n m (k + 1) = outs T n m k ++ [sm l]) := Lib.hid (by rw [outs_succ, HSD.out])
            clear hap hA
            go_wp2_with fail
            refine AP.out.mono ?_
            rintro e w3 ⟨rfl, rfl⟩
            go_wp2_with fail
            go_loopw [9, 10] (fun s c wr => ∃ j : Nat, j ≤ l.length ∧ c = .int .i64 j ∧ s = .int .i64 (smTo l j) ∧ Hid (wr = w2)) (fun _ c _ => l.length - (intOf c).toNat)
            case atStart => exact ⟨0, by omega, rfl, rfl, Lib.hid rfl⟩
            case round =>
              obtain ⟨j, hj, rfl, rfl, hw⟩ := hrel
              by_cases hjl : j < l.length
              · have hjl' : (j : Int) < (l.length : Int) := by omega
                obtain ⟨a8, c8, e8, _, hr⟩ := RL.out
                cases e8
                obtain ⟨bl, ol, rfl, hr2⟩ := hr.resolve_left (by omega)
                have c1 : wr.cell? ⟨bl, ol + j, none⟩ = some (.int .i64 (l[j]?.getD 0)) := by rw [hw.out]; exact hr2 j hjl
                have SM : smTo l (j + 1) = smTo l j + l[j]?.getD 0 := rfl
                have b1 := smTo_bound hbd.out j (by omega)
                have b2 := smTo_bound hbd.out (j + 1) (by omega)
                have HSM := Lib.hid SM
                rw [SM] at b2
                clear hr hr2 SM
                generalize l[j]?.getD 0 = x at c1 HSM b2
                generalize smTo l j = y at HSM b1 b2 ⊢
                have hwr : wrap64 (y + x) = y + x := by unfold wrap64; omega
                clear b1 b2
                go_wp2_with fail
                go_roundw
                case rel => exact ⟨j + 1, by omega, by go_num, by rw [HSM.out]; first | rfl | rw [hwr], hw⟩
                case measure => simp [intOf]; omega
              · obtain rfl : j = l.length := by omega
                have BW := Lib.hid (hB.out.trans (hC.out.mono hB.out.size))
                have O1 := Lib.hid (own_below hO.out hC.out)
                have ES : smTo l l.length = sm l := rfl
                rw [ES]
                rw [← hw.out] at BW O1
                generalize sm l = x at OS ⊢
                have O2 := Lib.hid (O1.out.alloc (.cells #[.int .i64 x] 2))
                have B2 := Lib.hid (BW.out.alloc BW.out.size (.cells #[.int .i64 x] 2))
                have SR := Lib.hid (one_src (w := wr) (t := 2) (.int .i64 x))
                clear ES O1 BW hw hO hC hB hL RL AP
                go_wp2_with (at_builtin; refine wpList_ints _ rfl _ _ rfl w.heap.size k _ _ rfl O2.out (some ⟨wr.heap.size, 0, none⟩) 1 1 [Value.int .i64 x] rfl (.inr ⟨_, rfl, SR.out⟩) rfl (by simp [Value.oneCell']) (by omega) B2.out.size ?_; intro v3 w3 ho3 hg3; have O3 := Lib.hid ho3; have B3 := Lib.hid (B2.out.grown hg3 B2.out.size (fun q hq => (O2.out.lt q (hq.symm ▸ rfl)).1)); clear ho3 hg3)
                go_roundw
                case rel => exact ⟨k + 1, by omega, by go_num, Lib.hid (by rw [OS.out, List.map_append]; exact O3.out), B3, HA2⟩
                case measure => simp [intOf]; omega
          · have AP := Lib.hid (l01Apart_no _ l.length _ w2 RL.out hap)
            have RN : Hid (resS n m T = none) := Lib.hid (by
              unfold resS
              rw [if_neg (fun h => hap (by rw [← HSD.out]; exact h k hlt))])
            clear hap
            go_wp2_with fail
            refine AP.out.mono ?_
            rintro e w3 ⟨rfl, rfl⟩
            go_wp2_with fail
            go_ret2
            rw [RN.out]
            exact ⟨rfl, hB.out.trans (hC.out.mono hB.out.size)⟩
    · obtain rfl : k = n + m := by omega
      have hlt' : ¬ ((n + m : Nat) : Int) + 1 < (n : Int) + 1 + ((m : Int) + 1) - 1 := by omega
      have RN : Hid (resS n m T = some (trim (outs T n m (n + m)))) := Lib.hid (by
        unfold resS
        rw [if_pos (fun k hk => hA.out k hk)])
      obtain ⟨L, hL⟩ : ∃ L, outs T n m (n + m) = L := ⟨_, rfl⟩
      have hLn : L.length = n + m := by rw [← hL]; exact outs_len T n m (n + m)
      rw [hL] at hO RN
      rw [← hLn] at hO hlt' ⊢
      have hsmall : L.length ≤ 20 := by omega
      have HLE : Hid (L.length = n + m) := Lib.hid hLn
      obtain ⟨oa, oc, rfl, _⟩ := own_len hO.out
      clear hL hLn hA hlt hk
      have hl2 := hlt'
      clear hl2
      go_wp2_with fail
      clear hlt'
      go_loopw [5] (fun S wr => ∃ j : Nat, j ≤ L.length ∧ S = .slice oa j oc ∧ Hid (wr = w1) ∧ Hid (trimTo L j = trim L)) (fun S _ => slen S)
      case atStart => exact ⟨L.length, Nat.le_refl _, rfl, Lib.hid rfl, Lib.hid rfl⟩
      case round =>
        obtain ⟨j, hj, rfl, hw, hT⟩ := hrel
        have FIN : Hid (∀ l, trim L = l → l = L.take j → l.length = j → ResPost (some (trim L)) w (.returned (.tuple #[.slice oa j oc, .bool true])) wr) := Lib.hid (fun l e1 e2 e3 => by
          refine ⟨_, rfl, ?_, by rw [hw.out]; exact hB.out⟩
          rw [e1, e3, hw.out]
          have := own_take hO.out j hj
          rw [← List.map_take, ← e2] at this
          exact this)
        cases j with
        | zero =>
          have FN := Lib.hid (FIN.out [] (by rw [← hT.out]; rfl) (by simp) rfl)
          clear FIN
          go_wp2_with fail
          go_ret2
          rw [RN.out]
          exact FN.out
        | succ t =>
          rcases hO.out.2 with ⟨_, h0⟩ | ⟨g, cp, cur, e9, _, _, hcp, _⟩
          · omega
          · cases e9
            have c1 : wr.cell? ⟨g, t, none⟩ = some (.int .i64 (L[t]?.getD 0)) := by
              rw [hw.out, hO.out.cellAt t (by omega), List.getElem?_map, List.getElem?_eq_getElem (by omega)]
              rfl
            have htc : (t : Int) ≤ (oc : Int) := by omega
            by_cases hz : L[t]?.getD 0 = 0
            · have T2 : Hid (trimTo L t = trim L) := Lib.hid (by rw [← trimTo_zero L t hz]; exact hT.out)
              rw [hz] at c1
              clear hz FIN hT
              go_wp2_with fail
              go_roundw
              case rel => exact ⟨t, by omega, rfl, hw, T2⟩
              case measure => simp [slen]
            · have FN := Lib.hid (FIN.out (L.take (t + 1)) (by rw [← hT.out]; exact trimTo_take L t hz) rfl (by rw [List.length_take]; omega))
              have hz2 : (L[t]?.getD 0 == 0) = false := by rw [beq_eq_false_iff_ne]; exact hz
              generalize L[t]?.getD 0 = x at c1 hz2
              clear hz FIN hT
              go_wp2_with fail
              go_ret2
              rw [RN.out]
              exact FN.out
end Go.Proofs.Ytnmilkehggjpfaa
end
section
namespace Go.Proofs.Ytnmilkehggjpfaa
open Go.RowKit
set_option linter.unusedVariables false
set_option maxRecDepth 100000

theorem toMilnor_any (V : Value) (m : Nat) (X : Nat → List Int) (w : World) (hm : m ≤ 1048576) (hX : ∀ i, i < m → (X i).length ≤ 1048576) (h : RdSS w V m X) :
    Calls Try.prog 27 #[.agg #[V]] w fun e w' => ∃ U US, e = .returned (.agg #[U]) ∧ Fam w' w.heap.size U m US X ∧ Below w.heap.size w w' ∧ Sep m US := by
  have H := Lib.hid h
  have HX := Lib.hid hX
  clear h hX
  have t1 := Try.underlying41
  have t2 := Try.underlying45
  go_enter Try.func27, Try.ntmps27
  go_wp2_with fail
  have W1 : ∃ w1, w1 = (((w.alloc (.cells #[V] 41)).alloc (.cells #[.slice none 0 0] 45)).alloc (.cells #[.slice none 0 0] 45)) := ⟨_, rfl⟩
  obtain ⟨w1, hw1⟩ := W1
  have B0 : Hid (Below w.heap.size w w1) := Lib.hid (by rw [hw1]; exact (((Below.refl w.heap.size w).alloc (Nat.le_refl _) _).alloc (by simp) _).alloc (by simp; omega) _)
  have b1 : Hid (Box1 w1 (w.heap.size + 1) 45 (.slice none 0 0)) := Lib.hid (by rw [hw1]; have := (Box1.new (w.alloc (.cells #[V] 41)) 45 (.slice none 0 0)).alloc (.cells #[.slice none 0 0] 45); simpa using this)
  have b2 : Hid (Box1 w1 (w.heap.size + 1 + 1) 45 (.slice none 0 0)) := Lib.hid (by rw [hw1]; have := Box1.new ((w.alloc (.cells #[V] 41)).alloc (.cells #[.slice none 0 0] 45)) 45 (.slice none 0 0); simpa using this)
  have hs : Hid (w1.heap.size = w.heap.size + 3) := Lib.hid (by rw [hw1]; simp)
  have R := Lib.hid (H.out.below B0.out)
  rw [← hw1]
  clear hw1
  refine (toSS_any V m X w1 hm HX.out R.out).mono ?_
  rintro e w2 ⟨U, US, rfl, ho, hb, hsp⟩
  obtain ⟨ua, ucap, rfl, _⟩ := ho.head
  have D1 := Lib.hid (b1.out.up hb)
  have D2 := Lib.hid (b2.out.up hb)
  have c10 := D1.out.c
  have c20 := D2.out.c
  have f10 := D1.out.fr 0
  have f20 := D2.out.fr 0
  have HO := Lib.hid ho
  have HS := Lib.hid hsp
  have HB := Lib.hid (B0.out.trans (hb.mono B0.out.size))
  clear ho hb hsp
  go_wp2
  have E1 := (D1.out.other ⟨w.heap.size + 1 + 1, 0, none⟩ (.slice ua m ucap) (by simp)).set (.slice ua m ucap)
  refine bodyPost_ret (results_cell_row rfl _ _ (w.heap.size + 1) 45 _ (0, 0) _ rfl E1 t2 rfl (by kernel_rfl)) rfl ?_
  have hb3 := (HB.out.setCell (p := ⟨w.heap.size + 1 + 1, 0, none⟩) (by simp; omega) (.slice ua m ucap)).setCell (p := ⟨w.heap.size + 1, 0, none⟩) (by simp) (.slice ua m ucap)
  refine ⟨_, US, rfl, ?_, hb3, HS.out⟩
  refine (Fam.same HO.out fun g hg hlt => ?_).base (by have := hs.out; omega)
  have := hs.out
  rw [heap_setCell_other _ _ _ _ (by simp; omega), heap_setCell_other _ _ _ _ (by simp; omega)]

theorem szMilnor_yes (V : Value) (m : Nat) (X : Nat → List Int) (left : Nat) (w : World) (h : RdSS w V m X) (hl : left ≤ 1048576) (hm : m + tot X m ≤ left) :
    Calls Try.prog 25 #[.agg #[V], .int .i64 (left : Int)] w fun e w' => e = .returned (.int .i64 ((left : Int) - ((m + tot X m : Nat) : Int))) ∧ Below w.heap.size w w' := by
  have B0 : Hid (Below w.heap.size w (w.alloc (.cells #[V] 41))) := Lib.hid ((Below.refl w.heap.size w).alloc (Nat.le_refl _) _)
  have SZ := Lib.hid (szSS_any V m X left _ (h.below B0.out) hl hm)
  have t1 := Try.underlying41
  have hge : ¬ (left : Int) - ((m + tot X m : Nat) : Int) < 0 := by omega
  generalize (left : Int) - ((m + tot X m : Nat) : Int) = lf at SZ hge
  clear h
  go_enter Try.func25, Try.ntmps25
  go_wp2_with fail
  refine SZ.out.mono ?_
  rintro e w' ⟨rfl, rfl⟩
  go_wp2_with fail
  go_ret
  exact ⟨rfl, B0.out⟩
theorem szMilnor_over (V : Value) (m : Nat) (X : Nat → List Int) (left : Nat) (w : World) (h : RdSS w V m X) (hl : left ≤ 1048576) (hm : left < m + tot X m) :
    Calls Try.prog 25 #[.agg #[V], .int .i64 (left : Int)] w fun e w' => e = .returned (.int .i64 (-1)) ∧ Below w.heap.size w w' := by
  have B0 : Hid (Below w.heap.size w (w.alloc (.cells #[V] 41))) := Lib.hid ((Below.refl w.heap.size w).alloc (Nat.le_refl _) _)
  have SZ := Lib.hid (szSS_over V m X left _ (h.below B0.out) hl hm)
  have t1 := Try.underlying41
  clear h
  go_enter Try.func25, Try.ntmps25
  go_wp2_with fail
  refine SZ.out.mono ?_
  rintro e w' ⟨rfl, rfl⟩
  go_wp2_with fail
  go_ret
  exact ⟨rfl, B0.out⟩

theorem eqMilnor_same (U1 U2 : Value) (m : Nat) (B1 B2 : Nat) (VA VB : Nat → Value) (X : Nat → List Int) (w : World) (h1 : Fam w B1 U1 m VA X) (h2 : Fam w B2 U2 m VB X) :
    Calls Try.prog 29 #[.agg #[U1], .agg #[U2]] w fun e w' => e = .returned (.bool true) ∧ Below w.heap.size w w' := by
  have t2 := Try.underlying45
  have B0 : Hid (Below w.heap.size w ((w.alloc (.cells #[U1] 45)).alloc (.cells #[U2] 45))) := Lib.hid (((Below.refl w.heap.size w).alloc (Nat.le_refl _) _).alloc (by simp) _)
  have E := Lib.hid (eqInt64SS_same U1 U2 m B1 B2 VA VB X _ (h1.below B0.out) (h2.below B0.out))
  clear h1 h2
  go_enter Try.func29, Try.ntmps29
  go_wp2_with fail
  refine E.out.mono ?_
  rintro e w' ⟨rfl, q, rfl⟩
  go_wp2_with fail
  go_ret
  exact ⟨rfl, below_drewN B0.out _⟩
end Go.Proofs.Ytnmilkehggjpfaa
end
section
namespace Go.Proofs.Ytnmilkehggjpfaa
open Go.RowKit
set_option maxRecDepth 100000

/-- 2^(i+1) - 1. -/
def sp : Nat → Nat
  | 0 => 1
  | i + 1 => 2 * sp i + 1
theorem sp_pow (i : Nat) : sp i + 1 = 2 ^ (i + 1) := by
  induction i with
  | zero => rfl
  | succ i ih => rw [sp, Nat.pow_succ, ← ih]; omega
theorem sp_gt (i : Nat) : i < sp i := by
  induction i with
  | zero => decide
  | succ i ih => rw [sp]; omega
theorem sp_mono (i j : Nat) : sp i ≤ sp (i + j) := by
  induction j with
  | zero => exact Nat.le_refl _
  | succ j ih => rw [← Nat.add_assoc, sp]; omega

/-- One number of the row, and m of them from p on. -/
def upd (p : Nat) (xs : List Int) (n : Nat) : List Int := xs.set n (wrap64 (xs[n]?.getD 0 + xs[n - p]?.getD 0))
def cpRow (p : Nat) (xs : List Int) : Nat → List Int
  | 0 => xs
  | m + 1 => upd p (cpRow p xs m) (p + m)
theorem cpRow_length (p : Nat) (xs : List Int) (m : Nat) : (cpRow p xs m).length = xs.length := by
  induction m with
  | zero => rfl
  | succ m ih => rw [cpRow, upd, List.length_set, ih]

/-- The row behind i weights. -/
def cpTo (d : Nat) : Nat → List Int
  | 0 => 1 :: List.replicate d 0
  | i + 1 => cpRow (sp i) (cpTo d i) (d + 1 - sp i)
theorem cpTo_length (d i : Nat) : (cpTo d i).length = d + 1 := by
  induction i with
  | zero => simp [cpTo]
  | succ i ih => rw [cpTo, cpRow_length, ih]
theorem cpTo_stop (d i : Nat) (h : d < sp i) (j : Nat) : cpTo d (i + j) = cpTo d i := by
  induction j with
  | zero => rfl
  | succ j ih =>
    have := sp_mono i j
    rw [← Nat.add_assoc, cpTo, show d + 1 - sp (i + j) = 0 by omega, cpRow, ih]
theorem cpTo_end (d i k : Nat) (h : d < sp i) (hk : i ≤ k) : cpTo d i = cpTo d k := by
  obtain ⟨j, rfl⟩ : ∃ j, k = i + j := ⟨k - i, by omega⟩
  exact (cpTo_stop d i h j).symm
theorem map_upd (p : Nat) (xs : List Int) (n : Nat) : (upd p xs n).map (Value.int .i64) = (xs.map (Value.int .i64)).set n (.int .i64 (wrap64 (xs[n]?.getD 0 + xs[n - p]?.getD 0))) := by
  rw [upd, List.map_set]
end Go.Proofs.Ytnmilkehggjpfaa
end
