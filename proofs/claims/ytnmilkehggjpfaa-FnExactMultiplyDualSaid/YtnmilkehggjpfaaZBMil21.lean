/-
  Joined: PTerm, PFirst.
-/
import Derived.Test.YtnmilkehggjpfaaZBMil20
import Derived.Laws.Tables
import Derived.Laws.CopyOwn
section
namespace Go.Proofs.Ytnmilkehggjpfaa
open Go.RowKit
set_option linter.unusedVariables false
set_option maxRecDepth 100000

theorem dia_len (T : Tab) (k : Nat) : (dia T k).length = k + 1 := by simp [dia]
theorem dia_at (T : Tab) (k j : Nat) (h : j ≤ k) : (dia T k)[j]? = some (T (k - j) j) := by
  unfold dia
  rw [List.getElem?_map, List.getElem?_range (by omega)]
  rfl
/-- A diagonal, the first j numbers filled in. -/
def diaTo (T : Tab) (k j : Nat) : List Int := (List.range (k + 1)).map fun i => if i < j then T (k - i) i else 0
theorem diaTo_zero (T : Tab) (k : Nat) : diaTo T k 0 = List.replicate (k + 1) 0 := by
  refine List.ext_getElem? fun i => ?_
  unfold diaTo
  rw [List.getElem?_map, List.getElem?_replicate]
  by_cases h : i < k + 1
  · rw [List.getElem?_range h, if_pos h]; rfl
  · rw [List.getElem?_eq_none (by rw [List.length_range]; omega), if_neg h]; rfl
theorem diaTo_len (T : Tab) (k j : Nat) : (diaTo T k j).length = k + 1 := by simp [diaTo]
theorem diaTo_all (T : Tab) (k : Nat) : diaTo T k (k + 1) = dia T k := by
  unfold diaTo dia
  refine List.map_congr_left fun i hi => ?_
  rw [if_pos (List.mem_range.1 hi)]
theorem diaTo_set (T : Tab) (k j : Nat) (h : j ≤ k) : (diaTo T k j).set j (T (k - j) j) = diaTo T k (j + 1) := by
  refine List.ext_getElem? fun i => ?_
  rw [List.getElem?_set, diaTo_len]
  unfold diaTo
  rw [List.getElem?_map, List.getElem?_map]
  by_cases hi : i < k + 1
  · rw [List.getElem?_range hi]
    by_cases e : j = i
    · subst e
      rw [if_pos rfl, if_pos (by omega)]
      simp
    · rw [if_neg e]
      simp only [Option.map_some]
      congr 1
      by_cases c : i < j
      · rw [if_pos c, if_pos (by omega)]
      · rw [if_neg c, if_neg (by omega)]
  · rw [List.getElem?_eq_none (by rw [List.length_range]; omega), if_neg (by omega)]
    rfl
theorem made_list1 (n : Nat) : (List.range n).flatMap (fun _ => [Value.int .i64 0]) = (List.replicate n (0 : Int)).map (Value.int .i64) := by
  induction n with
  | zero => rfl
  | succ n ih => rw [List.range_succ, List.flatMap_append, ih, List.replicate_succ', List.map_append]; rfl

def DiaRes (T : Tab) (k : Nat) (w : World) (e : Ending) (w' : World) : Prop := ∃ u, e = .returned u ∧ w'.ownsRow w.heap.size 2 1 u (k + 1) ((dia T k).map (Value.int .i64)) ∧ Below w.heap.size w w'

set_option maxHeartbeats 1000000 in
theorem diagonal_any (b k : Nat) (T : Tab) (w : World) (h : TabAt w b T) (hk : k < 6) :
    Calls Try.prog 163 #[.pointer (some ⟨b, 0, none⟩), .int .i64 k] w (DiaRes T k w) := by
  obtain ⟨i0, hi, hz0, hz1, hz2⟩ := info_parts Try.info2
  have HT := Lib.hid h
  clear h
  go_enter Try.func163, Try.ntmps163
  go_upto_region 2 with (at_make; refine wpList_make_full _ rfl _ _ 65 rfl w.heap.size 2 i0 (.int .i64 0) 1 Try.underlying65 hi hz0 hz1 .i64 .i64 ((k : Int) + 1) ((k : Int) + 1) (k + 1) rfl rfl (by simp) (by simp) (by rw [hz2]; omega) (by unfold maxLen; omega) (Nat.le_refl _) ?_; intro w5 hown hgrow; rw [made_list0] at hown; have H5 := Lib.hid hown; have G5 := Lib.hid hgrow; clear hown hgrow)
  have O5 : Hid (w5.ownsRow w.heap.size 2 1 (.slice (some ⟨w.heap.size, 0, none⟩) (k + 1) (k + 1)) (k + 1) ((diaTo T k 0).map (Value.int .i64))) := Lib.hid (by rw [diaTo_zero]; exact H5.out)
  have B5 : Hid (Below w.heap.size w w5) := Lib.hid ((Below.refl w.heap.size w).grown G5.out (Nat.le_refl _) (by intro q hq; cases hq))
  clear H5 G5
  go_wp2_with fail
  go_loopw [12, 6] (fun c _ wr => ∃ j : Nat, j ≤ k + 1 ∧ c = .int .i64 j ∧ Hid (wr.ownsRow w.heap.size 2 1 (.slice (some ⟨w.heap.size, 0, none⟩) (k + 1) (k + 1)) (k + 1) ((diaTo T k j).map (Value.int .i64))) ∧ Hid (Below w.heap.size w wr)) (fun c _ _ => k + 1 - (intOf c).toNat)
  case atStart => exact ⟨0, by omega, rfl, O5, B5⟩
  case round =>
    clear O5 B5
    obtain ⟨j, hj, rfl, hO, hB⟩ := hrel
    by_cases hlt : j < k + 1
    · have hlt' : (j : Int) < (k : Int) + 1 := by omega
      obtain ⟨d, hd⟩ : ∃ d : Nat, k - j = d := ⟨_, rfl⟩
      have ed : (k : Int) - (j : Int) = (d : Int) := by omega
      have c1 := (HT.out.up hB.out).cell d j (by omega) (by omega)
      have NX : Hid ((diaTo T k j).set j (T d j) = diaTo T k (j + 1)) := Lib.hid (by rw [← hd]; exact diaTo_set T k j (by omega))
      generalize T d j = x at c1 NX
      have c2 := World.ownsRow.cellAt hO.out j (by omega)
      rw [List.getElem?_map, List.getElem?_eq_getElem (by rw [diaTo_len]; exact hlt)] at c2
      simp only [Option.map_some] at c2
      generalize (diaTo T k j)[j]'(by rw [diaTo_len]; exact hlt) = x0 at c2
      have f2 := World.ownsRow.frozenAt hO.out j
      obtain ⟨st1, st2⟩ := World.ownsRow.stored hO.out j (.int .i64 x)
      rw [← List.map_set, NX.out] at st1
      have O6 := Lib.hid st1
      have B6 := Lib.hid (hB.out.setCell (p := ⟨w.heap.size, j, none⟩) (Nat.le_refl _) (.int .i64 x))
      have hd5 : (d : Int) < 6 := by omega
      have hj5 : (j : Int) < 6 := by omega
      clear hO hB hd st1 st2
      have hkd : wrap64 ((k : Int) - (j : Int)) = (d : Int) := by rw [ed]; exact wrap_same (by omega) (by omega)
      go_wp2_with fail
      go_roundw
      case rel => exact ⟨j + 1, by omega, by go_num, O6, B6⟩
      case measure => simp [intOf]; omega
    · obtain rfl : j = k + 1 := by omega
      have hlt' : ¬ ((k + 1 : Nat) : Int) < (k : Int) + 1 := by omega
      have O6 := Lib.hid hO.out
      rw [diaTo_all] at O6
      clear hO
      go_wp2_with fail
      go_ret
      exact ⟨_, rfl, O6.out, hB.out⟩

def TrimRes (L : List Int) (B : Nat) (w : World) (e : Ending) (w' : World) : Prop := ∃ u, e = .returned u ∧ w' = w ∧ w.ownsRow B 2 1 u (trim L).length ((trim L).map (Value.int .i64))
set_option maxHeartbeats 1000000 in
theorem trimmed_any (L : List Int) (B : Nat) (oa : Option Addr) (oc : Nat) (w : World) (hO : w.ownsRow B 2 1 (.slice oa L.length oc) L.length (L.map (Value.int .i64))) (hs : L.length ≤ 20) :
    Calls Try.prog 126 #[.slice oa L.length oc] w (TrimRes L B w) := by
  have HO := Lib.hid hO
  clear hO
  go_enter Try.func126, Try.ntmps126
  go_wp2_with fail
  go_loopw [0] (fun S wr => ∃ j : Nat, j ≤ L.length ∧ S = .slice oa j oc ∧ Hid (wr = w) ∧ Hid (trimTo L j = trim L)) (fun S _ => slen S)
  case atStart => exact ⟨L.length, Nat.le_refl _, rfl, Lib.hid rfl, Lib.hid rfl⟩
  case round =>
    obtain ⟨j, hj, rfl, hw, hT⟩ := hrel
    have FIN : Hid (∀ l, trim L = l → l = L.take j → l.length = j → TrimRes L B w (.returned (.slice oa j oc)) wr) := Lib.hid (fun l e1 e2 e3 => by
      refine ⟨_, rfl, hw.out, ?_⟩
      rw [e1, e3]
      have := own_take HO.out j hj
      rw [← List.map_take, ← e2] at this
      exact this)
    cases j with
    | zero =>
      have FN := Lib.hid (FIN.out [] (by rw [← hT.out]; rfl) (by simp) rfl)
      clear FIN
      go_wp2_with fail
      go_ret
      exact FN.out
    | succ t =>
      rcases HO.out.2 with ⟨_, h0⟩ | ⟨g, cp, cur, e9, _, _, hcp, _⟩
      · omega
      · cases e9
        have c1 : wr.cell? ⟨g, t, none⟩ = some (.int .i64 (L[t]?.getD 0)) := by
          rw [hw.out, HO.out.cellAt t (by omega), List.getElem?_map, List.getElem?_eq_getElem (by omega)]
          rfl
        have htc : (t : Int) ≤ (oc : Int) := by omega
        by_cases hz : L[t]?.getD 0 = 0
        · have T2 : Hid (trimTo L t = trim L) := Lib.hid (by rw [← trimTo_zero L t hz]; exact hT.out)
          rw [hz] at c1
          clear hz FIN hT
          go_wp2_with fail
          go_roundw
          case rel => exact ⟨t, by omega, rfl, hw, T2⟩
          case measure => simp [slen]
        · have FN := Lib.hid (FIN.out (L.take (t + 1)) (by rw [← hT.out]; exact trimTo_take L t hz) rfl (by rw [List.length_take]; omega))
          have hz2 : (L[t]?.getD 0 == 0) = false := by rw [beq_eq_false_iff_ne]; exact hz
          generalize L[t]?.getD 0 = x at c1 hz2
          clear hz FIN hT
          go_wp2_with fail
          go_ret
          exact FN.out

/-- The sums of the first k diagonals of the square. -/
def outsI (T : Tab) (k : Nat) : List Int := (List.range k).map fun i => sm (dia T (i + 1))
theorem outsI_len (T : Tab) (k : Nat) : (outsI T k).length = k := by simp [outsI]
theorem outsI_succ (T : Tab) (k : Nat) : outsI T (k + 1) = outsI T k ++ [sm (dia T (k + 1))] := by simp [outsI, List.range_succ]

set_option maxHeartbeats 2000000 in
theorem term_any (b : Nat) (T : Tab) (w : World) (h : TabAt w b T) (hT : ∀ a b, 0 ≤ T a b ∧ T a b ≤ 1000000) :
    Calls Try.prog 137 #[.pointer (some ⟨b, 0, none⟩)] w (ResPost (resI T) w) := by
  have H := Lib.hid h
  have HT := Lib.hid hT
  have O0 : Hid (w.ownsRow w.heap.size 2 1 (.slice none 0 0) 0 ((outsI T 0).map (Value.int .i64))) := Lib.hid (World.ownsRow_nil _ _ _ _)
  clear h hT
  go_enter Try.func137, Try.ntmps137
  go_wp2_with fail
  go_loopw [5, 4] (fun K O wr => ∃ k : Nat, k ≤ 5 ∧ K = .int .i64 ((k : Int) + 1) ∧ Hid (wr.ownsRow w.heap.size 2 1 O k ((outsI T k).map (Value.int .i64))) ∧ Hid (Below w.heap.size w wr) ∧ Hid (∀ k', k' < k → apL (dia T (k' + 1)))) (fun K _ _ => 7 - (intOf K).toNat)
  case atStart => exact ⟨0, by omega, rfl, O0, Lib.hid (Below.refl _ _), Lib.hid (fun k hk => absurd hk (Nat.not_lt_zero _))⟩
  case round =>
    clear O0
    obtain ⟨k, hk, rfl, hO, hB, hA⟩ := hrel
    rename World => w1
    by_cases hlt : k < 5
    · have hlt' : (k : Int) + 1 < 6 := by omega
      have DI := Lib.hid (diagonal_any b (k + 1) T w1 (H.out.up hB.out) (by omega))
      have ek : ((k + 1 : Nat) : Int) = (k : Int) + 1 := by omega
      rw [ek] at DI
      clear ek
      go_wp2_with fail
      refine DI.out.mono ?_
      rintro e w2 ⟨u, rfl, hL, hC⟩
      obtain ⟨l, hl⟩ : ∃ l, dia T (k + 1) = l := ⟨_, rfl⟩
      have hln : k + 1 + 1 = l.length := by rw [← hl, dia_len]
      have hlen : l.length ≤ 6 := by omega
      have hbd : Hid (∀ z ∈ l, 0 ≤ z ∧ z ≤ 1000000) := Lib.hid (fun z hz => by
        rw [← hl] at hz
        obtain ⟨x, y, e⟩ := dia_mem hz
        rw [e]; exact HT.out x y)
      have HSD : Hid (dia T (k + 1) = l) := Lib.hid hl
      rw [hl, hln] at hL
      have RL := Lib.hid (rd_of_own hL rfl)
      obtain ⟨la, lc, rfl, _⟩ := own_len hL
      have HC := Lib.hid hC
      have hok : okNums (fun j => l[j]?.getD 0) l.length := fun i hi => by have := getD_small hbd.out i; show 0 ≤ l[i]?.getD 0 ∧ l[i]?.getD 0 ≤ 1000000000000; constructor <;> omega
      have HOK := Lib.hid hok
      clear hl hL hC DI hln hok
      by_cases hap : apL l
      · have AP := Lib.hid (implMulti_ok _ l.length _ w2 RL.out (by omega) HOK.out hap)
        have HA2 : Hid (∀ k', k' < k + 1 → apL (dia T (k' + 1))) := Lib.hid (fun k' hk' => by
          by_cases e : k' = k
          · rw [e, HSD.out]; exact hap
          · exact hA.out k' (by omega))
        have OS : Hid (outsI T (k + 1) = outsI T k ++ [sm l]) := Lib.hid (by rw [outsI_succ, HSD.out])
        clear hap hA
        go_wp2_with fail
        refine AP.out.mono ?_
        rintro e w3 ⟨rfl, rfl⟩
        go_wp2_with fail
        go_loopw [28, 9] (fun c s wr => ∃ j : Nat, j ≤ l.length ∧ c = .int .i64 j ∧ s = .int .i64 (smTo l j) ∧ Hid (wr = w2)) (fun c _ _ => l.length - (intOf c).toNat)
        case atStart => exact ⟨0, by omega, rfl, rfl, Lib.hid rfl⟩
        case round =>
          obtain ⟨j, hj, rfl, rfl, hw⟩ := hrel
          by_cases hjl : j < l.length
          · have hjl' : (j : Int) < (l.length : Int) := by omega
            obtain ⟨a8, c8, e8, _, hr⟩ := RL.out
            cases e8
            obtain ⟨bl, ol, rfl, hr2⟩ := hr.resolve_left (by omega)
            have c1 : wr.cell? ⟨bl, ol + j, none⟩ = some (.int .i64 (l[j]?.getD 0)) := by rw [hw.out]; exact hr2 j hjl
            have SM : smTo l (j + 1) = smTo l j + l[j]?.getD 0 := rfl
            have b1 := smTo_bound hbd.out j (by omega)
            have b2 := smTo_bound hbd.out (j + 1) (by omega)
            have HSM := Lib.hid SM
            rw [SM] at b2
            clear hr hr2 SM
            generalize l[j]?.getD 0 = x at c1 HSM b2
            generalize smTo l j = y at HSM b1 b2 ⊢
            have hwr : wrap64 (y + x) = y + x := by unfold wrap64; omega
            clear b1 b2
            go_wp2_with fail
            go_roundw
            case rel => exact ⟨j + 1, by omega, by go_num, by rw [HSM.out]; first | rfl | rw [hwr], hw⟩
            case measure => simp [intOf]; omega
          · obtain rfl : j = l.length := by omega
            have BW := Lib.hid (hB.out.trans (HC.out.mono hB.out.size))
            have O1 := Lib.hid (own_below hO.out HC.out)
            have ES : smTo l l.length = sm l := rfl
            rw [ES]
            rw [← hw.out] at BW O1
            generalize sm l = x at OS ⊢
            have O2 := Lib.hid (O1.out.alloc (.cells #[.int .i64 x] 2))
            have B2 := Lib.hid (BW.out.alloc BW.out.size (.cells #[.int .i64 x] 2))
            have SR := Lib.hid (one_src (w := wr) (t := 2) (.int .i64 x))
            clear ES O1 BW hw hO hB RL AP HC
            go_wp2_with (at_builtin; refine wpList_ints _ rfl _ _ rfl w.heap.size k _ _ rfl O2.out (some ⟨wr.heap.size, 0, none⟩) 1 1 [Value.int .i64 x] rfl (.inr ⟨_, rfl, SR.out⟩) rfl (by simp [Value.oneCell']) (by omega) B2.out.size ?_; intro v3 w3 ho3 hg3; have O3 := Lib.hid ho3; have B3 := Lib.hid (B2.out.grown hg3 B2.out.size (fun q hq => (O2.out.lt q (hq.symm ▸ rfl)).1)); clear ho3 hg3)
            go_roundw
            case rel => exact ⟨k + 1, by omega, by go_num, Lib.hid (by rw [OS.out, List.map_append]; exact O3.out), B3, HA2⟩
            case measure => simp [intOf]; omega
      · have AP := Lib.hid (implMulti_not _ l.length _ w2 RL.out (by omega) HOK.out hap)
        have RN : Hid (resI T = none) := Lib.hid (by
          unfold resI
          rw [if_neg (fun h => hap (by rw [← HSD.out]; exact h k hlt))])
        clear hap
        go_wp2_with fail
        refine AP.out.mono ?_
        rintro e w3 ⟨rfl, rfl⟩
        go_wp2_with fail
        go_ret2
        rw [RN.out]
        exact ⟨rfl, hB.out.trans (HC.out.mono hB.out.size)⟩
    · obtain rfl : k = 5 := by omega
      have RN : Hid (resI T = some (trim (outsI T 5))) := Lib.hid (by
        unfold resI
        rw [if_pos (fun k hk => hA.out k hk)]
        rfl)
      have hLn := outsI_len T 5
      generalize outsI T 5 = L at *
      have O5 : Hid (w1.ownsRow w.heap.size 2 1 u4 L.length (L.map (Value.int .i64))) := Lib.hid (by rw [hLn]; exact hO.out)
      obtain ⟨oa, oc, rfl, _⟩ := own_len O5.out
      have TR := Lib.hid (trimmed_any L w.heap.size oa oc w1 O5.out (by omega))
      clear hO hA hLn O5
      go_wp2_with fail
      refine TR.out.mono ?_
      rintro e w3 ⟨u, rfl, rfl, ho⟩
      have HO := Lib.hid ho
      clear ho TR
      go_wp2_with fail
      go_ret2
      rw [RN.out]
      exact ⟨u, rfl, HO.out, hB.out⟩
end Go.Proofs.Ytnmilkehggjpfaa
end
section
namespace Go.Proofs.Ytnmilkehggjpfaa
open Go.RowKit
set_option linter.unusedVariables false
set_option maxRecDepth 100000

/-- The edges as far as they are laid. -/
def ftab (r s : List Int) (p q : Nat) : Tab := fun a b => match a, b with
  | 0, 0 => 0
  | 0, b + 1 => if b < q then s[b]?.getD 0 else 0
  | a + 1, 0 => if a < p then r[a]?.getD 0 else 0
  | _ + 1, _ + 1 => 0
theorem ftab_zero (r s : List Int) : ftab r s 0 0 = fun _ _ => 0 := by
  funext a b
  match a, b with
  | 0, 0 => rfl
  | 0, b + 1 => rfl
  | a + 1, 0 => rfl
  | _ + 1, _ + 1 => rfl
theorem ftab_all (r s : List Int) : ftab r s r.length s.length = T0 r s := by
  funext a b
  match a, b with
  | 0, 0 => rfl
  | 0, b + 1 =>
    show (if b < s.length then s[b]?.getD 0 else 0) = s[b]?.getD 0
    split
    · rfl
    · rw [List.getElem?_eq_none (by omega)]; rfl
  | a + 1, 0 =>
    show (if a < r.length then r[a]?.getD 0 else 0) = r[a]?.getD 0
    split
    · rfl
    · rw [List.getElem?_eq_none (by omega)]; rfl
  | _ + 1, _ + 1 => rfl
theorem ftab_r (r s : List Int) (p : Nat) : updT (ftab r s p 0) (p + 1) 0 (r[p]?.getD 0) = ftab r s (p + 1) 0 := by
  funext a b
  unfold updT
  match a, b with
  | 0, 0 => rw [if_neg (by omega)]; rfl
  | 0, b + 1 => rw [if_neg (by omega)]; rfl
  | a + 1, 0 =>
    by_cases e : a = p
    · subst e; rw [if_pos ⟨rfl, rfl⟩]; show _ = (if a < a + 1 then _ else _); rw [if_pos (by omega)]
    · rw [if_neg (by omega)]
      show (if a < p then r[a]?.getD 0 else 0) = (if a < p + 1 then r[a]?.getD 0 else 0)
      by_cases c : a < p
      · rw [if_pos c, if_pos (by omega)]
      · rw [if_neg c, if_neg (by omega)]
  | _ + 1, _ + 1 => rw [if_neg (by omega)]; rfl
theorem ftab_s (r s : List Int) (p q : Nat) : updT (ftab r s p q) 0 (q + 1) (s[q]?.getD 0) = ftab r s p (q + 1) := by
  funext a b
  unfold updT
  match a, b with
  | 0, 0 => rw [if_neg (by omega)]; rfl
  | 0, b + 1 =>
    by_cases e : b = q
    · subst e; rw [if_pos ⟨rfl, rfl⟩]; show _ = (if b < b + 1 then _ else _); rw [if_pos (by omega)]
    · rw [if_neg (by omega)]
      show (if b < q then s[b]?.getD 0 else 0) = (if b < q + 1 then s[b]?.getD 0 else 0)
      by_cases c : b < q
      · rw [if_pos c, if_pos (by omega)]
      · rw [if_neg c, if_neg (by omega)]
  | a + 1, 0 => rw [if_neg (by omega)]; rfl
  | _ + 1, _ + 1 => rw [if_neg (by omega)]; rfl

theorem tab_alloc (w : World) (T : Tab) : TabAt (w.alloc (.cells (tabA T) 147)) w.heap.size T := heap_alloc_new w _
theorem tabA_zero : tabA (fun _ _ => 0) = #[.int .i64 0, .int .i64 0, .int .i64 0, .int .i64 0, .int .i64 0, .int .i64 0, .int .i64 0, .int .i64 0, .int .i64 0, .int .i64 0, .int .i64 0, .int .i64 0, .int .i64 0, .int .i64 0, .int .i64 0, .int .i64 0, .int .i64 0, .int .i64 0, .int .i64 0, .int .i64 0, .int .i64 0, .int .i64 0, .int .i64 0, .int .i64 0, .int .i64 0, .int .i64 0, .int .i64 0, .int .i64 0, .int .i64 0, .int .i64 0, .int .i64 0, .int .i64 0, .int .i64 0, .int .i64 0, .int .i64 0, .int .i64 0] := rfl

/-- What the loops keep: the table in its variable, and the result's variable. -/
structure FirstSt (w : World) (T : Tab) (wr : World) : Prop where
  tab : TabAt wr (w.heap.size + 1) T
  res : TabAt wr w.heap.size (fun _ _ => 0)
  bel : Below w.heap.size w wr
  size : wr.heap.size = w.heap.size + 2
theorem FirstSt.start (w : World) : FirstSt w (fun _ _ => 0) ((w.alloc (.cells (tabA fun _ _ => 0) 147)).alloc (.cells (tabA fun _ _ => 0) 147)) := by
  refine ⟨?_, (tab_alloc w _).up ((Below.refl _ _).alloc (Nat.le_refl _) _), ((Below.refl _ w).alloc (Nat.le_refl _) _).alloc (by simp) _, by simp⟩
  have := tab_alloc (w.alloc (.cells (tabA fun _ _ => 0) 147)) (fun _ _ => 0)
  rwa [World.size_alloc] at this
theorem FirstSt.set {w wr : World} {T : Tab} (h : FirstSt w T wr) (i j : Nat) (hi : i < 6) (hj : j < 6) (x : Int) : FirstSt w (updT T i j x) (wr.setCell ⟨w.heap.size + 1, i * 6 + j, none⟩ (.int .i64 x)) :=
  ⟨h.tab.set i j hi hj x, (heap_setCell_other wr _ _ _ (by simp)).trans h.res, h.bel.setCell (p := ⟨w.heap.size + 1, i * 6 + j, none⟩) (by simp) _, by rw [← h.size]; simp [World.setCell]⟩

def FirstRes (r s : List Int) (w : World) (e : Ending) (w' : World) : Prop := e = .returned (.agg (tabA (T0 r s))) ∧ Below w.heap.size w w' ∧ w'.heap.size = w.heap.size + 2
set_option maxHeartbeats 1000000 in
theorem first_any (vr vs : Value) (r s : List Int) (w : World) (hr : RdI w vr r.length (fun j => r[j]?.getD 0)) (hs : RdI w vs s.length (fun j => s[j]?.getD 0)) (lr : r.length ≤ 5) (ls : s.length ≤ 5) :
    Calls Try.prog 161 #[vr, vs] w (FirstRes r s w) := by
  have HR := Lib.hid hr
  have HS := Lib.hid hs
  have ST := FirstSt.start w
  rw [← ftab_zero r s, ftab_zero r s, tabA_zero, ← ftab_zero r s] at ST
  have ST0 := Lib.hid ST
  obtain ⟨ar, cr, rfl, -, -⟩ := hr
  obtain ⟨ab, cs, rfl, -, -⟩ := hs
  clear ST
  go_enter Try.func161, Try.ntmps161
  go_wp2_with fail
  go_loopw [6, 7, 12] (fun _ _ c wr => ∃ p : Nat, p ≤ r.length ∧ c = .int .i64 p ∧ Hid (FirstSt w (ftab r s p 0) wr)) (fun _ _ c _ => r.length - (intOf c).toNat)
  case atStart => exact ⟨0, by omega, rfl, ST0⟩
  case round =>
    clear ST0
    obtain ⟨p, hp, rfl, hI⟩ := hrel
    rename World => w1
    by_cases hlt : p < r.length
    · have hlt' : (p : Int) < (r.length : Int) := by omega
      obtain ⟨a9, c9, e9, _, hc⟩ := HR.out.below hI.out.bel
      cases e9
      obtain ⟨b, o, rfl, hc2⟩ := hc.resolve_left (by omega)
      have c1 : w1.cell? ⟨b, o + p, none⟩ = some (.int .i64 (r[p]?.getD 0)) := hc2 p hlt
      have NX := ftab_r r s p
      have hS := hI.out.set (p + 1) 0 (by omega) (by omega) (r[p]?.getD 0)
      rw [NX] at hS
      simp only [Nat.add_zero] at hS
      have c2 := hI.out.tab.cell (p + 1) 0 (by omega) (by omega)
      simp only [Nat.add_zero] at c2
      have f2 := hI.out.tab.fr ((p + 1) * 6)
      have HSS := Lib.hid hS
      generalize ftab r s p 0 (p + 1) 0 = x0 at c2
      generalize r[p]?.getD 0 = x at c1 HSS
      have hp5 : (p : Int) + 1 < 6 := by omega
      clear hc hc2 NX hS hI
      go_wp2_with fail
      go_roundw
      case rel => exact ⟨p + 1, by omega, by go_num, HSS⟩
      case measure => simp [intOf]; omega
    · obtain rfl : p = r.length := by omega
      have hlt' : ¬ ((r.length : Nat) : Int) < (r.length : Int) := by omega
      go_wp2_with fail
      go_loopw [8, 9, 25] (fun _ _ c wr => ∃ q : Nat, q ≤ s.length ∧ c = .int .i64 q ∧ Hid (FirstSt w (ftab r s r.length q) wr)) (fun _ _ c _ => s.length - (intOf c).toNat)
      case atStart => exact ⟨0, by omega, rfl, hI⟩
      case round =>
        clear hI
        obtain ⟨q, hq, rfl, hI⟩ := hrel
        rename World => w1
        by_cases hlt : q < s.length
        · have hlt' : (q : Int) < (s.length : Int) := by omega
          obtain ⟨a9, c9, e9, _, hc⟩ := HS.out.below hI.out.bel
          cases e9
          obtain ⟨b, o, rfl, hc2⟩ := hc.resolve_left (by omega)
          have c1 : w1.cell? ⟨b, o + q, none⟩ = some (.int .i64 (s[q]?.getD 0)) := hc2 q hlt
          have NX := ftab_s r s r.length q
          have hS := hI.out.set 0 (q + 1) (by omega) (by omega) (s[q]?.getD 0)
          rw [NX] at hS
          simp only [Nat.zero_mul, Nat.zero_add] at hS
          have c2 := hI.out.tab.cell 0 (q + 1) (by omega) (by omega)
          simp only [Nat.zero_mul, Nat.zero_add] at c2
          have f2 := hI.out.tab.fr (q + 1)
          have HSS := Lib.hid hS
          generalize ftab r s r.length q 0 (q + 1) = x0 at c2
          generalize s[q]?.getD 0 = x at c1 HSS
          have hp5 : (q : Int) + 1 < 6 := by omega
          clear hc hc2 NX hS hI
          go_wp2_with fail
          go_roundw
          case rel => exact ⟨q + 1, by omega, by go_num, HSS⟩
          case measure => simp [intOf]; omega
        · obtain rfl : q = s.length := by omega
          have hlt' : ¬ ((s.length : Nat) : Int) < (s.length : Int) := by omega
          have J := hI.out
          rw [ftab_all] at J
          have HJ := Lib.hid J
          clear hI J
          go_wp2_with (first
            | (refine ldT rfl _ rfl (w.heap.size + 1) rfl (T0 r s) HJ.out.tab ?_)
            | (refine wpList_store_row rfl 147 _ _ rfl w.heap.size (tabA (T0 r s)) rfl rfl 147 _ HJ.out.res (by rw [sizeT, tabA_size]) (by rw [tabA_size, tabA_size]) (tabA_one _) ?_))
          refine bodyPost_ret (results_cell_row rfl _ _ w.heap.size 147 (tabA (T0 r s)) (0, 0) _ rfl (setRow_heap _ _ _ _ _ _ HJ.out.res) Try.underlying147 rfl (by rw [sizeT, tabA_size])) rfl ?_
          exact ⟨rfl, below_setRow HJ.out.bel (Nat.le_refl _) _, by rw [← HJ.out.size]; simp [World.setRow]⟩
end Go.Proofs.Ytnmilkehggjpfaa
end
