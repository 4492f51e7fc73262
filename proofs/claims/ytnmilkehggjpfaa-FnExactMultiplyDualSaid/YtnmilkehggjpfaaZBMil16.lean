/-
  Joined: PProd, PBnd, PStart.
-/
import Derived.Test.YtnmilkehggjpfaaZBMil15
import Derived.Test.YtnmilkehggjpfaaZBMil02
import Derived.Test.YtnmilkehggjpfaaZBMil06
import Derived.Test.YtnmilkehggjpfaaZBMil12
import Derived.Test.YtnmilkehggjpfaaZBMil11
section
namespace Go.Proofs.Ytnmilkehggjpfaa
open Go.RowKit
set_option linter.unusedVariables false
set_option maxRecDepth 100000

/-- The table at the start: only its edges. -/
def T0 (r s : List Int) : Tab := fun a b => match a, b with
  | 0, 0 => 0
  | 0, b + 1 => s[b]?.getD 0
  | a + 1, 0 => r[a]?.getD 0
  | _ + 1, _ + 1 => 0
theorem tab_top (r s : List Int) : tabX (T0 r s) s.length 0 = 0 :: s := by
  refine List.ext_getElem? fun k => ?_
  unfold tabX
  rw [List.getElem?_map]
  cases k with
  | zero => simp [T0]
  | succ k =>
    rw [List.getElem?_cons_succ]
    by_cases h : k < s.length
    · rw [List.getElem?_range (by omega), List.getElem?_eq_getElem h]
      simp [T0, h]
    · rw [List.getElem?_eq_none (by rw [List.length_range]; omega), List.getElem?_eq_none (by omega)]
      rfl
theorem tab_row (r s : List Int) (i : Nat) : tabX (T0 r s) s.length (i + 1) = (List.replicate (s.length + 1) (0 : Int)).set 0 (r[i]?.getD 0) := by
  refine List.ext_getElem? fun k => ?_
  unfold tabX
  rw [List.getElem?_map, List.getElem?_set, List.length_replicate]
  cases k with
  | zero => simp [T0]
  | succ k =>
    rw [if_neg (by omega), List.getElem?_replicate]
    by_cases h : k + 1 < s.length + 1
    · rw [List.getElem?_range h, if_pos h]
      rfl
    · rw [List.getElem?_eq_none (by rw [List.length_range]; omega), if_neg h]
      rfl
theorem T0_in (r s : List Int) (p : Nat × Nat) (h1 : 1 ≤ p.1) (h2 : 1 ≤ p.2) : T0 r s p.1 p.2 = 0 := by
  obtain ⟨a, b⟩ := p
  obtain ⟨a, rfl⟩ : ∃ c, a = c + 1 := ⟨a - 1, by simp only at h1; omega⟩
  obtain ⟨b, rfl⟩ : ∃ c, b = c + 1 := ⟨b - 1, by simp only at h2; omega⟩
  rfl
theorem getD_bound {l : List Int} (h : ∀ z ∈ l, 0 ≤ z ∧ z ≤ 1000000) (i : Nat) : 0 ≤ l[i]?.getD 0 ∧ l[i]?.getD 0 ≤ 1000000 := by
  by_cases k : i < l.length
  · rw [List.getElem?_eq_getElem k]
    exact h _ (List.getElem_mem k)
  · rw [List.getElem?_eq_none (by omega)]
    exact ⟨by decide, by decide⟩
theorem T0_bound {r s : List Int} (hr : ∀ z ∈ r, 0 ≤ z ∧ z ≤ 1000000) (hs : ∀ z ∈ s, 0 ≤ z ∧ z ≤ 1000000) : ∀ a b, 0 ≤ T0 r s a b ∧ T0 r s a b ≤ 1000000
  | 0, 0 => ⟨Int.le_refl 0, by show (0 : Int) ≤ 1000000; omega⟩
  | 0, b + 1 => getD_bound hs b
  | a + 1, 0 => getD_bound hr a
  | _ + 1, _ + 1 => ⟨Int.le_refl 0, by show (0 : Int) ≤ 1000000; omega⟩

/-- A row as a source. -/
theorem src_of_own {w : World} {B n : Nat} {v : Value} {e : TypeId} {xs : List Value} (h : w.ownsRow B e 1 v n xs) : ∃ ap c, v = .slice ap n c ∧ ((ap = none ∧ n = 0 ∧ c = 0) ∨ ∃ ad, ap = some ad ∧ ∀ j u, xs[j]? = some u → w.cell? (ad.add j) = some u) := by
  rcases h.2 with ⟨rfl, rfl⟩ | ⟨g, cap, cur, rfl, _⟩
  · exact ⟨none, 0, rfl, .inl ⟨rfl, rfl, rfl⟩⟩
  · exact ⟨_, cap, rfl, .inr ⟨_, rfl, own_src h⟩⟩

theorem shape_pos {w : World} {B n : Nat} {v : Value} {xs : List Value} {e : TypeId} {s : Nat} (h : w.ownsRow B e s v n xs) (hn : 0 < n) : ∃ g cap, v = .slice (some ⟨g, 0, none⟩) n cap := by
  rcases h.2 with ⟨_, h1⟩ | ⟨g, cap, cur, h1, _⟩
  · omega
  · exact ⟨g, cap, h1⟩
theorem fam_one {w3 : World} {B : Nat} {v : Value} {x : List Int} (h : w3.ownsRow B 2 1 v x.length (x.map (Value.int .i64))) (hB : B ≤ w3.heap.size) : FamL (w3.alloc (.cells #[v] 65)) B (.slice (some ⟨w3.heap.size, 0, none⟩) 1 1) (fun _ => v) [x] := by
  refine ⟨own_base (by simpa [List.range_succ] using own_one w3 v 65) hB, fun i hi => ?_⟩
  obtain rfl : i = 0 := by simp at hi; exact hi
  exact h.alloc _

set_option maxHeartbeats 1000000 in
theorem l04Product_any (vr vs : Value) (r s : List Int) (B1 B2 : Nat) (w : World) (hr : w.ownsRow B1 2 1 vr r.length (r.map (Value.int .i64))) (hs : w.ownsRow B2 2 1 vs s.length (s.map (Value.int .i64)))
    (hn : r.length ≤ 5) (hm : s.length ≤ 5) (br : ∀ z ∈ r, 0 ≤ z ∧ z ≤ 1000000) (bs : ∀ z ∈ s, 0 ≤ z ∧ z ≤ 1000000) (hlen : (resF (resS r.length s.length) (rm r.length s.length) (T0 r s)).length ≤ 100000000000) :
    Calls Try.prog 138 #[vr, vs] w (FillPost w.heap.size w [] (resF (resS r.length s.length) (rm r.length s.length) (T0 r s))) := by
  obtain ⟨i0, hi, hz0, hz1, hz2⟩ := info_parts Try.info2
  obtain ⟨ar, cr, rfl, _⟩ := src_of_own hr
  have HR := Lib.hid hr
  have TB := Lib.hid (T0_bound br bs)
  have HLEN := Lib.hid hlen
  have FILL := Lib.hid (fun (V : Value) (VS : Nat → Value) (w5 : World) (B : Nat) (hF : Fam w5 B V (r.length + 1) VS (tabX (T0 r s) s.length)) (O : Value) (hO : FamL w5 w.heap.size O (fun _ => undef) []) (hsz : w.heap.size ≤ w5.heap.size) =>
    (show Calls Try.prog 165 #[V, .int .i64 1, .int .i64 1, O] w5 (FillPost w.heap.size w5 [] (resF (resS r.length s.length) (rm r.length s.length) (T0 r s))) from l04Fill_any hn hm (Pl.all r.length s.length) V VS (T0 r s) O (fun _ => undef) [] B w.heap.size w5 (Nat.le_refl 1) (Nat.le_refl 1) hF (T0_bound br bs) (fun p hp => T0_in r s p (rm_mem.1 hp).1.1 (rm_mem.1 hp).2.1) hO (fun i j hi => absurd hi (Nat.not_lt_zero _)) List.Pairwise.nil hsz (by simpa using hlen)))
  have O0 : Hid ((w.alloc (.cells #[.int .i64 0] 2)).ownsRow w.heap.size 2 1 (.slice (some ⟨w.heap.size, 0, none⟩) 1 1) 1 [.int .i64 0]) := Lib.hid (own_one w _ _)
  have B0 : Hid (Below w.heap.size w (w.alloc (.cells #[.int .i64 0] 2))) := Lib.hid ((Below.refl _ w).alloc (Nat.le_refl _) _)
  obtain ⟨ap, cs, rfl, hsrc⟩ := src_of_own (hs.alloc (.cells #[.int .i64 0] 2))
  have SRC := Lib.hid hsrc
  have T1 := Lib.hid (tab_top r s)
  have hmb : s.length ≤ 400000 := by omega
  have hbr := br
  clear hr hs br bs hlen hsrc
  have T2 := Lib.hid (tab_row r s)
  have EX : Hid (∀ z ∈ r, 0 ≤ z ∧ z ≤ 1000000) := Lib.hid hbr
  clear hbr
  have LM : Hid ((s.map (Value.int .i64)).length = s.length) := Lib.hid (by simp)
  have ONE : Hid (∀ u ∈ s.map (Value.int .i64), u.oneCell' = true) := Lib.hid (fun u hu => by obtain ⟨z, _, rfl⟩ := List.mem_map.1 hu; rfl)
  have LE : Hid (1 + s.length ≤ 400000000000) := Lib.hid (by omega)
  have NEXT : Hid (∀ (v3 : Value) (w3 : World), w3.ownsRow w.heap.size 2 1 v3 (1 + s.length) ([.int .i64 0] ++ s.map (Value.int .i64)) → (w.alloc (.cells #[.int .i64 0] 2)).grownBy w3 (Value.slice (some ⟨w.heap.size, 0, none⟩) 1 1).ownBlock →
      (∃ g3 c3, v3 = .slice (some ⟨g3, 0, none⟩) (1 + s.length) c3) ∧ w3.ownsRow w.heap.size 2 1 v3 (1 + s.length) ([.int .i64 0] ++ s.map (Value.int .i64)) ∧ Below w.heap.size w w3) := Lib.hid (fun v3 w3 ho3 hg3 => ⟨shape_pos ho3 (by omega), ho3, B0.out.grown hg3 B0.out.size (fun q hq => (O0.out.lt q hq).1)⟩)
  clear HLEN TB EX
  cases ap
  all_goals
    go_enter Try.func138, Try.ntmps138
    go_wp2_with (at_builtin; refine wpList_ints _ rfl _ _ rfl w.heap.size 1 _ _ rfl O0.out _ s.length cs (s.map (Value.int .i64)) rfl SRC.out LM.out ONE.out LE.out B0.out.size ?_; intro v3 w3 ho3 hg3; have P3 := Lib.hid (NEXT.out v3 w3 ho3 hg3); clear ho3 hg3; obtain ⟨g3, c3, rfl⟩ := P3.out.1)
    have O3 := Lib.hid P3.out.2.1
    have B3 := Lib.hid P3.out.2.2
    have F1 : Hid (FamL (w3.alloc (.cells #[.slice (some ⟨g3, 0, none⟩) (1 + s.length) c3] 65)) w.heap.size (.slice (some ⟨w3.heap.size, 0, none⟩) 1 1) (fun _ => .slice (some ⟨g3, 0, none⟩) (1 + s.length) c3) (rowsL (tabX (T0 r s) s.length) (0 + 1))) := Lib.hid (by
      have h1 := O3.out
      have e : rowsL (tabX (T0 r s) s.length) (0 + 1) = [0 :: s] := by show [tabX (T0 r s) s.length 0] = _; rw [T1.out]
      rw [e]
      exact fam_one (x := 0 :: s) (by rw [show (0 :: s).length = 1 + s.length by rw [List.length_cons, Nat.add_comm]]; exact h1) B3.out.size)
    have B1' := Lib.hid (B3.out.alloc B3.out.size (.cells #[.slice (some ⟨g3, 0, none⟩) (1 + s.length) c3] 65))
    clear O0 B0 O3 B3 SRC T1
    go_wp2_with fail
    go_loopw [5, 6, 7] (fun S c _ wr => ∃ (k : Nat) (VS : Nat → Value), k ≤ r.length ∧ c = .int .i64 k ∧ Hid (FamL wr w.heap.size S VS (rowsL (tabX (T0 r s) s.length) (k + 1))) ∧ Hid (Sep (rowsL (tabX (T0 r s) s.length) (k + 1)).length VS) ∧ Hid (Below w.heap.size w wr)) (fun _ c _ _ => r.length + 1 - (intOf c).toNat)
    case atStart => exact ⟨0, _, by omega, rfl, F1, Lib.hid (fun i j hi hj hij => by rw [rowsL_len] at hi hj; omega), B1'⟩
    case round =>
      clear F1 B1'
      obtain ⟨k, VS, hk, rfl, hF, hS, hB⟩ := hrel
      by_cases hlt : k < r.length
      · have hlt' : (k : Int) < (r.length : Int) := by omega
        have o1 := own_below HR.out hB.out
        obtain ⟨gr, qr, er⟩ := shape_pos o1 (by omega)
        cases er
        have hc1 : (r.map (Value.int .i64))[k]? = some (.int .i64 r[k]) := by rw [List.getElem?_map, List.getElem?_eq_getElem hlt]; rfl
        have e1 : r[k]?.getD 0 = r[k] := by rw [List.getElem?_eq_getElem hlt]; rfl
        have NX := T2.out k
        rw [e1] at NX
        have HNX := Lib.hid NX
        have O1 := Lib.hid o1
        generalize r[k] = x at hc1 HNX
        have HC1 := Lib.hid hc1
        clear o1 NX e1 hc1
        go_upto_region 6 with (at_make; refine wpList_make_full _ rfl _ _ 65 rfl wr.heap.size 2 i0 (.int .i64 0) 1 Try.underlying65 hi hz0 hz1 .i64 .i64 ((s.length : Int) + 1) ((s.length : Int) + 1) (s.length + 1) rfl rfl (by simp) (by simp) (by rw [hz2]; omega) (by unfold maxLen; omega) (Nat.le_refl _) ?_; intro w5 hown hgrow; rw [made_list0] at hown; have H5 := Lib.hid hown; have G5 := Lib.hid hgrow; clear hown hgrow)
        have o5 := own_below O1.out ((Below.refl wr.heap.size wr).grown G5.out (Nat.le_refl _) (by intro k hk; cases hk))
        have c1 := o5.cellAt k (by omega)
        rw [HC1.out] at c1
        have c5 := World.ownsRow.cellAt H5.out 0 (by omega)
        rw [show ((List.replicate (s.length + 1) (0 : Int)).map (Value.int .i64))[0]? = some (.int .i64 0) by simp] at c5
        have f5 := World.ownsRow.frozenAt H5.out 0
        obtain ⟨st1, st2⟩ := World.ownsRow.stored H5.out 0 (.int .i64 x)
        rw [← List.map_set, ← HNX.out] at st1
        have b6 : Below wr.heap.size wr (w5.setCell ⟨wr.heap.size, 0, none⟩ (.int .i64 x)) := ((Below.refl wr.heap.size wr).grown G5.out (Nat.le_refl _) (by intro k hk; cases hk)).setCell (Nat.le_refl _) _
        have RW : Hid (rowsL (tabX (T0 r s) s.length) (k + 1 + 1) = rowsL (tabX (T0 r s) s.length) (k + 1) ++ [tabX (T0 r s) s.length (k + 1)]) := Lib.hid (rowsL_succ _ _)
        have LNT : (tabX (T0 r s) s.length (k + 1)).length = s.length + 1 := tabX_len _ _ _
        have PT := Lib.hid (fun V3 w3 => fam_put (w3 := w3) (V3 := V3) hF.out hS.out hB.out.size st1 LNT.symm b6 (.cells #[.slice (some ⟨wr.heap.size, 0, none⟩) (s.length + 1) (s.length + 1)] 65))
        have hsz : (w5.setCell ⟨wr.heap.size, 0, none⟩ (.int .i64 x)).heap.size = w5.heap.size := by simp [World.setCell]
        have sr := one_src (w := w5.setCell ⟨wr.heap.size, 0, none⟩ (.int .i64 x)) (t := 65) (.slice (some ⟨wr.heap.size, 0, none⟩) (s.length + 1) (s.length + 1))
        rw [hsz] at sr
        have SR := Lib.hid sr
        clear sr hsz
        have P1 := Lib.hid ((own_below hF.out.out b6).alloc (.cells #[.slice (some ⟨wr.heap.size, 0, none⟩) (s.length + 1) (s.length + 1)] 65))
        have Z1 : Hid (w.heap.size ≤ ((w5.setCell ⟨wr.heap.size, 0, none⟩ (.int .i64 x)).alloc (.cells #[.slice (some ⟨wr.heap.size, 0, none⟩) (s.length + 1) (s.length + 1)] 65)).heap.size) := Lib.hid (by have := hB.out.size; have := b6.size; simp only [World.alloc, Array.size_push]; omega)
        rw [rowsL_len] at P1 PT
        have KB := Lib.hid hB.out
        clear o5 st1 st2 b6 LNT H5 G5
        go_wp2_with (at_builtin; refine wpList_rows_at _ rfl _ _ rfl w.heap.size (k + 1) _ _ rfl P1.out ⟨w5.heap.size, 0, none⟩ 1 1 [.slice (some ⟨wr.heap.size, 0, none⟩) (s.length + 1) (s.length + 1)] rfl SR.out rfl (by simp [Value.oneCell']) (by omega) Z1.out ?_; intro V3 w3 ho3 hg3 _; have P3 := Lib.hid (PT.out V3 w3 ho3 hg3); clear ho3 hg3)
        go_roundw
        case rel => exact ⟨k + 1, _, by omega, by go_num, Lib.hid (by rw [RW.out]; exact P3.out.1), Lib.hid (by rw [RW.out]; exact P3.out.2.1), Lib.hid (KB.out.trans P3.out.2.2)⟩
        case measure => simp [intOf]; omega
      · obtain rfl : k = r.length := by omega
        have hlt' : ¬ ((r.length : Nat) : Int) < (r.length : Int) := by omega
        obtain ⟨ta, tc, et, _⟩ := hF.out.head
        have FF := Fam.ofRows hF.out
        have CALL := Lib.hid (FILL.out _ VS (wr.alloc (.cells #[] 65)) w.heap.size (FF.below ((Below.refl wr.heap.size wr).alloc (Nat.le_refl _) _)) (.slice (some ⟨wr.heap.size, 0, none⟩) 0 0) ⟨own_base (World.ownsRow_made wr #[] 0 (Nat.le_refl _) (Nat.zero_le _) (by simp)) hB.out.size, fun i hi => absurd hi (Nat.not_lt_zero _)⟩ (by have := hB.out.size; simp only [World.alloc, Array.size_push]; omega))
        have BW := Lib.hid (hB.out.alloc hB.out.size (.cells #[] 65))
        rw [rowsL_len] at et
        subst et
        clear FF hF hS hB FILL HR
        go_wp2_with fail
        refine CALL.out.mono ?_
        rintro e w5 ⟨O', OS', M', rfl, k1, k2, k3, k4, k5, k6⟩
        have K : Hid (FillPost w.heap.size w [] (resF (resS r.length s.length) (rm r.length s.length) (T0 r s)) (.returned O') w5) := Lib.hid ⟨O', OS', M', rfl, k1, k2, k3, BW.out.step1 k4, k5, k6⟩
        clear k1 k2 k3 k4 k5 k6 CALL
        go_wp2_with fail
        go_ret
        exact K.out
end Go.Proofs.Ytnmilkehggjpfaa
end
section
namespace Go.Proofs.Ytnmilkehggjpfaa
set_option linter.unusedVariables false
set_option maxRecDepth 100000

theorem sumR_le (f : Nat → Nat) (b : Nat) : ∀ n, (∀ i, i < n → f i ≤ b) → sumR f n ≤ n * b
  | 0, _ => by simp [sumR]
  | n + 1, h => by
    have h1 := sumR_le f b n (fun i hi => h i (by omega))
    have h2 := h n (by omega)
    rw [sumR, Nat.succ_mul]
    omega
theorem flat_len (f : Nat → List (List Int)) : ∀ n, ((List.range n).flatMap f).length = sumR (fun i => (f i).length) n
  | 0 => rfl
  | n + 1 => by rw [List.range_succ, List.flatMap_append, List.length_append, flat_len f n, sumR]; simp
/-- The greatest numbers in the first column. -/
def caps (c : Nat → Nat) (ps : List (Nat × Nat)) : Nat := (ps.map fun p => c p.1 / 2 ^ p.2 + 1).foldr (· * ·) 1
theorem resF_len (res : Tab → Option (List Int)) (c : Nat → Nat) : ∀ (ps : List (Nat × Nat)) (T : Tab), (∀ p ∈ ps, inP p) → (∀ i, 0 < i → T i 0 ≤ (c i : Int)) → (resF res ps T).length ≤ caps c ps
  | [], T, _, _ => by
    show (res T).toList.length ≤ 1
    cases res T <;> simp
  | p :: ps, T, hp, h => by
    have p1 := hp p List.mem_cons_self
    have e : caps c (p :: ps) = (c p.1 / 2 ^ p.2 + 1) * caps c ps := rfl
    rw [resF, flat_len, e]
    have hm : mx p T ≤ c p.1 / 2 ^ p.2 := by
      have k1 : T p.1 0 / 2 ^ p.2 ≤ (c p.1 : Int) / 2 ^ p.2 := Int.ediv_le_ediv (pow_pos' _) (h p.1 p1.1)
      have k2 : ((c p.1 / 2 ^ p.2 : Nat) : Int) = (c p.1 : Int) / 2 ^ p.2 := by simp
      unfold mx
      rw [← k2] at k1
      generalize T p.1 0 / 2 ^ p.2 = x at k1 ⊢
      generalize c p.1 / 2 ^ p.2 = y at k1 ⊢
      omega
    refine Nat.le_trans (sumR_le _ (caps c ps) _ fun v _ => ?_) (Nat.mul_le_mul_right _ (by omega))
    refine resF_len res c ps _ (fun q hq => hp q (List.mem_cons_of_mem _ hq)) fun i hi => ?_
    rw [mv_edge_r p1.1 p1.2]
    have k0 : (0 : Int) ≤ (v : Int) * 2 ^ p.2 := Int.mul_nonneg (by omega) (Int.le_of_lt (pow_pos' _))
    split
    · rename_i e1
      have := h p.1 p1.1
      rw [e1]
      omega
    · exact h i hi
/-- Numbers of tables in degrees up to 40. -/
theorem caps_small : ∀ n, n < 6 → ∀ m, m < 6 → caps (fun i => 40 / (2 ^ i - 1)) (rm n m) ≤ 10000000 := by decide +kernel
theorem resF_small (res : Tab → Option (List Int)) (n m : Nat) (hn : n < 6) (hm : m < 6) (T : Tab) (h : ∀ i, 0 < i → T i 0 ≤ ((40 / (2 ^ i - 1) : Nat) : Int)) : (resF res (rm n m) T).length ≤ 10000000 :=
  Nat.le_trans (resF_len res _ (rm n m) T (fun p hp => ⟨(rm_mem.1 hp).1.1, (rm_mem.1 hp).2.1⟩) h) (caps_small n hn m hm)
end Go.Proofs.Ytnmilkehggjpfaa
end
section
namespace Go.Proofs.Ytnmilkehggjpfaa
open Go.RowKit
set_option linter.unusedVariables false
set_option maxRecDepth 100000

theorem sp_ten (j : Nat) (h : j < 10) : 1 ≤ sp j ∧ sp j ≤ 1023 ∧ (5 ≤ j → 63 ≤ sp j) := by
  have : j = 0 ∨ j = 1 ∨ j = 2 ∨ j = 3 ∨ j = 4 ∨ j = 5 ∨ j = 6 ∨ j = 7 ∨ j = 8 ∨ j = 9 := by omega
  rcases this with rfl | rfl | rfl | rfl | rfl | rfl | rfl | rfl | rfl | rfl <;> decide
theorem wrap_same {x : Int} (h0 : -9223372036854775808 ≤ x) (h1 : x < 9223372036854775808) : wrap64 x = x := by unfold wrap64; omega
/-- A number's part in a degree. -/
theorem dgr_part (G : Nat → Int) : ∀ n, n ≤ 10 → okNums G n → 0 ≤ dgr G n ∧ dgr G n ≤ (n : Int) * 1023000000000000 ∧ ∀ i, i < n → G i * (sp i : Int) ≤ dgr G n
  | 0, _, _ => ⟨Int.le_refl _, by simp [dgr], fun i hi => absurd hi (Nat.not_lt_zero _)⟩
  | n + 1, hn, h => by
    obtain ⟨h1, h2, h3⟩ := dgr_part G n (by omega) fun i hi => h i (by omega)
    obtain ⟨p1, p2, _⟩ := sp_ten n (by omega)
    obtain ⟨g1, g2⟩ := h n (Nat.lt_succ_self n)
    have q1 : 0 ≤ G n * (sp n : Int) := Int.mul_nonneg g1 (by omega)
    have q2 : G n * (sp n : Int) ≤ 1000000000000 * 1023 := Int.mul_le_mul g2 (by omega) (by omega) (by omega)
    have e : dgr G (n + 1) = wrap64 (dgr G n + wrap64 (G n * (sp n : Int))) := rfl
    obtain ⟨pr, hpr⟩ : ∃ pr, G n * (sp n : Int) = pr := ⟨_, rfl⟩
    rw [e]
    rw [hpr] at q1 q2 ⊢
    generalize dgr G n = y at h1 h2 h3
    rw [wrap_same (x := pr) (by omega) (by omega), wrap_same (x := y + pr) (by omega) (by omega)]
    refine ⟨by omega, by omega, fun i hi => ?_⟩
    by_cases k : i = n
    · subst k; rw [hpr]; omega
    · have := h3 i (by omega); omega
theorem good_part {l : List Int} (h : goodE l) (i : Nat) : 0 ≤ l[i]?.getD 0 ∧ l[i]?.getD 0 * (sp i : Int) ≤ dgL l ∧ 0 ≤ dgL l := by
  obtain ⟨⟨h1, _, h3⟩, h2⟩ := h
  obtain ⟨d1, _, d3⟩ := dgr_part (gOf l) l.length h1 h3
  by_cases k : i < l.length
  · exact ⟨(h3 i k).1, d3 i k, d1⟩
  · rw [List.getElem?_eq_none (by omega)]
    refine ⟨Int.le_refl 0, ?_, d1⟩
    show 0 * (sp i : Int) ≤ dgL l
    rw [Int.zero_mul]
    exact d1
theorem good_len {l : List Int} (h : goodE l) : l.length ≤ 5 := by
  apply Classical.byContradiction
  intro hn
  have h10 : l.length ≤ 10 := h.1.1
  have hne : gOf l (l.length - 1) ≠ 0 := h.1.2.1.resolve_left (by omega)
  obtain ⟨a, b, c⟩ := good_part h (l.length - 1)
  have h40 := h.2
  have s63 := (sp_ten (l.length - 1) (by omega)).2.2 (by omega)
  have a1 : (1 : Int) ≤ l[l.length - 1]?.getD 0 := by
    have : l[l.length - 1]?.getD 0 ≠ 0 := hne
    omega
  have : (1 : Int) * (sp (l.length - 1) : Int) ≤ l[l.length - 1]?.getD 0 * (sp (l.length - 1) : Int) := Int.mul_le_mul_of_nonneg_right a1 (by omega)
  omega
theorem good_small {l : List Int} (h : goodE l) : ∀ z ∈ l, 0 ≤ z ∧ z ≤ 1000000 := fun z hz => by
  obtain ⟨i, hi, rfl⟩ := List.mem_iff_getElem.1 hz
  obtain ⟨a, b, c⟩ := good_part h i
  rw [List.getElem?_eq_getElem hi] at a b
  simp only [Option.getD_some] at a b
  have h5 := good_len h
  obtain ⟨p1, _⟩ := sp_ten i (by omega)
  have h40 := h.2
  have : l[i] * (1 : Int) ≤ l[i] * (sp i : Int) := Int.mul_le_mul_of_nonneg_left (by omega) a
  omega

/-- The edges. -/
theorem T0_row (r s : List Int) (i : Nat) : T0 r s (i + 1) 0 = r[i]?.getD 0 := rfl
theorem T0_col (r s : List Int) (j : Nat) : T0 r s 0 (j + 1) = s[j]?.getD 0 := rfl
theorem start_caps {r s : List Int} (h : goodE r) (i : Nat) (hi : 0 < i) : T0 r s i 0 ≤ ((40 / (2 ^ i - 1) : Nat) : Int) := by
  obtain ⟨a, rfl⟩ : ∃ a, i = a + 1 := ⟨i - 1, by omega⟩
  rw [T0_row]
  obtain ⟨g0, g1, _⟩ := good_part h a
  have h40 := h.2
  have e : 2 ^ (a + 1) - 1 = sp a := by have := sp_pow a; omega
  rw [e]
  have hp : 0 < sp a := by cases a <;> simp [sp]
  generalize r[a]?.getD 0 = x at g0 g1
  obtain ⟨y, rfl⟩ : ∃ y : Nat, x = (y : Int) := ⟨x.toNat, by omega⟩
  have k : y * sp a ≤ 40 := by
    have : ((y * sp a : Nat) : Int) ≤ 40 := by rw [Int.natCast_mul]; omega
    omega
  have := (Nat.le_div_iff_mul_le hp).2 k
  omega
theorem start_of {r s : List Int} (hr : goodE r) (hs : goodE s) (hd : dgL r + dgL s ≤ 40) : Start r.length s.length (T0 r s) := by
  have r5 := good_len hr
  have s5 := good_len hs
  refine ⟨fun k => ⟨?_, ?_⟩, by omega, by omega, fun i hi => ?_, fun j hj => ?_, fun i j hij hi hj => ?_⟩
  · exact (T0_bound (good_small hr) (good_small hs) k 0).1
  · exact (T0_bound (good_small hr) (good_small hs) 0 k).1
  · obtain ⟨a, rfl⟩ : ∃ a, i = a + 1 := ⟨i - 1, by omega⟩
    rw [T0_row, List.getElem?_eq_none (by omega)]; rfl
  · obtain ⟨a, rfl⟩ : ∃ a, j = a + 1 := ⟨j - 1, by omega⟩
    rw [T0_col, List.getElem?_eq_none (by omega)]; rfl
  · obtain ⟨a, rfl⟩ : ∃ a, i = a + 1 := ⟨i - 1, by omega⟩
    obtain ⟨b, rfl⟩ : ∃ b, j = b + 1 := ⟨j - 1, by omega⟩
    rw [T0_row, T0_col]
    obtain ⟨x0, x1, _⟩ := good_part hr a
    obtain ⟨y0, y1, _⟩ := good_part hs b
    generalize r[a]?.getD 0 = x at x0 x1 ⊢
    generalize s[b]?.getD 0 = y at y0 y1 ⊢
    apply Classical.byContradiction
    intro hc
    have hx : (2 : Int) ^ (b + 1) ≤ x := by omega
    have hy : (1 : Int) ≤ y := by omega
    have hall : ∀ a, a < 5 → ∀ b, b < 5 → 6 ≤ a + b + 2 → 63 ≤ 2 ^ (b + 1) * sp a + sp b := by decide
    have k := hall a (by omega) b (by omega) (by omega)
    have k1 : (2 : Int) ^ (b + 1) * (sp a : Int) ≤ x * (sp a : Int) := Int.mul_le_mul_of_nonneg_right hx (by omega)
    have k2 : (1 : Int) * (sp b : Int) ≤ y * (sp b : Int) := Int.mul_le_mul_of_nonneg_right hy (by omega)
    have k3 : (63 : Int) ≤ (2 : Int) ^ (b + 1) * (sp a : Int) + (sp b : Int) := by
      have : ((63 : Nat) : Int) ≤ ((2 ^ (b + 1) * sp a + sp b : Nat) : Int) := Int.ofNat_le.2 k
      simpa using this
    omega
end Go.Proofs.Ytnmilkehggjpfaa
end
