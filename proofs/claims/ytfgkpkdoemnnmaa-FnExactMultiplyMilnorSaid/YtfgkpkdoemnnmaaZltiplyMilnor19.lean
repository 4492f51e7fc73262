/-
  Joined: PDia, PAll, PArr.
-/
import Derived.Test.YtfgkpkdoemnnmaaZltiplyMilnor08
import Derived.Test.YtfgkpkdoemnnmaaZltiplyMilnor18
import Derived.Test.YtfgkpkdoemnnmaaZltiplyMilnor14
import Derived.Deep.MidRow
import Derived.Deep.WholeRow
import Derived.ChangeKeysEq
section
namespace Go.Proofs.Ytfgkpkdoemnnmaa
set_option linter.unusedVariables false
set_option maxRecDepth 100000

/-! ### Numbers without a common digit -/
def dj (a b : Int) : Prop := a.toNat &&& b.toNat = 0
theorem tk_nat (g : Nat → Nat) (G : Nat → Int) (hG : ∀ i, G i = (g i : Int)) (hg : ∀ i, g i < 2 ^ 20) : ∀ i, ∃ t : Nat, t < 2 ^ 20 ∧ tk G i = (t : Int) ∧ ∀ x, t &&& x = 0 ↔ ∀ j, j < i → g j &&& x = 0
  | 0 => ⟨0, by decide, rfl, fun x => ⟨fun _ j hj => absurd hj (Nat.not_lt_zero _), fun _ => Nat.zero_and x⟩⟩
  | i + 1 => by
    obtain ⟨t, h1, h2, h3⟩ := tk_nat g G hG hg i
    have hi := hg i
    refine ⟨t ||| g i, Nat.or_lt_two_pow h1 hi, ?_, fun x => ?_⟩
    · rw [tk, h2, hG i, i64_or t (g i) (by omega) (by omega)]
    · rw [Nat.and_or_distrib_right]
      constructor
      · intro h j hj
        have h4 : t &&& x = 0 ∧ g i &&& x = 0 := Nat.or_eq_zero_iff.1 h
        by_cases e : j = i
        · subst e; exact h4.2
        · exact (h3 x).1 h4.1 j (by omega)
      · intro h
        rw [(h3 x).2 fun j hj => h j (by omega), h i (by omega)]
        rfl
theorem getD_small {l : List Int} (h : ∀ z ∈ l, 0 ≤ z ∧ z ≤ 1000000) (i : Nat) : 0 ≤ l[i]?.getD 0 ∧ l[i]?.getD 0 ≤ 1000000 := by
  by_cases k : i < l.length
  · rw [List.getElem?_eq_getElem k]; exact h _ (List.getElem_mem k)
  · rw [List.getElem?_eq_none (by omega)]; exact ⟨Int.le_refl 0, by show (0 : Int) ≤ 1000000; omega⟩
theorem apL_iff {l : List Int} (h : ∀ z ∈ l, 0 ≤ z ∧ z ≤ 1000000) : apL l ↔ l.Pairwise dj := by
  have hg : ∀ i, (l[i]?.getD (0 : Int)).toNat < 2 ^ 20 := fun i => by have := getD_small h i; omega
  have hG : ∀ i, (fun j => l[j]?.getD 0) i = (((l[i]?.getD (0 : Int)).toNat : Nat) : Int) := fun i => by have := getD_small h i; show l[i]?.getD 0 = _; omega
  have step : ∀ i, ((bits .and .i64 (tk (fun j => l[j]?.getD 0) i) ((fun j => l[j]?.getD 0) i) != 0) = false) ↔ ∀ j, j < i → dj (l[j]?.getD 0) (l[i]?.getD 0) := fun i => by
    obtain ⟨t, h1, h2, h3⟩ := tk_nat (fun i => (l[i]?.getD (0 : Int)).toNat) _ hG hg i
    have := hg i
    rw [h2, hG i, i64_and t _ (by omega) (by omega), bne_eq_false_iff_eq]
    have e := h3 (l[i]?.getD (0 : Int)).toNat
    constructor
    · intro h4; exact e.1 (by omega)
    · intro h4; have := e.2 h4; omega
  rw [List.pairwise_iff_getElem]
  constructor
  · intro hap i j hi hj hij
    have := (step j).1 (hap j hj) i hij
    rw [List.getElem?_eq_getElem hi, List.getElem?_eq_getElem hj] at this
    exact this
  · intro hp i hi
    refine (step i).2 fun j hj => ?_
    have := hp j i (by omega) hi hj
    rw [List.getElem?_eq_getElem hi, List.getElem?_eq_getElem (show j < l.length by omega)]
    exact this
/-- Without the zeros. -/
def nz (l : List Int) : List Int := l.filter fun z => decide (z ≠ 0)
theorem nz_pair : ∀ l : List Int, (nz l).Pairwise dj ↔ l.Pairwise dj
  | [] => Iff.rfl
  | a :: l => by
    have ih := nz_pair l
    by_cases e : a = 0
    · subst e
      show (nz l).Pairwise dj ↔ _
      rw [List.pairwise_cons, ih]
      exact ⟨fun h => ⟨fun b _ => Nat.zero_and _, h⟩, fun h => h.2⟩
    · have e1 : nz (a :: l) = a :: nz l := by unfold nz; rw [List.filter_cons, if_pos (decide_eq_true e)]
      rw [e1, List.pairwise_cons, List.pairwise_cons, ih]
      refine ⟨fun h => ⟨fun b hb => ?_, h.2⟩, fun h => ⟨fun b hb => h.1 b ((List.mem_filter.1 hb).1), h.2⟩⟩
      by_cases e2 : b = 0
      · subst e2; exact Nat.and_zero _
      · exact h.1 b (List.mem_filter.2 ⟨hb, decide_eq_true e2⟩)
theorem dj_symm {a b : Int} (h : dj a b) : dj b a := by unfold dj at h ⊢; rw [Nat.and_comm]; exact h
theorem pair_rev (l : List Int) : l.reverse.Pairwise dj ↔ l.Pairwise dj := (List.reverse_perm l).pairwise_iff dj_symm

/-! ### Sums -/
def isum : List Int → Int
  | [] => 0
  | a :: l => a + isum l
theorem isum_append : ∀ l l' : List Int, isum (l ++ l') = isum l + isum l'
  | [], l' => by simp [isum]
  | a :: l, l' => by simp only [List.cons_append, isum, isum_append l l']; omega
theorem isum_rev : ∀ l : List Int, isum l.reverse = isum l
  | [] => rfl
  | a :: l => by rw [List.reverse_cons, isum_append, isum_rev l]; simp only [isum]; omega
theorem isum_nz : ∀ l : List Int, isum (nz l) = isum l
  | [] => rfl
  | a :: l => by
    have ih := isum_nz l
    by_cases e : a = 0
    · subst e
      show isum (nz l) = 0 + isum l
      rw [ih]; omega
    · have e1 : nz (a :: l) = a :: nz l := by unfold nz; rw [List.filter_cons, if_pos (decide_eq_true e)]
      rw [e1]; simp only [isum]; omega
theorem smTo_isum (l : List Int) : ∀ i, i ≤ l.length → smTo l i = isum (l.take i)
  | 0, _ => rfl
  | i + 1, h => by
    rw [smTo, smTo_isum l i (by omega), List.take_succ_eq_append_getElem (by omega), isum_append, List.getElem?_eq_getElem (by omega)]
    simp [isum]
theorem sm_isum (l : List Int) : sm l = isum l := by unfold sm; rw [smTo_isum l l.length (Nat.le_refl _), List.take_length]

/-! ### Diagonals -/
/-- x(k, 0), x(k - 1, 1), .., x(0, k). -/
def dia (T : Tab) (k : Nat) : List Int := (List.range (k + 1)).map fun j => T (k - j) j
def upw (T : Tab) (k i : Nat) : List Int := (List.range i).map fun i => T i (k - i)
theorem dia_rev (T : Tab) (k : Nat) : (dia T k).reverse = upw T k (k + 1) := by
  refine List.ext_getElem (by simp [dia, upw]) fun i h1 h2 => ?_
  have hi : i < k + 1 := by simpa [upw] using h2
  rw [List.getElem_reverse]
  simp only [dia, upw, List.getElem_map, List.getElem_range, List.length_map, List.length_range]
  congr 1 <;> omega
/-- Nothing outside n rows and m columns. -/
def inn (T : Tab) (n m : Nat) : Prop := ∀ i j, n < i ∨ m < j → T i j = 0
theorem upw_succ (T : Tab) (k i : Nat) : upw T k (i + 1) = upw T k i ++ [T i (k - i)] := by unfold upw; rw [List.range_succ, List.map_append]; rfl
theorem nz_append (l l' : List Int) : nz (l ++ l') = nz l ++ nz l' := List.filter_append ..
theorem nz_zero : nz [0] = [] := rfl
theorem sdgTo_succ (T : Tab) (m k i : Nat) : sdgTo T m k (i + 1) = if i ≤ k ∧ k - i ≤ m then sdgTo T m k i ++ [T i (k - i)] else sdgTo T m k i := rfl
theorem sdgTo_nz {T : Tab} {n m : Nat} (h : inn T n m) (k : Nat) : ∀ i, i ≤ k + 1 → nz (sdgTo T m k i) = nz (upw T k i)
  | 0, _ => rfl
  | i + 1, hi => by
    have ih := sdgTo_nz h k i (by omega)
    rw [upw_succ, nz_append, ← ih, sdgTo_succ]
    by_cases c : i ≤ k ∧ k - i ≤ m
    · rw [if_pos c, nz_append]
    · rw [if_neg c, h i (k - i) (Or.inr (by omega)), nz_zero, List.append_nil]
theorem sdgTo_far (T : Tab) (m k : Nat) : ∀ d, sdgTo T m k (k + 1 + d) = sdgTo T m k (k + 1)
  | 0 => rfl
  | d + 1 => by
    show sdgTo T m k (k + 1 + d + 1) = _
    rw [sdgTo_succ, if_neg (by omega)]
    exact sdgTo_far T m k d
theorem upw_far {T : Tab} {n m : Nat} (h : inn T n m) (k : Nat) : ∀ d, nz (upw T k (n + 1 + d)) = nz (upw T k (n + 1))
  | 0 => rfl
  | d + 1 => by
    show nz (upw T k (n + 1 + d + 1)) = _
    rw [upw_succ, nz_append, h (n + 1 + d) _ (Or.inl (by omega)), nz_zero, List.append_nil]
    exact upw_far h k d
theorem sdg_nz {T : Tab} {n m : Nat} (h : inn T n m) (k : Nat) : nz (sdg T n m k) = nz (upw T k (k + 1)) := by
  unfold sdg
  by_cases c : n ≤ k
  · rw [sdgTo_nz h k (n + 1) (by omega), show k + 1 = n + 1 + (k - n) by omega, upw_far h]
  · rw [show n + 1 = k + 1 + (n - k) by omega, sdgTo_far, sdgTo_nz h k (k + 1) (Nat.le_refl _)]
theorem nz_rev (l : List Int) : nz l.reverse = (nz l).reverse := List.filter_reverse ..

theorem dia_mem {T : Tab} {k : Nat} {z : Int} (h : z ∈ dia T k) : ∃ a b, z = T a b := by
  obtain ⟨j, _, e⟩ := List.mem_map.1 h
  exact ⟨_, _, e.symm⟩
theorem sdg_dia {T : Tab} {n m : Nat} (h : inn T n m) (hT : ∀ a b, 0 ≤ T a b ∧ T a b ≤ 1000000) (k : Nat) : (apL (sdg T n m k) ↔ apL (dia T k)) ∧ sm (sdg T n m k) = sm (dia T k) := by
  have e : nz (sdg T n m k) = (nz (dia T k)).reverse := by rw [sdg_nz h, ← dia_rev, nz_rev]
  refine ⟨?_, ?_⟩
  · rw [apL_iff (fun z hz => by obtain ⟨a, b, e⟩ := sdgTo_mem T m k (n + 1) z hz; rw [e]; exact hT a b), apL_iff (fun z hz => by obtain ⟨a, b, e⟩ := dia_mem hz; rw [e]; exact hT a b),
      ← nz_pair, e, pair_rev, nz_pair]
  · rw [sm_isum, sm_isum, ← isum_nz, e, isum_rev, isum_nz]

/-! ### The results -/
noncomputable def resI (T : Tab) : Option (List Int) :=
  @ite _ (∀ k, k < 5 → apL (dia T (k + 1))) (Classical.propDecidable _) (some (trim ((List.range 5).map fun k => sm (dia T (k + 1))))) none

theorem trimTo_congr {l l' : List Int} : ∀ j, l.take j = l'.take j → trimTo l j = trimTo l' j
  | 0, _ => rfl
  | j + 1, h => by
    have e : l[j]? = l'[j]? := by
      have := congrArg (fun x : List Int => x[j]?) h
      simpa [List.getElem?_take] using this
    have e2 : l.take j = l'.take j := by
      have := congrArg (List.take j) h
      rw [List.take_take, List.take_take] at this
      rwa [show min j (j + 1) = j by omega] at this
    unfold trimTo
    rw [e, h, trimTo_congr j e2]
theorem trim_zeros (s : Nat → Int) (a : Nat) (h : ∀ k, a ≤ k → s k = 0) : ∀ d, trim ((List.range (a + d)).map s) = trim ((List.range a).map s)
  | 0 => rfl
  | d + 1 => by
    rw [← trim_zeros s a h d]
    unfold trim
    rw [List.length_map, List.length_range, List.length_map, List.length_range]
    show trimTo _ (a + d + 1) = _
    rw [trimTo, if_pos (by rw [List.getElem?_map, List.getElem?_range (by omega)]; exact h (a + d) (by omega))]
    refine trimTo_congr _ ?_
    rw [← List.map_take, ← List.map_take, List.take_range, List.take_range]
    congr 2
    omega
theorem apL_zeros {l : List Int} (h : ∀ z ∈ l, z = 0) : apL l := by
  rw [apL_iff (fun z hz => by rw [h z hz]; exact ⟨Int.le_refl 0, by omega⟩)]
  refine List.pairwise_iff_getElem.2 fun i j hi hj _ => ?_
  rw [h _ (List.getElem_mem hi)]
  exact Nat.zero_and _
theorem sm_zeros {l : List Int} (h : ∀ z ∈ l, z = 0) : sm l = 0 := by
  rw [sm_isum]
  induction l with
  | nil => rfl
  | cons a l ih => rw [isum, ih fun z hz => h z (List.mem_cons_of_mem _ hz), h a List.mem_cons_self]; rfl
/-- By rows and columns, or in the square: the results are the same. -/
theorem resS_resI {T : Tab} {n m : Nat} (h : inn T n m) (h6 : ∀ i j, 6 ≤ i + j → T i j = 0) (hT : ∀ a b, 0 ≤ T a b ∧ T a b ≤ 1000000) : resS n m T = resI T := by
  have z1 : ∀ k, 5 ≤ k → ∀ z ∈ dia T (k + 1), z = 0 := fun k hk z hz => by
    obtain ⟨j, hj, e⟩ := List.mem_map.1 hz
    have := List.mem_range.1 hj
    rw [← e]; exact h6 _ _ (by omega)
  have z2 : ∀ k, n + m ≤ k → ∀ z ∈ dia T (k + 1), z = 0 := fun k hk z hz => by
    obtain ⟨j, hj, e⟩ := List.mem_map.1 hz
    have := List.mem_range.1 hj
    rw [← e]; exact h _ _ (by omega)
  have e1 : (∀ k, k < n + m → apL (sdg T n m (k + 1))) ↔ (∀ k, k < 5 → apL (dia T (k + 1))) := by
    constructor
    · intro a k hk
      by_cases c : k < n + m
      · exact (sdg_dia h hT (k + 1)).1.1 (a k c)
      · exact apL_zeros (z2 k (by omega))
    · intro a k hk
      refine (sdg_dia h hT (k + 1)).1.2 ?_
      by_cases c : k < 5
      · exact a k c
      · exact apL_zeros (z1 k (by omega))
  have e2 : trim (outs T n m (n + m)) = trim ((List.range 5).map fun k => sm (dia T (k + 1))) := by
    have e3 : outs T n m (n + m) = (List.range (n + m)).map fun k => sm (dia T (k + 1)) := List.map_congr_left fun k _ => (sdg_dia h hT (k + 1)).2
    rw [e3]
    by_cases c : n + m ≤ 5
    · have := trim_zeros (fun k => sm (dia T (k + 1))) (n + m) (fun k hk => sm_zeros (z2 k hk)) (5 - (n + m))
      rw [show n + m + (5 - (n + m)) = 5 by omega] at this
      exact this.symm
    · have := trim_zeros (fun k => sm (dia T (k + 1))) 5 (fun k hk => sm_zeros (z1 k hk)) (n + m - 5)
      rw [show 5 + (n + m - 5) = n + m by omega] at this
      exact this
  unfold resS resI
  by_cases c : ∀ k, k < 5 → apL (dia T (k + 1))
  · rw [if_pos c, if_pos (e1.2 c), e2]
  · rw [if_neg c, if_neg (fun x => c (e1.1 x))]
end Go.Proofs.Ytfgkpkdoemnnmaa
end
section
namespace Go.Proofs.Ytfgkpkdoemnnmaa
set_option linter.unusedVariables false
set_option maxRecDepth 100000

/-- A table of n rows and m columns with small numbers. -/
structure Nice (n m : Nat) (y : Tab) : Prop where
  ok : okT y
  inn : inn y n m
  sm : ∀ a b, 0 ≤ y a b ∧ y a b ≤ 1000000
theorem Nice.move {n m : Nat} {y : Tab} (h : Nice n m y) {p : Nat × Nat} (hp : inP p) (h0 : y p.1 p.2 = 0) {v : Nat} (hv : v ≤ mx p y) : Nice n m (mv p.1 p.2 (v : Int) y) := by
  obtain ⟨k1, k2⟩ := (le_mx h.ok v).1 hv
  have k3 := mv_ok hp h.ok hv
  have k4 : (0 : Int) ≤ (v : Int) * 2 ^ p.2 := Int.mul_nonneg (by omega) (Int.le_of_lt (pow_pos' _))
  by_cases hz : v = 0
  · subst hz; rw [show ((0 : Nat) : Int) = 0 from rfl, mv_zero]; exact h
  have q1 : p.1 ≤ n := by
    apply Classical.byContradiction
    intro c
    have e := h.inn p.1 0 (Or.inl (by omega))
    have : (1 : Int) * 2 ^ p.2 ≤ (v : Int) * 2 ^ p.2 := Int.mul_le_mul_of_nonneg_right (by omega) (Int.le_of_lt (pow_pos' _))
    have := pow_pos' p.2
    omega
  have q2 : p.2 ≤ m := by
    apply Classical.byContradiction
    intro c
    have e := h.inn 0 p.2 (Or.inr (by omega))
    omega
  refine ⟨k3, fun a b hab => ?_, fun a b => ?_⟩
  · unfold mv
    rw [if_neg (by omega)]
    by_cases e2 : a = p.1 ∧ b = 0
    · omega
    · rw [if_neg e2]
      by_cases e3 : a = 0 ∧ b = p.2
      · omega
      · rw [if_neg e3]; exact h.inn a b hab
  · unfold mv
    by_cases e1 : a = p.1 ∧ b = p.2
    · rw [if_pos e1, h0]
      have := (h.sm 0 p.2).2
      omega
    · rw [if_neg e1]
      by_cases e2 : a = p.1 ∧ b = 0
      · rw [if_pos e2]
        have := (h.sm p.1 0).2
        omega
      · rw [if_neg e2]
        by_cases e3 : a = 0 ∧ b = p.2
        · rw [if_pos e3]
          have := (h.sm 0 p.2).2
          omega
        · rw [if_neg e3]; exact h.sm a b
theorem allE_nice {n m : Nat} : ∀ (ps : List (Nat × Nat)) (T : Tab), (∀ p ∈ ps, inP p) → ps.Nodup → Nice n m T → (∀ p ∈ ps, T p.1 p.2 = 0) → ∀ y ∈ allE ps T, Nice n m y
  | [], T, _, _, hT, _, y, hy => by rw [List.mem_singleton.1 hy]; exact hT
  | p :: ps, T, hin, hn, hT, h0, y, hy => by
    obtain ⟨n1, n2⟩ := List.nodup_cons.1 hn
    have hps : ∀ q ∈ ps, inP q := fun q hq => hin q (List.mem_cons_of_mem _ hq)
    obtain ⟨u, hu, hy⟩ := List.mem_flatMap.1 hy
    obtain ⟨v, hv, rfl⟩ := List.mem_map.1 hy
    have hv' := List.mem_range.1 hv
    have h1 := allE_nice ps T hps n2 hT (fun q hq => h0 q (List.mem_cons_of_mem _ hq)) u hu
    have h2 := (allE_ok ps T hps hT.ok u hu).2 p (hin p List.mem_cons_self) n1
    exact h1.move (hin p List.mem_cons_self) (by rw [h2]; exact h0 p List.mem_cons_self) (by omega)
theorem T0_inn (r s : List Int) : inn (T0 r s) r.length s.length := fun i j h => by
  match i, j with
  | 0, 0 => rfl
  | 0, j + 1 => rw [T0_col, List.getElem?_eq_none (by omega)]; rfl
  | i + 1, 0 => rw [T0_row, List.getElem?_eq_none (by omega)]; rfl
  | _ + 1, _ + 1 => rfl
theorem T0_nice {r s : List Int} (hr : goodE r) (hs : goodE s) : Nice r.length s.length (T0 r s) := ⟨T0_ok hr hs, T0_inn r s, T0_bound (good_small hr) (good_small hs)⟩
theorem posI_low : ∀ p ∈ posI, p.1 + p.2 ≤ 5 := by decide
theorem posI_all : ∀ i j, 0 < i → 0 < j → (i, j) ∈ posI → i + j ≤ 5 := fun i j _ _ h => posI_low (i, j) h

/-- The counter's tables. -/
theorem tabs_nice {r s : List Int} (hr : goodE r) (hs : goodE s) (ps : List (Nat × Nat)) (e : ps = posI) : ∀ y ∈ allE ps (T0 r s), Nice r.length s.length y :=
  allE_nice ps (T0 r s) (fun p h => posI_in p (e ▸ h)) (e ▸ posI_nodup) (T0_nice hr hs) (fun p h => T0_pos r s p (e ▸ h))
theorem tabs_far {r s : List Int} (hr : goodE r) (hs : goodE s) (ps : List (Nat × Nat)) (e : ps = posI) : ∀ y ∈ allE ps (T0 r s), ∀ i j, 6 ≤ i + j → y i j = 0 := fun y hy i j h => by
  have N := tabs_nice hr hs ps e y hy
  have r5 := good_len hr
  have s5 := good_len hs
  by_cases hi : i = 0
  · exact N.inn i j (Or.inr (by omega))
  · by_cases hj : j = 0
    · exact N.inn i j (Or.inl (by omega))
    · rw [(allE_ok ps (T0 r s) (fun p h => posI_in p (e ▸ h)) (T0_ok hr hs) y hy).2 (i, j) ⟨by omega, by omega⟩ (fun h1 => by have := posI_low (i, j) (e ▸ h1); simp only at this; omega)]
      exact T0_in r s (i, j) (by simp only; omega) (by simp only; omega)
theorem tabs_res {r s : List Int} (hr : goodE r) (hs : goodE s) (ps : List (Nat × Nat)) (e : ps = posI) : ∀ y ∈ allE ps (T0 r s), resS r.length s.length y = resI y := fun y hy =>
  resS_resI (tabs_nice hr hs ps e y hy).inn (tabs_far hr hs ps e y hy) (tabs_nice hr hs ps e y hy).sm
theorem filterMap_same {α β : Type} {f g : α → Option β} : ∀ {l : List α}, (∀ x ∈ l, f x = g x) → l.filterMap f = l.filterMap g
  | [], _ => rfl
  | x :: l, h => by
    have ih := filterMap_same fun y hy => h y (List.mem_cons_of_mem _ hy)
    rw [List.filterMap_cons, List.filterMap_cons, h x List.mem_cons_self, ih]
/-- All results of the counter, in its order. -/
noncomputable def cntL (r s : List Int) : List (List Int) := (allE posI (T0 r s)).filterMap resI
theorem cntL_par {r s : List Int} (hr : goodE r) (hs : goodE s) (hd : dgL r + dgL s ≤ 40) (z : List Int) : par (cntL r s) z ↔ par (prodL r s) z := by
  unfold cntL
  rw [← filterMap_same (tabs_res hr hs posI rfl)]
  exact prodL_par hr hs hd z

/-- The counter counts on from a place. -/
def restP (i j : Nat) : List (Nat × Nat) := posI.filter fun p => decide (i < p.1 ∨ (i = p.1 ∧ j ≤ p.2))
def okRest (i j : Nat) : Bool := if i = 0 then true else if j = 0 then true else if i + j < 6 then restP i j == (i, j) :: restP i (j + 1) else restP i j == restP (i + 1) 1
theorem okRest_b : ∀ i, i < 6 → ∀ j, j < 7 → okRest i j = true := by decide
theorem restP_all {i j : Nat} (hi : 0 < i) (hj : 0 < j) (h : i + j < 6) : restP i j = (i, j) :: restP i (j + 1) := by
  have := okRest_b i (by omega) j (by omega)
  unfold okRest at this
  rw [if_neg (by omega), if_neg (by omega), if_pos h] at this
  exact eq_of_beq this
theorem restP_next {i j : Nat} (hi : 0 < i) (hi6 : i < 6) (hj : 0 < j) (hj7 : j < 7) (h : 6 ≤ i + j) : restP i j = restP (i + 1) 1 := by
  have := okRest_b i hi6 j hj7
  unfold okRest at this
  rw [if_neg (by omega), if_neg (by omega), if_neg (by omega)] at this
  exact eq_of_beq this
theorem restP_one : restP 1 1 = posI := by decide
theorem restP_end : restP 6 1 = [] := by decide
end Go.Proofs.Ytfgkpkdoemnnmaa
end
section
namespace Go.Proofs.Ytfgkpkdoemnnmaa
open Go.RowKit
set_option linter.unusedVariables false
set_option maxRecDepth 100000

/-- The 36 numbers of a table. -/
def tabL (T : Tab) : List Int := (List.range 36).map fun k => T (k / 6) (k % 6)
def tabA (T : Tab) : Array Value := ((tabL T).map (Value.int .i64)).toArray
theorem tabA_size (T : Tab) : (tabA T).size = 36 := by simp [tabA, tabL]
theorem tabA_one (T : Tab) : (tabA T).all (·.oneCell') = true := by
  refine Array.all_eq_true_iff_forall_mem.2 fun v hv => ?_
  unfold tabA at hv
  rw [List.mem_toArray] at hv
  obtain ⟨z, _, rfl⟩ := List.mem_map.1 hv
  rfl
theorem tabA_at (T : Tab) (i j : Nat) (hi : i < 6) (hj : j < 6) : (tabA T)[i * 6 + j]? = some (.int .i64 (T i j)) := by
  unfold tabA tabL
  rw [List.getElem?_toArray, List.getElem?_map, List.getElem?_map, List.getElem?_range (by omega)]
  have e1 : (i * 6 + j) / 6 = i := by omega
  have e2 : (i * 6 + j) % 6 = j := by omega
  simp [e1, e2]
theorem tabA_upd (T : Tab) (i j : Nat) (hi : i < 6) (hj : j < 6) (x : Int) : (tabA T).set! (i * 6 + j) (.int .i64 x) = tabA (updT T i j x) := by
  apply Array.ext_getElem?
  intro k
  rw [Array.set!_eq_setIfInBounds, Array.getElem?_setIfInBounds]
  by_cases hk : k < 36
  · obtain ⟨a, b, ha, hb, rfl⟩ : ∃ a b, a < 6 ∧ b < 6 ∧ k = a * 6 + b := ⟨k / 6, k % 6, by omega, by omega, by omega⟩
    rw [tabA_at _ a b ha hb, tabA_at _ a b ha hb]
    unfold updT
    by_cases e : a = i ∧ b = j
    · rw [if_pos (by rw [e.1, e.2]), if_pos e, if_pos (by rw [tabA_size]; omega)]
    · rw [if_neg (by omega), if_neg e]
  · rw [if_neg (by omega), Array.getElem?_eq_none (by rw [tabA_size]; omega), Array.getElem?_eq_none (by rw [tabA_size]; omega)]
theorem sizeT : (Try.prog.info? 88).map (·.size) = some 36 := by kernel_rfl
theorem zeroT : (Try.prog.info? 88).map (fun i => (i.zero, i.size)) = some (some (.agg (tabA fun _ _ => 0)), 36) := by kernel_rfl

/-- The table T lies in block b. -/
def TabAt (w : World) (b : Nat) (T : Tab) : Prop := w.heap[b]? = some (.cells (tabA T) 88 (0, 0))
section
variable {w w' : World} {b : Nat} {T : Tab}
theorem TabAt.lt (h : TabAt w b T) : b < w.heap.size := (Array.getElem?_eq_some_iff.1 h).1
theorem TabAt.cell (h : TabAt w b T) (i j : Nat) (hi : i < 6) (hj : j < 6) : w.cell? ⟨b, i * 6 + j, none⟩ = some (.int .i64 (T i j)) := by
  rw [cell_of_row w b (i * 6 + j) _ _ _ h, tabA_at T i j hi hj]
theorem TabAt.fr (h : TabAt w b T) (k : Nat) : w.frozen? ⟨b, k, none⟩ = false := by
  simp [World.frozen?, show w.heap[b]? = _ from h]
theorem TabAt.set (h : TabAt w b T) (i j : Nat) (hi : i < 6) (hj : j < 6) (x : Int) : TabAt (w.setCell ⟨b, i * 6 + j, none⟩ (.int .i64 x)) b (updT T i j x) := by
  have := heap_setCell_same w b (i * 6 + j) _ _ (.int .i64 x) h
  rw [← Array.set!_eq_setIfInBounds, tabA_upd T i j hi hj] at this
  exact this
theorem TabAt.up (h : TabAt w b T) (k : Below w.heap.size w w') : TabAt w' b T := (k.block _ h.lt).trans h
theorem TabAt.range (h : TabAt w b T) : w.rangeAt b 0 (tabA T).toList := fun j v hv => by
  rw [Nat.zero_add, cell_of_row w b j _ _ _ h]
  simpa using hv
end

/-- A table is loaded whole. -/
theorem ldT {ops : Array Oper} {rest : List Oper} {op : Oper} {a : Act} {w : World} {Q : Exit → Act → World → Prop} (hgd : op.guard = none) (x : Operand) (ho : op.op = .load 88 x)
    (b : Nat) (hx : a.eval x = .pointer (some ⟨b, 0, none⟩)) (T : Tab) (hc : TabAt w b T) (h : wpList Try.prog ops Q rest (a.put op.dst (.agg (tabA T))) w) : wpList Try.prog ops Q (op :: rest) a w :=
  wpList_load_mid hgd 88 x ho b 0 hx (tabA T).toList _ hc.range Try.underlying88 rfl (by rw [sizeT, Array.length_toList, tabA_size]) (by simpa using h)

/-! ### Comparing -/
theorem eqItems_all (P : Program) (d : Nat) (e : TypeId) (c : Nat) (xs ys : Array Value) (w : World) (f : Nat → Bool) : ∀ is : List Nat,
    (∀ i ∈ is, ∃ a b, (part e xs (i * c)).run P w = .ok a w ∧ (part e ys (i * c)).run P w = .ok b w ∧ (Op.equalIn d e a b).run P w = .ok (f i) w) → (Op.eqItems d e c xs ys is).run P w = .ok (is.all f) w
  | [], _ => by simp [Op.eqItems]
  | i :: is, h => by
    obtain ⟨a, b, h1, h2, h3⟩ := h i List.mem_cons_self
    have ih := eqItems_all P d e c xs ys w f is fun j hj => h j (List.mem_cons_of_mem _ hj)
    simp only [Op.eqItems, Sem.run_bind, h1, h2, h3, Result.andThen_ok, List.all_cons]
    cases f i
    · simp
    · simpa using ih
theorem infoR : (Try.prog.info? 86).map (·.size) = some 6 := by kernel_rfl
theorem infoZ : (Try.prog.info? 2).map (·.size) = some 1 := by kernel_rfl
theorem info_has {t : TypeId} {n : Nat} (h : (Try.prog.info? t).map (·.size) = some n) : ∃ i, Try.prog.info? t = some i ∧ Try.prog.cellsOf t = n := by
  cases hq : Try.prog.info? t with
  | none => simp [hq] at h
  | some i => refine ⟨i, rfl, ?_⟩; simp [Program.cellsOf, hq] at h ⊢; exact h
theorem aggR (w : World) (xs : Array Value) (o : Nat) : (part 86 xs o).run Try.prog w = .ok (.agg (xs.extract o (o + 6))) w := by
  obtain ⟨i, hi, _⟩ := info_has infoR
  have hs : i.size = 6 := by have := infoR; simpa [hi] using this
  have hagg : (isAgg 86).run Try.prog w = .ok true w := by
    unfold isAgg
    rw [Sem.run_bind, run_underlying Try.underlying86 w]
    rfl
  simp [part, Sem.run_bind, hagg, sizeOf, typeInfo, hi, hs]
theorem intZ (w : World) (xs : Array Value) (o : Nat) (v : Value) (h : xs[o]? = some v) : (part 2 xs o).run Try.prog w = .ok v w :=
  run_part_plain w (by simp [Program.plainKey, Try.underlying2]) h
/-- Are two tables equal? -/
def sameTab (T T' : Tab) : Bool := (List.range 6).all fun i => (List.range 6).all fun j => T i j == T' i j
theorem row_eq (d : Nat) (T T' : Tab) (w : World) (i : Nat) (hi : i < 6) : (Op.equalIn (d + 2) 86 (.agg ((tabA T).extract (i * 6) (i * 6 + 6))) (.agg ((tabA T').extract (i * 6) (i * 6 + 6)))).run Try.prog w = .ok ((List.range 6).all fun j => T i j == T' i j) w := by
  obtain ⟨z, hz, hc⟩ := info_has infoZ
  rw [run_equalIn_array w (d + 1) _ _ Try.underlying86 hz, hc]
  refine eqItems_all _ _ _ _ _ _ w _ _ fun j hj => ?_
  have hj := List.mem_range.1 hj
  have at_ : ∀ T : Tab, ((tabA T).extract (i * 6) (i * 6 + 6))[j * 1]? = some (.int .i64 (T i j)) := fun T => by
    rw [Array.getElem?_extract, if_pos (by rw [tabA_size]; omega), Nat.mul_one, tabA_at T i j hi hj]
  exact ⟨_, _, intZ w _ _ _ (at_ T), intZ w _ _ _ (at_ T'), run_equalIn_int w d 2 .i64 .i64 _ _ Try.underlying2⟩
theorem tab_eq (T T' : Tab) (w : World) : (binOp .eql 88 (.agg (tabA T)) (.agg (tabA T'))).run Try.prog w = .ok (.bool (sameTab T T')) w := by
  obtain ⟨z, hz, hc⟩ := info_has infoR
  rw [run_eql_struct, run_equalIn_array w 9999 _ _ Try.underlying88 hz, hc]
  rw [eqItems_all _ _ _ _ _ _ w (fun i => (List.range 6).all fun j => T i j == T' i j) _ fun i hi => ⟨_, _, aggR w _ _, aggR w _ _, row_eq 9997 T T' w i (List.mem_range.1 hi)⟩]
  rfl
theorem sameTab_iff (T T' : Tab) : sameTab T T' = true ↔ ∀ i, i < 6 → ∀ j, j < 6 → T i j = T' i j := by
  unfold sameTab
  rw [List.all_eq_true]
  constructor
  · intro h i hi j hj
    have := List.all_eq_true.1 (h i (List.mem_range.2 hi)) j (List.mem_range.2 hj)
    simpa using this
  · intro h i hi
    rw [List.all_eq_true]
    intro j hj
    simpa using h i (List.mem_range.1 hi) j (List.mem_range.1 hj)
end Go.Proofs.Ytfgkpkdoemnnmaa
end
