/-
  Joined: PTabP.
-/
import Derived.Test.YtnmilkehggjpfaaZBMil11
import Derived.Test.YtnmilkehggjpfaaZBMil04
section
namespace Go.Proofs.Ytnmilkehggjpfaa
set_option linter.unusedVariables false
set_option maxRecDepth 100000

/-- The places of the counter; those of a table with n rows and m columns, row by row. -/
def posI : List (Nat × Nat) := [(1, 1), (1, 2), (1, 3), (1, 4), (2, 1), (2, 2), (2, 3), (3, 1), (3, 2), (4, 1)]
def rm (n m : Nat) : List (Nat × Nat) := (List.range n).flatMap fun i => (List.range m).map fun j => (i + 1, j + 1)
def restA (n m : Nat) : List (Nat × Nat) := posI.filter fun p => !(rm n m).contains p
def restB (n m : Nat) : List (Nat × Nat) := (rm n m).filter fun p => !posI.contains p
def okPlaces (n m : Nat) : Bool :=
  (rm n m ++ restA n m).isPerm (posI ++ restB n m) && (decide (rm n m ++ restA n m).Nodup && ((rm n m ++ restA n m).all (fun p => decide (0 < p.1 ∧ 0 < p.2)) && ((restA n m).all (fun p => decide (n < p.1 ∨ m < p.2)) && (restB n m).all (fun p => decide (6 ≤ p.1 + p.2 ∧ p.1 ≤ 5 ∧ p.2 ≤ 5)))))
theorem places_b : ∀ n, n < 6 → ∀ m, m < 6 → okPlaces n m = true := by decide +kernel
theorem places (n : Nat) (hn : n < 6) (m : Nat) (hm : m < 6) : (rm n m ++ restA n m).isPerm (posI ++ restB n m) = true ∧ (rm n m ++ restA n m).Nodup ∧ (∀ p ∈ rm n m ++ restA n m, 0 < p.1 ∧ 0 < p.2) ∧ (∀ p ∈ restA n m, n < p.1 ∨ m < p.2) ∧ (∀ p ∈ restB n m, 6 ≤ p.1 + p.2 ∧ p.1 ≤ 5 ∧ p.2 ≤ 5) := by
  have h := places_b n hn m hm
  unfold okPlaces at h
  rw [Bool.and_eq_true, Bool.and_eq_true, Bool.and_eq_true, Bool.and_eq_true, List.all_eq_true, List.all_eq_true, List.all_eq_true, decide_eq_true_iff] at h
  exact ⟨h.1, h.2.1, fun p hp => of_decide_eq_true (h.2.2.1 p hp), fun p hp => of_decide_eq_true (h.2.2.2.1 p hp), fun p hp => of_decide_eq_true (h.2.2.2.2 p hp)⟩
theorem posI_in : ∀ p ∈ posI, 0 < p.1 ∧ 0 < p.2 := by decide
theorem posI_nodup : posI.Nodup := by decide
theorem rm_mem {n m : Nat} {p : Nat × Nat} : p ∈ rm n m ↔ (1 ≤ p.1 ∧ p.1 ≤ n) ∧ (1 ≤ p.2 ∧ p.2 ≤ m) := by
  obtain ⟨i, j⟩ := p
  unfold rm
  rw [List.mem_flatMap]
  constructor
  · rintro ⟨a, ha, h⟩
    obtain ⟨b, hb, e⟩ := List.mem_map.1 h
    have := List.mem_range.1 ha
    have := List.mem_range.1 hb
    cases e
    exact ⟨⟨by omega, by omega⟩, ⟨by omega, by omega⟩⟩
  · rintro ⟨⟨h1, h2⟩, h3, h4⟩
    simp only at h1 h2 h3 h4
    exact ⟨i - 1, List.mem_range.2 (by omega), List.mem_map.2 ⟨j - 1, List.mem_range.2 (by omega), by rw [Nat.sub_add_cancel h1, Nat.sub_add_cancel h3]⟩⟩

/-- What is asked of the table at the start. -/
structure Start (n m : Nat) (T : Tab) : Prop where
  ok : okT T
  nn : n < 6
  mm : m < 6
  row : ∀ i, n < i → T i 0 = 0
  col : ∀ j, m < j → T 0 j = 0
  far : ∀ i j, 6 ≤ i + j → i ≤ 5 → j ≤ 5 → T i 0 < 2 ^ j ∨ T 0 j = 0
theorem mx_row {p : Nat × Nat} {T : Tab} (h : okT T) (hz : T p.1 0 < 2 ^ p.2 ∨ T 0 p.2 = 0) : mx p T = 0 := by
  apply Nat.eq_zero_of_not_pos
  intro hpos
  have h1 := (le_mx h 1).1 hpos
  have h2 : ((1 : Nat) : Int) * 2 ^ p.2 = 2 ^ p.2 := by rw [show ((1 : Nat) : Int) = 1 from rfl, Int.one_mul]
  rw [h2] at h1
  omega

/-- Row by row, or by the counter: the sums are the same. -/
theorem same_sums {n m : Nat} {T : Tab} (h : Start n m T) (c : Tab → Nat) : sumE c (allE posI T) = sumT c (rm n m) T := by
  obtain ⟨p1, p2, p3, p4, p5⟩ := places n h.nn m h.mm
  have pp := List.isPerm_iff.1 p1
  have hinA : ∀ p ∈ rm n m, inP p := fun p hp => p3 p (List.mem_append_left _ hp)
  have hA : ∀ p ∈ restA n m, mx p T = 0 := fun p hp => mx_row h.ok (by
    rcases p4 p hp with k | k
    · left; rw [h.row _ k]; exact pow_pos' _
    · right; exact h.col _ k)
  have hB : ∀ p ∈ restB n m, mx p T = 0 := fun p hp => mx_row h.ok (h.far _ _ (p5 p hp).1 (p5 p hp).2.1 (p5 p hp).2.2)
  have e1 := sumT_append_none c (rm n m) (restA n m) T hA hinA (fun p hp => p3 p (List.mem_append_right _ hp)) h.ok
  have e2 := sumT_perm c pp p3 p2 T h.ok
  have e3 := sumT_append_none c posI (restB n m) T hB posI_in (fun p hp => hinA p ((List.mem_filter.1 hp).1)) h.ok
  have e4 := sumT_perm c (List.reverse_perm posI).symm posI_in posI_nodup T h.ok
  rw [sumE_all, ← e4, ← e3, ← e2, e1]

/-! ### Results -/
/-- All results, row by row, with repetitions. -/
def resF (res : Tab → Option (List Int)) : List (Nat × Nat) → Tab → List (List Int)
  | [], T => (res T).toList
  | p :: ps, T => (List.range (mx p T + 1)).flatMap fun v : Nat => resF res ps (mv p.1 p.2 (v : Int) T)
theorem count_flat {α : Type} (f : α → List (List Int)) (z : List Int) : ∀ l : List α, (l.flatMap f).count z = (l.map fun a => (f a).count z).sum
  | [] => rfl
  | a :: l => by rw [List.flatMap_cons, List.count_append, count_flat f z l, List.map_cons, List.sum_cons]
theorem count_resF (res : Tab → Option (List Int)) (z : List Int) : ∀ (ps : List (Nat × Nat)) (T : Tab), (resF res ps T).count z = sumT (fun T => (res T).toList.count z) ps T
  | [], T => rfl
  | p :: ps, T => by
    rw [resF, count_flat, sum_range]
    exact sumR_congr _ fun v _ => count_resF res z ps _
theorem count_filterMap (res : Tab → Option (List Int)) (z : List Int) : ∀ L : List Tab, (L.filterMap res).count z = sumE (fun T => (res T).toList.count z) L
  | [] => rfl
  | T :: L => by
    have := count_filterMap res z L
    unfold sumE at this ⊢
    rw [List.map_cons, List.sum_cons, ← this]
    cases h : res T with
    | none => rw [List.filterMap_cons_none h]; simp
    | some x => rw [List.filterMap_cons_some h]; simp [List.count_cons]; omega
theorem par_count (z : List Int) : ∀ l : List (List Int), par l z ↔ l.count z % 2 = 1
  | [] => by simp [par]
  | x :: l => by
    show (x = z ∧ ¬ par l z) ∨ (x ≠ z ∧ par l z) ↔ _
    rw [par_count z l, List.count_cons]
    by_cases e : x = z
    · subst e; simp; omega
    · have : (x == z) = false := by rw [beq_eq_false_iff_ne]; exact e
      simp [e, this]
/-- The results that occur an odd number of times are the same. -/
theorem same_results {n m : Nat} {T : Tab} (h : Start n m T) (res : Tab → Option (List Int)) (z : List Int) : par ((allE posI T).filterMap res) z ↔ par (resF res (rm n m) T) z := by
  rw [par_count, par_count, count_filterMap, count_resF, same_sums h]
end Go.Proofs.Ytnmilkehggjpfaa
end
