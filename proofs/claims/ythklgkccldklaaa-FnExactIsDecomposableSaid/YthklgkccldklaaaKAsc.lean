/-
  Term lists are ascending; a merge of short lists has short lists.
-/
import Derived.Test.YthklgkccldklaaaKOrd
import Derived.Test.YthklgkccldklaaaKRows
import Derived.Test.YthklgkccldklaaaWTerm
namespace Go.Proofs.Ythklgkccldklaaa
open Go.RowKit
set_option maxRecDepth 100000
set_option linter.unusedVariables false

theorem step_lt (X : Nat → List Int) (m : Nat) (h : ∀ i, i < m → stepOk X i) : ∀ j, j < m → ∀ i, i < j → lexLt (X i) (X j) = true := by
  intro j
  induction j with
  | zero => intro _ i hi; exact absurd hi (Nat.not_lt_zero _)
  | succ j ih =>
    intro hj i hi
    have h1 : lexLt (X j) (X (j + 1)) = true := h (j + 1) hj (Nat.succ_pos _)
    by_cases e : i = j
    · subst e; exact h1
    · exact lexLt_trans _ _ _ (ih (by omega) i (by omega)) h1
theorem asc_rows (X : Nat → List Int) (m : Nat) (h : ∀ i, i < m → stepOk X i) : Asc (rowsL X m) := by
  refine List.pairwise_iff_getElem.2 fun i j hi hj hij => ?_
  rw [rowsL_len] at hi hj
  simp only [rowsL, List.getElem_map, List.getElem_range]
  exact step_lt X m h j hj i hij

theorem mrg_short (X Y : Nat → List Int) (m n : Nat) (hX : ∀ i, i < m → (X i).length ≤ 20) (hY : ∀ i, i < n → (Y i).length ≤ 20) (i : Nat) : (rowsOf (mrg (rowsL X m) (rowsL Y n)) i).length ≤ 20 := by
  unfold rowsOf
  by_cases h : i < (mrg (rowsL X m) (rowsL Y n)).length
  · rw [List.getElem?_eq_getElem h]
    rcases mrg_sub _ _ _ (List.getElem_mem h) with h1 | h1
    · obtain ⟨j, hj, e⟩ := mem_rowsL h1
      show (mrg (rowsL X m) (rowsL Y n))[i].length ≤ 20
      rw [e]; exact hX j hj
    · obtain ⟨j, hj, e⟩ := mem_rowsL h1
      show (mrg (rowsL X m) (rowsL Y n))[i].length ≤ 20
      rw [e]; exact hY j hj
  · rw [List.getElem?_eq_none (by omega)]
    exact Nat.zero_le _

end Go.Proofs.Ythklgkccldklaaa
