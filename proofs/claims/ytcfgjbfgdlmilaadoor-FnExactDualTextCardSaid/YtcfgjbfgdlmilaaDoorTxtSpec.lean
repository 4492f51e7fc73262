/-
  spec.l03Text.
-/
import Derived.Test.YtcfgjbfgdlmilaaDoorTxtDec
import Derived.Test.YtcfgjbfgdlmilaaDoorOpenRows
namespace Go.Proofs.YtcfgjbfgdlmilaaDoor
open Go.RowKit
set_option linter.unusedVariables false
set_option maxRecDepth 100000

/-- Ahead of a word; behind k of its letters. -/
def preT (X : Nat → List Int) (i : Nat) : List UInt8 := wordsT X i ++ sepT 43 i
def midT (X : Nat → List Int) (i k : Nat) : List UInt8 := preT X i ++ lettersT (X i) k
def midS (X : Nat → List Int) (i k : Nat) : List UInt8 := midT X i k ++ sepT 32 k
theorem preT_zero (X : Nat → List Int) : preT X 0 = [] := rfl
theorem preT_pos (X : Nat → List Int) {i : Nat} (h : 0 < i) : S (wordsT X i) ++ ⟨#[43]⟩ = S (preT X i) := by
  unfold preT; rw [sepT_pos 43 h]; exact S_app _ [43]
theorem midT_zero (X : Nat → List Int) (i : Nat) : midT X i 0 = preT X i := by unfold midT; rw [lettersT_zero, List.append_nil]
theorem midS_zero (X : Nat → List Int) (i : Nat) : midS X i 0 = midT X i 0 := by unfold midS; rw [sepT_zero, List.append_nil]
theorem midS_pos (X : Nat → List Int) (i : Nat) {k : Nat} (h : 0 < k) : S (midT X i k) ++ ⟨#[32]⟩ = S (midS X i k) := by
  unfold midS; rw [sepT_pos 32 h]; exact S_app _ [32]
theorem midS_sq (X : Nat → List Int) (i k : Nat) : S (midS X i k) ++ ⟨#[83, 113]⟩ = S (midS X i k ++ [83, 113]) := S_app _ [83, 113]
theorem midT_succ (X : Nat → List Int) (i k : Nat) : S (midS X i k ++ [83, 113]) ++ S (decT ((X i).getD k 0)) = S (midT X i (k + 1)) := by
  rw [S_app]
  unfold midS midT
  rw [lettersT_succ]
  simp [letT, List.append_assoc]
theorem midT_last (X : Nat → List Int) (i : Nat) (h : (X i).length ≠ 0) : midT X i (X i).length = wordsT X (i + 1) := by
  rw [wordsT_succ, wordT_pos h]; unfold midT preT; rw [List.append_assoc]
theorem midT_none (X : Nat → List Int) (i : Nat) (h : (X i).length = 0) : S (midT X i 0) ++ ⟨#[49]⟩ = S (wordsT X (i + 1)) := by
  rw [wordsT_succ, wordT_nil h, midT_zero]; unfold preT; rw [← List.append_assoc]; exact S_app _ [49]

theorem sepT_len (c : UInt8) (k : Nat) : (sepT c k).length ≤ 1 := by unfold sepT; split <;> simp
theorem preT_len (X : Nat → List Int) (m i : Nat) (hm : m ≤ 2000) (h : ∀ j, j < m → Small (X j)) (hi : i ≤ m) : (preT X i).length ≤ 202001 := by
  have h1 := wordsT_len X m i h hi
  have h2 := sepT_len 43 i
  have h3 : i * 101 ≤ 2000 * 101 := Nat.mul_le_mul_right _ (by omega)
  unfold preT; rw [List.length_append]; omega
theorem midT_len (X : Nat → List Int) (m i k : Nat) (hm : m ≤ 2000) (h : ∀ j, j < m → Small (X j)) (hi : i < m) (hk : k ≤ (X i).length) : (midT X i k).length ≤ 202101 := by
  have h1 := preT_len X m i hm h (by omega)
  have h2 := lettersT_len (h i hi) k hk
  unfold midT; rw [List.length_append]; omega
theorem midS_len (X : Nat → List Int) (m i k : Nat) (hm : m ≤ 2000) (h : ∀ j, j < m → Small (X j)) (hi : i < m) (hk : k ≤ (X i).length) : (midS X i k).length ≤ 202102 := by
  have h1 := midT_len X m i k hm h hi hk
  have h2 := sepT_len 32 k
  unfold midS; rw [List.length_append]; omega

theorem S_ne {l : List UInt8} (h : l ≠ []) : (S l).toList.isEmpty = false := by
  rw [ByteArray.toList_eq]
  cases l with
  | nil => exact absurd rfl h
  | cons a t => rfl

end Go.Proofs.YtcfgjbfgdlmilaaDoor
