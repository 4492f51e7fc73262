/-
  Texts of sums of squares, plain: letters, words and sums as lists of bytes, and how a text grows.
-/
import Derived.Lib.Join
import Derived.Lib.ItoaNum
namespace Go.Proofs.YtcfgjbfgdlmilaaDoor
set_option maxRecDepth 100000
set_option linter.unusedVariables false

theorem join_snoc (xs : List (List UInt8)) (x sep : List UInt8) (h : xs ≠ []) : Lib.join (xs ++ [x]) sep = Lib.join xs sep ++ (sep ++ x) := by
  cases xs with
  | nil => exact absurd rfl h
  | cons y r =>
    rw [List.cons_append, Lib.join_cons, Lib.join_cons]
    simp [Lib.joinTail, List.append_assoc]

/-- The separator, where there is something ahead. -/
def sepT (c : UInt8) (k : Nat) : List UInt8 := if k = 0 then [] else [c]
theorem sepT_zero (c : UInt8) : sepT c 0 = [] := rfl
theorem sepT_pos (c : UInt8) {k : Nat} (h : 0 < k) : sepT c k = [c] := by unfold sepT; rw [if_neg (by omega)]

theorem join_range (f : Nat → List UInt8) (c : UInt8) (k : Nat) : Lib.join ((List.range (k + 1)).map f) [c] = Lib.join ((List.range k).map f) [c] ++ (sepT c k ++ f k) := by
  rw [List.range_succ, List.map_append, List.map_cons, List.map_nil]
  by_cases h : k = 0
  · subst h; simp [sepT, Lib.join, List.intercalate]
  · rw [sepT_pos c (by omega)]
    exact join_snoc _ _ _ (by intro e; have := congrArg List.length e; simp at this; omega)

theorem join_range_len (f : Nat → List UInt8) (c : UInt8) (B k : Nat) (h : ∀ i, i < k → (f i).length ≤ B) : (Lib.join ((List.range k).map f) [c]).length ≤ k * (B + 1) := by
  induction k with
  | zero => simp [Lib.join, List.intercalate]
  | succ k ih =>
    rw [join_range, List.length_append, List.length_append, Nat.succ_mul]
    have h1 := ih fun i hi => h i (by omega)
    have h2 := h k (by omega)
    have h3 : (sepT c k).length ≤ 1 := by unfold sepT; split <;> simp
    omega

/-- A number between 0 and 99. -/
def decT (n : Int) : List UInt8 := Lib.decDigits n.toNat
theorem dec_len {n : Nat} (h : n < 100) : (Lib.decDigits n).length ≤ 2 := by
  by_cases h1 : n < 10
  · rw [Lib.decDigits, dif_pos h1]; simp
  · rw [Lib.decDigits, dif_neg h1, Lib.decDigits, dif_pos (by omega)]; simp
def letT (n : Int) : List UInt8 := 83 :: 113 :: decT n
theorem letT_len {n : Int} (h0 : 0 ≤ n) (h : n < 100) : (letT n).length ≤ 4 := by
  have := dec_len (n := n.toNat) (by omega)
  simp only [letT, decT, List.length_cons]; omega

/-- The first k letters of a word. -/
def lettersT (l : List Int) (k : Nat) : List UInt8 := Lib.join ((List.range k).map fun j => letT (l.getD j 0)) [32]
theorem lettersT_zero (l : List Int) : lettersT l 0 = [] := rfl
theorem lettersT_succ (l : List Int) (k : Nat) : lettersT l (k + 1) = lettersT l k ++ (sepT 32 k ++ letT (l.getD k 0)) := join_range _ _ _
def wordT (l : List Int) : List UInt8 := if l.length = 0 then [49] else lettersT l l.length
theorem wordT_nil {l : List Int} (h : l.length = 0) : wordT l = [49] := if_pos h
theorem wordT_pos {l : List Int} (h : l.length ≠ 0) : wordT l = lettersT l l.length := if_neg h

/-- Letters between 0 and 99. -/
def Small (l : List Int) : Prop := l.length ≤ 20 ∧ ∀ j, j < l.length → 0 ≤ l.getD j 0 ∧ l.getD j 0 < 100
theorem lettersT_len {l : List Int} (h : Small l) (k : Nat) (hk : k ≤ l.length) : (lettersT l k).length ≤ 100 := by
  have h1 := join_range_len (fun j => letT (l.getD j 0)) 32 4 k fun i hi => letT_len (h.2 i (by omega)).1 (h.2 i (by omega)).2
  have h2 := h.1
  unfold lettersT
  omega
theorem wordT_len {l : List Int} (h : Small l) : (wordT l).length ≤ 100 := by
  by_cases hl : l.length = 0
  · rw [wordT_nil hl]; simp
  · rw [wordT_pos hl]; exact lettersT_len h _ (Nat.le_refl _)

/-- The first i words of a sum. -/
def wordsT (X : Nat → List Int) (i : Nat) : List UInt8 := Lib.join ((List.range i).map fun j => wordT (X j)) [43]
theorem wordsT_zero (X : Nat → List Int) : wordsT X 0 = [] := rfl
theorem wordsT_succ (X : Nat → List Int) (i : Nat) : wordsT X (i + 1) = wordsT X i ++ (sepT 43 i ++ wordT (X i)) := join_range _ _ _
theorem wordsT_len (X : Nat → List Int) (m i : Nat) (h : ∀ j, j < m → Small (X j)) (hi : i ≤ m) : (wordsT X i).length ≤ i * 101 :=
  join_range_len _ _ _ _ fun j hj => wordT_len (h j (by omega))
theorem wordT_ne (l : List Int) : wordT l ≠ [] := by
  by_cases hl : l.length = 0
  · rw [wordT_nil hl]; simp
  · rw [wordT_pos hl]
    obtain ⟨k, hk⟩ : ∃ k, l.length = k + 1 := ⟨l.length - 1, by omega⟩
    rw [hk, lettersT_succ]; simp [letT]
theorem wordsT_ne (X : Nat → List Int) (i : Nat) (h : 0 < i) : wordsT X i ≠ [] := by
  obtain ⟨k, rfl⟩ : ∃ k, i = k + 1 := ⟨i - 1, by omega⟩
  rw [wordsT_succ]
  intro e
  exact wordT_ne (X k) (by simp at e; exact e.2.2)
def sumT (X : Nat → List Int) (m : Nat) : List UInt8 := if m = 0 then [48] else wordsT X m
end Go.Proofs.YtcfgjbfgdlmilaaDoor
