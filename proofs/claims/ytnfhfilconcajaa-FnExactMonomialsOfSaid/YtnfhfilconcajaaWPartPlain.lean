/-
  Lists of exponent lists, as both programs find them; and what stays of the rows of numbers while slices of slices grow.
-/
import Derived.Test.YtnfhfilconcajaaKFam
import Derived.Test.YtnfhfilconcajaaPlainCount
namespace Go.Proofs.Ytnfhfilconcajaa
open Go.RowKit
set_option maxRecDepth 100000
set_option linter.unusedVariables false

/-- How many exponents of the weight p fit into d. -/
def cnt (d p : Nat) : Nat := if p ≤ d then d / p + 1 else 0

/-- All exponent lists that begin with zs and whose others have the degree d, at most f others. -/
def parts : Nat → List Int → Nat → List (List Int)
  | 0, zs, d => if d = 0 then [zs] else []
  | f + 1, zs, d => if d = 0 then [zs] else (List.range (cnt d (sp zs.length))).flatMap fun (r : Nat) => parts f (zs ++ [(r : Int)]) (d - r * sp zs.length)

/-- The same, the first j exponents alone. -/
def partsTo (f : Nat) (zs : List Int) (d j : Nat) : List (List Int) := (List.range j).flatMap fun (r : Nat) => parts f (zs ++ [(r : Int)]) (d - r * sp zs.length)
theorem partsTo_zero (f : Nat) (zs : List Int) (d : Nat) : partsTo f zs d 0 = [] := rfl
theorem partsTo_succ (f : Nat) (zs : List Int) (d j : Nat) : partsTo f zs d (j + 1) = partsTo f zs d j ++ parts f (zs ++ [(j : Int)]) (d - j * sp zs.length) := by
  unfold partsTo
  rw [List.range_succ, List.flatMap_append]
  simp
theorem parts_zero (f : Nat) (zs : List Int) : parts f zs 0 = [zs] := by
  cases f <;> simp [parts]
theorem parts_succ (f : Nat) (zs : List Int) (d : Nat) (h : 0 < d) : parts (f + 1) zs d = partsTo f zs d (cnt d (sp zs.length)) := by
  rw [parts, if_neg (by omega)]
  rfl
theorem parts_none (f : Nat) (zs : List Int) (d : Nat) (h : 0 < d) (hp : d < sp zs.length) : parts f zs d = [] := by
  cases f with
  | zero => rw [parts, if_neg (by omega)]
  | succ f => rw [parts_succ _ _ _ h, show cnt d (sp zs.length) = 0 by unfold cnt; rw [if_neg (by omega)]]; rfl

theorem sp_pos (i : Nat) : 0 < sp i := by have := sp_gt i; omega

/-- Whether j exponents more fit. -/
theorem cnt_le (d p j : Nat) (hp : 0 < p) (hd : p ≤ d) : j < cnt d p ↔ j * p ≤ d := by
  unfold cnt
  rw [if_pos hd]
  constructor
  · intro h
    exact (Nat.le_div_iff_mul_le hp).1 (by omega)
  · intro h
    have := (Nat.le_div_iff_mul_le hp).2 h
    omega
theorem cnt_eq (d p j : Nat) (hp : 0 < p) (hd : p ≤ d) (h : j * p = d) : cnt d p = j + 1 := by
  unfold cnt
  rw [if_pos hd, ← h, Nat.mul_div_cancel _ hp]

theorem partsTo_len (f : Nat) (N : Nat) (h : ∀ zs d, d ≤ 40 → (parts f zs d).length ≤ N) (zs : List Int) (d : Nat) (hd : d ≤ 40) (j : Nat) : (partsTo f zs d j).length ≤ j * N := by
  induction j with
  | zero => simp [partsTo_zero]
  | succ j ih =>
    rw [partsTo_succ, List.length_append, Nat.succ_mul]
    have := h (zs ++ [(j : Int)]) (d - j * sp zs.length) (by omega)
    omega
theorem parts_len (f : Nat) : ∀ (zs : List Int) (d : Nat), d ≤ 40 → (parts f zs d).length ≤ 41 ^ f := by
  induction f with
  | zero => intro zs d _; rw [parts]; split <;> simp
  | succ f ih =>
    intro zs d hd
    by_cases h0 : d = 0
    · subst h0
      rw [parts_zero]
      exact Nat.pow_pos (by decide)
    · rw [parts_succ _ _ _ (by omega)]
      have h1 := partsTo_len f (41 ^ f) ih zs d hd (cnt d (sp zs.length))
      have h2 : cnt d (sp zs.length) ≤ 41 := by
        unfold cnt
        split
        · have : d / sp zs.length ≤ d := Nat.div_le_self _ _
          omega
        · omega
      have h3 : cnt d (sp zs.length) * 41 ^ f ≤ 41 * 41 ^ f := Nat.mul_le_mul_right _ h2
      rw [Nat.pow_succ]
      omega

end Go.Proofs.Ytnfhfilconcajaa
