/-
  Contracts of spec.l03Is, spec.IsSquares, impl.IsSquares and of the methods isZero and degree of sums of squares.
-/
import Derived.Test.YtnfhfilconcajaaSBase
import Derived.Test.YtnfhfilconcajaaWWord
import Derived.Test.YtnfhfilconcajaaWTermLaw
import Derived.Deep.RegionHeld3
namespace Go.Proofs.Ytnfhfilconcajaa
open Go.RowKit
set_option linter.unusedVariables false
set_option maxRecDepth 100000

/-- Their sum. -/
def sumL (xs : List Int) : Int := dsum (gOf xs) xs.length
/-- A word. -/
def isW (xs : List Int) : Prop := okWord (gOf xs) xs.length
def stepS (X : Nat → List Int) (i : Nat) : Prop := isW (X i) ∧ sumL (X i) = sumL (X 0)
/-- A sum of squares. -/
def okSq (X : Nat → List Int) (m : Nat) : Prop := okTerms X m ∧ ∀ i, i < m → stepS X i

/-- v reads as integers with the sum x. -/
def DegIs (w : World) (v : Value) (x : Int) : Prop := ∃ n G, RdI w v n G ∧ (∀ i, i ≤ n → 0 ≤ dsum G i ∧ dsum G i ≤ 1000000) ∧ dsum G n = x
theorem DegIs.below {w w' : World} {v : Value} {x : Int} (h : DegIs w v x) (k : Below w.heap.size w w') : DegIs w' v x := by
  obtain ⟨n, G, h1, h2, h3⟩ := h
  exact ⟨n, G, h1.below k, h2, h3⟩
theorem DegIs.drewN {w : World} {v : Value} {x : Int} (h : DegIs w v x) (q : Nat) : DegIs (w.drewN q) v x := h
theorem degIs_word {w : World} {v : Value} {xs : List Int} (h : RdI w v xs.length (fun j => xs[j]?.getD 0)) (hw : isW xs) : DegIs w v (sumL xs) :=
  ⟨_, _, h, fun i hi => by have := hw.nums i hi; exact ⟨this.1, by have h2 := this.2; unfold gOf at h2; omega⟩, rfl⟩

theorem l03Degree_is {w : World} {v : Value} {x : Int} (h : Hid (DegIs w v x)) (q : Nat) :
    Calls Try.prog 81 #[v] (w.drewN q) fun e w' => e = .returned (.int .i64 x) ∧ ∃ p, w' = (w.drewN q).drewN p := by
  obtain ⟨n, G, h1, h2, rfl⟩ := h.out
  exact (l03Degree_any v n G _ (h1.drewN q) h2).mono fun e w' ⟨he, hw⟩ => ⟨he, 0, hw.symm⟩
theorem degreeOfWord_is {w : World} {v : Value} {x : Int} (h : DegIs w v x) :
    Calls Try.prog 53 #[v] w fun e w' => e = .returned (.int .i64 x) ∧ w = w' := by
  obtain ⟨n, G, h1, h2, rfl⟩ := h
  exact degreeOfWord_any v n G _ h1 h2

end Go.Proofs.Ytnfhfilconcajaa
