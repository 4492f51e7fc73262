/-
  Arguments that are structs Poly, opened.
-/
import Derived.Test.YtnfhfilconcajaaOpenRows
import Derived.Lib.SmallJoins
import Derived.ChangeSlices
namespace Go.Proofs.Ytnfhfilconcajaa
open Go.RowKit Go.ChangeShapes Go.WideShapes Go.Joins
set_option linter.unusedVariables false
set_option maxRecDepth 100000

/-- What the walk is told of such an argument: its number of variables and its rows. -/
theorem open_pl {H : Type} {enc : TypeId × Value → H} {w : World} {base b0 : Nat} {held : Bool} {v : Value} {d : DataW H} {p : List MemPlace}
    (hv : Value.okWide Try.prog w .any b0 24 v) (h : DataW.Trod enc Try.prog w base (fun _ => true) held 24 v d p) :
    ∃ (c : Int) (a : Option Addr) (m cap : Nat) (X : Nat → List Int), v = .agg #[.int .i64 c, .slice a m cap] ∧ IsRows w a m cap X := by
  obtain ⟨v0, v1, y0, y1, n, rfl, _, _, h0, h1⟩ := open_agg2 Try.underlying24 (by kernel_rfl) (by kernel_rfl) hv h
  obtain ⟨c, hc, _, _⟩ := DataW.trod_int Try.underlying2 h0
  obtain rfl : v0 = .int .i64 c := by simpa using hc
  obtain ⟨a, m, cap, e⟩ := slice_form Try.underlying22 h1
  obtain rfl : v1 = .slice a m cap := by simpa using e
  obtain ⟨X, hX⟩ := open_rows (d := y1.1) (p := y1.2) ⟨n, by simpa [Value.cells] using h1⟩
  exact ⟨c, a, m, cap, X, rfl, hX⟩
end Go.Proofs.Ytnfhfilconcajaa
