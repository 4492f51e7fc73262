/-
  Arguments that are matrices, opened.
-/
import Derived.Test.YtdojblmffmefgaaDoorMBase
import Derived.Lib.SmallJoins
import Derived.ChangeSlices
namespace Go.Proofs.YtdojblmffmefgaaDoor
open Go.RowKit Go.ChangeShapes Go.WideShapes Go.Joins
set_option linter.unusedVariables false
set_option maxRecDepth 100000

/-- What the walk is told of such an argument: its rows. -/
theorem open_mat {H : Type} {enc : TypeId × Value → H} {w : World} {base b0 : Nat} {held : Bool} {v : Value} {d : DataW H} {p : List MemPlace}
    (hv : Value.okWide Tryd.prog w .any b0 58 v) (h : DataW.Trod enc Tryd.prog w base (fun _ => true) held 58 v d p) :
    ∃ (c : Int) (a : Option Addr) (n cap : Nat) (zs : List Int), v = .agg #[.int .i64 c, .slice a n cap] ∧ IsRow .i64 w a n cap zs := by
  obtain ⟨v0, v1, y0, y1, m, rfl, _, _, h0, h1⟩ := open_agg2 Tryd.underlying58 (by kernel_rfl) (by kernel_rfl) hv h
  obtain ⟨c, hc, _, _⟩ := DataW.trod_int Tryd.underlying2 h0
  obtain rfl : v0 = .int .i64 c := by simpa using hc
  rcases open_ints Tryd.underlying24 Tryd.underlying2 (by kernel_rfl) h1 with ⟨hcs, _⟩ | ⟨x, l, cp, zs, hcs, _, hl, hm, hz, _, hcell, hwz⟩
  · obtain rfl : v1 = .slice none 0 0 := by simpa using hcs
    exact ⟨c, none, 0, 0, [], rfl, .inl ⟨rfl, rfl, rfl, rfl⟩⟩
  · obtain rfl : v1 = .slice (some x) l cp := by simpa using hcs
    exact ⟨c, some x, l, cp, zs, rfl, .inr ⟨_, rfl, hl, hm, by simpa using hz, hcell, hwz⟩⟩
end Go.Proofs.YtdojblmffmefgaaDoor
