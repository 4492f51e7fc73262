/-
  Arguments that are structs of one field Terms, opened.
-/
import Derived.Test.YtcfgjbfgdlmilaaDoorOpenRows
import Derived.Lib.SmallJoins
import Derived.ChangeSlices
namespace Go.Proofs.YtcfgjbfgdlmilaaDoor
open Go.RowKit Go.ChangeShapes Go.WideShapes Go.Joins
set_option linter.unusedVariables false
set_option maxRecDepth 100000

theorem one_cell_d {α : Type} {cs : Array α} (h : cs.size = 1) : ∃ c0, cs = #[c0] := by
  obtain ⟨l⟩ := cs
  match l, h with
  | [c0], _ => exact ⟨c0, rfl⟩

/-- What the walk is told of such an argument: its rows. -/
theorem open_dl {H : Type} {enc : TypeId × Value → H} {w : World} {base b0 : Nat} {held : Bool} {v : Value} {d : DataW H} {p : List MemPlace}
    (hv : Value.okWide Tryd.prog w .any b0 24 v) (h : DataW.Trod enc Tryd.prog w base (fun _ => true) held 24 v d p) :
    ∃ (a : Option Addr) (m cap : Nat) (X : Nat → List Int), v = .agg #[.slice a m cap] ∧ IsRows w a m cap X := by
  obtain ⟨cs, rfl, hsz⟩ := okWide_struct Tryd.underlying24 hv
  obtain ⟨c0, rfl⟩ := one_cell_d (hsz.trans (by kernel_rfl))
  obtain ⟨fuel, hf⟩ := h
  obtain ⟨y0, n, hx, _, h0⟩ := trod_struct1 Tryd.underlying24 hf
  have hc1 : Tryd.prog.cellsOf 22 = 1 := by kernel_rfl
  have h1 : DataW.trod enc Tryd.prog w base (fun _ => true) held n 22 [c0] = some y0 := by simpa [Value.cells, hc1] using h0
  obtain ⟨a, m, cap, e⟩ := slice_form Tryd.underlying22 h1
  obtain rfl : c0 = .slice a m cap := by simpa using e
  obtain ⟨X, hX⟩ := open_rows (d := y0.1) (p := y0.2) ⟨n, by simpa [Value.cells] using h1⟩
  exact ⟨a, m, cap, X, rfl, hX⟩
end Go.Proofs.YtcfgjbfgdlmilaaDoor
namespace Go.Proofs.YtcfgjbfgdlmilaaDoor.Dl
end Go.Proofs.YtcfgjbfgdlmilaaDoor.Dl
