/-
  spec.DegreeOfMilnor and impl.DegreeOfMilnor answer the same.
-/
import Derived.Test.YthklgkccldklaaaNIsI
namespace Go.Proofs.Ythklgkccldklaaa.Ml
open Go.RowKit
set_option linter.unusedVariables false
set_option maxRecDepth 100000

/-- A call that answers two numbers and leaves what there was. -/
def SaysN (x c : Int) (w : World) (e : Ending) (w' : World) : Prop := e = .returned (.tuple #[.int .i64 x, .int .i64 c]) ∧ Below w.heap.size w w'

/-- The first term of an element other than 0. -/
theorem headD {va : Value} {w : World} {m : Nat} {X : Nat → List Int} (hok : okMl X m) (hm : 0 < m) (h : RdSS w va m X) :
    ∃ b o v cap, va = .slice (some ⟨b, o, none⟩) m cap ∧ w.cell? ⟨b, o, none⟩ = some v ∧ DegE w v (dgL (X 0)) := by
  obtain ⟨_, _, VS, hc, hr⟩ := h
  obtain ⟨b, o, ⟨cap, e⟩, hc⟩ := hc.resolve_left (by omega)
  have := hc 0 hm
  rw [Nat.add_zero] at this
  exact ⟨b, o, VS 0, cap, e, this, degE_list (hr 0 hm) (hok.2 0 hm).1.1⟩

end Go.Proofs.Ythklgkccldklaaa.Ml
