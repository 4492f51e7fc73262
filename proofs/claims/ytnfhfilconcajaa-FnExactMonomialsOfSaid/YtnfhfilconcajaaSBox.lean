/-
  One-cell boxes, and small things that the texts of both kinds of structs share.
-/
import Derived.Test.YtnfhfilconcajaaWToSS
import Derived.Test.YtnfhfilconcajaaKFam
import Derived.BigRegion
import Derived.Laws.ResultCell
namespace Go.Proofs.Ytnfhfilconcajaa
open Go.RowKit
set_option linter.unusedVariables false
set_option maxRecDepth 100000

/-- Block g holds one cell. -/
def Box1 (w : World) (g : Nat) (t : TypeId) (x : Value) : Prop := w.heap[g]? = some (.cells #[x] t (0, 0))
section
variable {w w' : World} {g : Nat} {t : TypeId} {x : Value}
theorem Box1.lt (h : Box1 w g t x) : g < w.heap.size := (Array.getElem?_eq_some_iff.1 h).1
theorem Box1.c (h : Box1 w g t x) : w.cell? ⟨g, 0, none⟩ = some x := cell_of_row w g 0 _ _ (0, 0) h
theorem Box1.fr (h : Box1 w g t x) (i : Nat) : w.frozen? ⟨g, i, none⟩ = false := by unfold Box1 at h; simp [World.frozen?, h]
theorem Box1.new (w : World) (t : TypeId) (x : Value) : Box1 (w.alloc (.cells #[x] t)) w.heap.size t x := heap_alloc_new w _
theorem Box1.alloc (h : Box1 w g t x) (o : Obj) : Box1 (w.alloc o) g t x := (heap_alloc_old w o h.lt).trans h
theorem Box1.below {B : Nat} (h : Box1 w g t x) (k : Below B w w') (hg : g < B) : Box1 w' g t x := (k.block g hg).trans h
theorem Box1.up (h : Box1 w g t x) (k : Below w.heap.size w w') : Box1 w' g t x := h.below k h.lt
theorem Box1.drewN (h : Box1 w g t x) (q : Nat) : Box1 (w.drewN q) g t x := h
theorem Box1.set (h : Box1 w g t x) (v : Value) : Box1 (w.setCell ⟨g, 0, none⟩ v) g t v := heap_setCell_same w g 0 _ t v h
theorem Box1.other (h : Box1 w g t x) (a : Addr) (v : Value) (hne : g ≠ a.block) : Box1 (w.setCell a v) g t x := (heap_setCell_other w a g v hne).trans h
end

theorem Fam.same {w w' : World} {B : Nat} {V : Value} {m : Nat} {VS : Nat → Value} {Y : Nat → List Int} (h : Fam w B V m VS Y) (k : ∀ g, B ≤ g → g < w.heap.size → w'.heap[g]? = w.heap[g]?) : Fam w' B V m VS Y :=
  ⟨own_sameblock h.out fun g hg => k g (h.out.lt g hg).1 (h.out.lt g hg).2, fun i hi => own_sameblock (h.inn i hi) fun g hg => k g ((h.inn i hi).lt g hg).1 ((h.inn i hi).lt g hg).2⟩
/-- The integers of a list. -/
def gOf (xs : List Int) : Nat → Int := fun j => xs[j]?.getD 0

/-- A call that answers b and leaves what there was. -/
def SaysB (b : Bool) (w : World) (e : Ending) (w' : World) : Prop := e = .returned (.bool b) ∧ Below w.heap.size w w'

theorem _root_.Go.RowKit.Below.step1 {w wx w' : World} (h : Below w.heap.size w wx) (k : Below wx.heap.size wx w') : Below w.heap.size w w' := h.trans (k.mono h.size)
end Go.Proofs.Ytnfhfilconcajaa
