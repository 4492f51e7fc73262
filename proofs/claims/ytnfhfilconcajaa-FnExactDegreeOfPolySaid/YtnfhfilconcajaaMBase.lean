/-
  Matrices: structs of two cells in blocks of their own; the helpers of the exact laws (toMatrix, szMatrix, eqMatrix, markMatrix, heldMatrix).
-/
import Derived.Test.YtnfhfilconcajaaWOwnC
import Derived.BigRegion
import Derived.Laws.ResultCell
namespace Go.Proofs.Ytnfhfilconcajaa
open Go.RowKit
set_option linter.unusedVariables false
set_option maxRecDepth 100000

theorem _root_.Go.World.ownsRow.shape {w : World} {B : Nat} {v : Value} {n : Nat} {xs : List Value} {e : TypeId} {s : Nat} (h : w.ownsRow B e s v n xs) : ∃ a cap, v = .slice a n cap := by
  rcases h.2 with ⟨rfl, h0⟩ | ⟨g, cap, cur, rfl, _⟩
  · exact ⟨none, 0, by rw [h0]⟩
  · exact ⟨_, cap, rfl⟩

/-- Block g holds a struct of two cells. -/
def Box (w : World) (g : Nat) (t : TypeId) (x y : Value) : Prop := w.heap[g]? = some (.cells #[x, y] t (0, 0))
section
variable {w w' : World} {g : Nat} {t : TypeId} {x y : Value}
theorem Box.lt (h : Box w g t x y) : g < w.heap.size := (Array.getElem?_eq_some_iff.1 h).1
theorem Box.c0 (h : Box w g t x y) : w.cell? ⟨g, 0, none⟩ = some x := cell_of_row w g 0 _ _ (0, 0) h
theorem Box.c1 (h : Box w g t x y) : w.cell? ⟨g, 1, none⟩ = some y := cell_of_row w g 1 _ _ (0, 0) h
theorem Box.fr (h : Box w g t x y) (i : Nat) : w.frozen? ⟨g, i, none⟩ = false := by unfold Box at h; simp [World.frozen?, h]
theorem Box.new (w : World) (t : TypeId) (x y : Value) : Box (w.alloc (.cells #[x, y] t)) w.heap.size t x y := heap_alloc_new w _
theorem Box.alloc (h : Box w g t x y) (o : Obj) : Box (w.alloc o) g t x y := (heap_alloc_old w o h.lt).trans h
theorem Box.below {B : Nat} (h : Box w g t x y) (k : Below B w w') (hg : g < B) : Box w' g t x y := (k.block g hg).trans h
theorem Box.up (h : Box w g t x y) (k : Below w.heap.size w w') : Box w' g t x y := h.below k h.lt
theorem Box.drewN (h : Box w g t x y) (q : Nat) : Box (w.drewN q) g t x y := h
theorem Box.set0 (h : Box w g t x y) (v : Value) : Box (w.setCell ⟨g, 0, none⟩ v) g t v y := heap_setCell_same w g 0 _ t v h
theorem Box.set1 (h : Box w g t x y) (v : Value) : Box (w.setCell ⟨g, 1, none⟩ v) g t x v := heap_setCell_same w g 1 _ t v h
theorem Box.other (h : Box w g t x y) (a : Addr) (v : Value) (hne : g ≠ a.block) : Box (w.setCell a v) g t x y := (heap_setCell_other w a g v hne).trans h
end

end Go.Proofs.Ytnfhfilconcajaa
