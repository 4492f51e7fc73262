/-
  Joined: SBoxR, MBase.
-/
import Derived.Test.YtnfhfilconcajaaZxactAddPolys14
import Derived.Test.YtnfhfilconcajaaZxactAddPolys03
import Derived.BigRegion
import Derived.Laws.ResultCell
section
namespace Go.Proofs.Ytnfhfilconcajaa
open Go.RowKit
set_option linter.unusedVariables false
set_option maxRecDepth 100000

/-- A struct of one cell and a number as results. -/
theorem results_box1_tmp {fn : Func} {p u : Tmp} {t : TypeId} (h : fn.results = #[.cell p t, .tmp u]) (tmps : Array Value) (w : World) (g : Nat) (x : Value) (fs : Array Field)
    (hp : tmps.getD p undef = .pointer (some ⟨g, 0, none⟩)) (hg : Box1 w g t x)
    (hu : Try.prog.underlying t = some (.struct fs)) (hi : (Try.prog.info? t).map (·.size) = some 1) :
    (results fn tmps).run Try.prog w = .ok (.tuple #[.agg #[x], tmps.getD u undef]) w := by
  rw [results_cell_tmp h, hp]
  have := run_loadVar_row (P := Try.prog) w g t t #[x] (0, 0) (.struct fs) hg hu rfl hi
  show ((loadVar t ⟨g, 0, none⟩).run Try.prog w).andThen _ = _
  rw [this]
  rfl

theorem MRestK.box {m : Nat} {VS : Nat → Value} {w w' : World} {o : Obj} (h : MRestK m VS (w.alloc o) w') : MRestK m VS w w' := by
  refine ⟨Nat.le_trans (by simp) h.1, fun b hb hn => (h.2 b (by simp; omega) hn).trans (heap_alloc_old w o hb)⟩

/-- What returns a struct of lists and a code. -/
def ResS (L : List (List Int)) (cd : Int) (w : World) (e : Ending) (w' : World) : Prop :=
  ∃ V VS, e = .returned (.tuple #[.agg #[V], .int .i64 cd]) ∧ FamL w' w.heap.size V VS L ∧ Sep L.length VS ∧ Below w.heap.size w w'

theorem famNil (w : World) (g : Nat) : FamL w g (.slice none 0 0) (fun _ => undef) [] := ⟨World.ownsRow_nil _ _ _ _, fun i hi => absurd hi (Nat.not_lt_zero _)⟩
theorem sepNil : Sep ([] : List (List Int)).length (fun _ => undef) := fun i j hi => absurd hi (Nat.not_lt_zero _)

theorem resS_nil (w : World) (cd : Int) {t : TypeId} : ResS [] cd w (.returned (.tuple #[.agg #[.slice none 0 0], .int .i64 cd])) (w.alloc (.cells #[.slice none 0 0] t)) :=
  ⟨_, fun _ => undef, rfl, ⟨World.ownsRow_nil _ _ _ _, fun i hi => absurd hi (Nat.not_lt_zero _)⟩, fun i j hi => absurd hi (Nat.not_lt_zero _), (Below.refl _ w).alloc (Nat.le_refl _) _⟩

theorem belD1 {w w' : World} (k : Below (w.drewN 1).heap.size (w.drewN 1) w') : Below w.heap.size w w' := (Below.refl _ w).drew.trans k

section
variable {w w' : World} {g : Nat} {m : Nat} {VS : Nat → Value}
/-- A box's block is no row's. -/
theorem Box1.ne_own {t : TypeId} {x v : Value} {B n : Nat} {e : TypeId} {xs : List Value} (h : Box1 w g t x) (o : w.ownsRow B e 1 v n xs) (he : e ≠ t) : ∀ q, v.ownBlock = some q → q ≠ g := by
  intro q hq eq
  subst eq
  rcases o.2 with ⟨rfl, _⟩ | ⟨q', cap', cur, rfl, _, hG, _⟩
  · cases hq
  · simp only [Value.ownBlock, Option.some.injEq] at hq
    subst hq
    unfold Box1 at h
    rw [hG] at h
    simp only [Option.some.injEq, Obj.cells.injEq] at h
    exact he h.2.1
theorem Box1.restK {t : TypeId} {x : Value} {n B B' : Nat} {V' : Value} {VB : Nat → Value} {Y : Nat → List Int} (h : Box1 w g t x) (ht : 2 ≠ t) (k : Fam w B V' n VB Y) (r : MRestK n VB w w') : Box1 w' g t x :=
  (r.2 g h.lt fun i hi e => h.ne_own (k.inn i hi) ht g e rfl).trans h
end
end Go.Proofs.Ytnfhfilconcajaa
end
section
namespace Go.Proofs.Ytnfhfilconcajaa
open Go.RowKit
set_option linter.unusedVariables false
set_option maxRecDepth 100000

theorem _root_.Go.World.ownsRow.shape {w : World} {B : Nat} {v : Value} {n : Nat} {xs : List Value} {e : TypeId} {s : Nat} (h : w.ownsRow B e s v n xs) : ∃ a cap, v = .slice a n cap := by
  rcases h.2 with ⟨rfl, h0⟩ | ⟨g, cap, cur, rfl, _⟩
  · exact ⟨none, 0, by rw [h0]⟩
  · exact ⟨_, cap, rfl⟩

/-- Block g holds a struct of two cells. -/
def Box (w : World) (g : Nat) (t : TypeId) (x y : Value) : Prop := w.heap[g]? = some (.cells #[x, y] t (0, 0))
section
variable {w w' : World} {g : Nat} {t : TypeId} {x y : Value}
theorem Box.lt (h : Box w g t x y) : g < w.heap.size := (Array.getElem?_eq_some_iff.1 h).1
theorem Box.c0 (h : Box w g t x y) : w.cell? ⟨g, 0, none⟩ = some x := cell_of_row w g 0 _ _ (0, 0) h
theorem Box.c1 (h : Box w g t x y) : w.cell? ⟨g, 1, none⟩ = some y := cell_of_row w g 1 _ _ (0, 0) h
theorem Box.fr (h : Box w g t x y) (i : Nat) : w.frozen? ⟨g, i, none⟩ = false := by unfold Box at h; simp [World.frozen?, h]
theorem Box.new (w : World) (t : TypeId) (x y : Value) : Box (w.alloc (.cells #[x, y] t)) w.heap.size t x y := heap_alloc_new w _
theorem Box.alloc (h : Box w g t x y) (o : Obj) : Box (w.alloc o) g t x y := (heap_alloc_old w o h.lt).trans h
theorem Box.below {B : Nat} (h : Box w g t x y) (k : Below B w w') (hg : g < B) : Box w' g t x y := (k.block g hg).trans h
theorem Box.up (h : Box w g t x y) (k : Below w.heap.size w w') : Box w' g t x y := h.below k h.lt
theorem Box.drewN (h : Box w g t x y) (q : Nat) : Box (w.drewN q) g t x y := h
theorem Box.set0 (h : Box w g t x y) (v : Value) : Box (w.setCell ⟨g, 0, none⟩ v) g t v y := heap_setCell_same w g 0 _ t v h
theorem Box.set1 (h : Box w g t x y) (v : Value) : Box (w.setCell ⟨g, 1, none⟩ v) g t x v := heap_setCell_same w g 1 _ t v h
theorem Box.other (h : Box w g t x y) (a : Addr) (v : Value) (hne : g ≠ a.block) : Box (w.setCell a v) g t x y := (heap_setCell_other w a g v hne).trans h
end

end Go.Proofs.Ytnfhfilconcajaa
end
