/-
  Joined: YLaw2.
-/
import Derived.Test.YtnfhfilconcajaaZxactAddPolys30
import Derived.Deep.DeepCutAuto
import Derived.Deep.RegionWith
import Derived.Deep.RegionHeld3
import Derived.BigRegion
section
namespace Go.Proofs.Ytnfhfilconcajaa.Pl
open Go.RowKit
set_option linter.unusedVariables false
set_option maxRecDepth 100000

section
variable {w w' : World} {g : Nat} {m : Nat} {VS : Nat → Value}
/-- A box's block is no row's. -/
theorem _root_.Go.Proofs.Ytnfhfilconcajaa.Box.ne_own {t : TypeId} {x y v : Value} {B n : Nat} {e : TypeId} {xs : List Value} (h : Box w g t x y) (o : w.ownsRow B e 1 v n xs) (he : e ≠ t) : ∀ q, v.ownBlock = some q → q ≠ g := by
  intro q hq eq
  subst eq
  rcases o.2 with ⟨rfl, _⟩ | ⟨q', cap', cur, rfl, _, hG, _⟩
  · cases hq
  · simp only [Value.ownBlock, Option.some.injEq] at hq
    subst hq
    unfold Box at h
    rw [hG] at h
    simp only [Option.some.injEq, Obj.cells.injEq] at h
    exact he h.2.1
theorem _root_.Go.Proofs.Ytnfhfilconcajaa.Box.restK {t : TypeId} {x y : Value} {n B B' : Nat} {V' : Value} {VB : Nat → Value} {Y : Nat → List Int} (h : Box w g t x y) (ht : 2 ≠ t) (k : Fam w B V' n VB Y) (r : MRestK n VB w w') : Box w' g t x y :=
  (r.2 g h.lt fun i hi e => h.ne_own (k.inn i hi) ht g e rfl).trans h
end

/-- The argument in its box. -/
structure Sq1 (w0 : World) (c0 : Int) (V0 : Value) (w : World) : Prop where
  bel : Below w0.heap.size w0 w
  boxA : Box w w0.heap.size 24 (.int .i64 c0) V0
/-- The two arguments in their boxes. -/
structure Sq2 (w0 : World) (c0 : Int) (V0 : Value) (c1 : Int) (V1 : Value) (w : World) : Prop where
  bel : Below w0.heap.size w0 w
  boxA : Box w w0.heap.size 24 (.int .i64 c0) V0
  boxB : Box w (w0.heap.size + 1) 24 (.int .i64 c1) V1
/-- A struct that the law holds: its box and the family. -/
structure OwnF (w0 : World) (g : Nat) (c : Int) (V : Value) (m : Nat) (VS : Nat → Value) (X : Nat → List Int) (w : World) : Prop where
  fam : Fam w w0.heap.size V m VS X
  sep : Sep m VS
  box : Box w g 27 (.int .i64 c) V
  ge : w0.heap.size ≤ g

section
variable {w0 w w' : World} {c0 c1 c : Int} {V0 V1 V : Value} {g m : Nat} {VS : Nat → Value} {X : Nat → List Int}
theorem Sq1.start (w : World) (c0 : Int) (V0 : Value) : Sq1 w c0 V0 (w.alloc (.cells #[.int .i64 c0, V0] 24)) := ⟨(Below.refl w.heap.size w).alloc (Nat.le_refl _) _, Box.new w _ _ _⟩
theorem Sq1.up (h : Sq1 w0 c0 V0 w) (k : Below w.heap.size w w') : Sq1 w0 c0 V0 w' := ⟨h.bel.step1 k, h.boxA.up k⟩
theorem Sq1.alloc (h : Sq1 w0 c0 V0 w) (o : Obj) : Sq1 w0 c0 V0 (w.alloc o) := h.up ((Below.refl _ _).alloc (Nat.le_refl _) _)
theorem Sq2.start (w : World) (c0 : Int) (V0 : Value) (c1 : Int) (V1 : Value) : Sq2 w c0 V0 c1 V1 ((w.alloc (.cells #[.int .i64 c0, V0] 24)).alloc (.cells #[.int .i64 c1, V1] 24)) := by
  refine ⟨((Below.refl w.heap.size w).alloc (Nat.le_refl _) _).alloc (by simp) _, (Box.new w _ _ _).alloc _, ?_⟩
  have := Box.new (w.alloc (.cells #[.int .i64 c0, V0] 24)) 24 (.int .i64 c1) V1
  simpa using this
theorem Sq2.up (h : Sq2 w0 c0 V0 c1 V1 w) (k : Below w.heap.size w w') : Sq2 w0 c0 V0 c1 V1 w' := ⟨h.bel.step1 k, h.boxA.up k, h.boxB.up k⟩
theorem Sq2.alloc (h : Sq2 w0 c0 V0 c1 V1 w) (o : Obj) : Sq2 w0 c0 V0 c1 V1 (w.alloc o) := h.up ((Below.refl _ _).alloc (Nat.le_refl _) _)
theorem OwnF.up (h : OwnF w0 g c V m VS X w) (k : Below w.heap.size w w') : OwnF w0 g c V m VS X w' := ⟨h.fam.below k, h.sep, h.box.up k, h.ge⟩
theorem OwnF.alloc (h : OwnF w0 g c V m VS X w) (o : Obj) : OwnF w0 g c V m VS X (w.alloc o) := h.up ((Below.refl _ _).alloc (Nat.le_refl _) _)
theorem OwnF.start (hw : w0.heap.size ≤ w.heap.size) (h : Fam w w0.heap.size V m VS X) (hs : Sep m VS) : OwnF w0 w.heap.size c V m VS X (w.alloc (.cells #[.int .i64 c, V] 27)) :=
  ⟨h.below ((Below.refl _ _).alloc (Nat.le_refl _) _), hs, Box.new _ _ _ _, hw⟩
theorem OwnF.stored {x y : Value} (h : Box w g 27 x y) (o : Fam w w0.heap.size V m VS X) (hs : Sep m VS) (hg : w0.heap.size ≤ g) : OwnF w0 g c V m VS X ((w.setCell ⟨g, 0, none⟩ (.int .i64 c)).setCell ⟨g, 1, none⟩ V) := by
  have hne : ∀ i, i < m → ∀ q, (VS i).ownBlock = some q → q ≠ g := fun i hi => h.ne_own (o.inn i hi) (by decide)
  have hno := h.ne_own o.out (by decide)
  have o1 : Fam (w.setCell ⟨g, 0, none⟩ (.int .i64 c)) w0.heap.size V m VS X := ⟨own_sameblock o.out fun q hq => heap_setCell_other _ _ _ _ (hno q hq), fun i hi => own_sameblock (o.inn i hi) fun q hq => heap_setCell_other _ _ _ _ (hne i hi q hq)⟩
  have o2 : Fam ((w.setCell ⟨g, 0, none⟩ (.int .i64 c)).setCell ⟨g, 1, none⟩ V) w0.heap.size V m VS X := ⟨own_sameblock o1.out fun q hq => heap_setCell_other _ _ _ _ (hno q hq), fun i hi => own_sameblock (o1.inn i hi) fun q hq => heap_setCell_other _ _ _ _ (hne i hi q hq)⟩
  exact ⟨o2, hs, (h.set0 _).set1 V, hg⟩
theorem OwnF.rest {g' n : Nat} {c' : Int} {V' : Value} {VB : Nat → Value} {Y : Nat → List Int} (h : OwnF w0 g c V m VS X w) (k : OwnF w0 g' c' V' n VB Y w) (r : MRestK n VB w w') (ap : FApart m VS n VB) : OwnF w0 g c V m VS X w' :=
  ⟨h.fam.rest k.fam r ap, h.sep, h.box.restK (B' := 0) (by decide) k.fam r, h.ge⟩
theorem Sq1.rest {g' n : Nat} {c' : Int} {V' : Value} {VB : Nat → Value} {Y : Nat → List Int} (h : Sq1 w0 c0 V0 w) (k : OwnF w0 g' c' V' n VB Y w) (r : MRestK n VB w w') (b : Below w0.heap.size w w') : Sq1 w0 c0 V0 w' :=
  ⟨h.bel.trans b, h.boxA.restK (B' := 0) (by decide) k.fam r⟩
theorem Sq2.rest {g' n : Nat} {c' : Int} {V' : Value} {VB : Nat → Value} {Y : Nat → List Int} (h : Sq2 w0 c0 V0 c1 V1 w) (k : OwnF w0 g' c' V' n VB Y w) (r : MRestK n VB w w') (b : Below w0.heap.size w w') : Sq2 w0 c0 V0 c1 V1 w' :=
  ⟨h.bel.trans b, h.boxA.restK (B' := 0) (by decide) k.fam r, h.boxB.restK (B' := 0) (by decide) k.fam r⟩

/-- What is kept of a struct that a region made: the block of its box, its lists, its code. -/
def MadeS (w0 wS : World) (cd C : Int) (L : List (List Int)) (s6 s7 : Value) (wx : World) : Prop :=
  ∃ (g : Nat) (va : Option Addr) (vc : Nat) (VS : Nat → Value), s6 = .pointer (some ⟨g, 0, none⟩) ∧ s7 = .int .i64 cd ∧ Hid (OwnF w0 g C (.slice va L.length vc) L.length VS (rowsOf L) wx) ∧ Hid (Below wS.heap.size wS wx)
end
end Go.Proofs.Ytnfhfilconcajaa.Pl
end
