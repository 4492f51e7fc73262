/-
  What an exact law over two matrices keeps from step to step.
-/
import Derived.Test.YtdojblmffmefgaaDoorMLaw
import Derived.Deep.DeepCutAuto
namespace Go.Proofs.YtdojblmffmefgaaDoor
open Go.RowKit
set_option linter.unusedVariables false
set_option maxRecDepth 100000

theorem _root_.Go.RowKit.Below.step {w wx w' : World} (h : Below w.heap.size w wx) (k : Below wx.heap.size wx w') : Below w.heap.size w w' := h.trans (k.mono h.size)

/-- The two arguments: in their boxes, and their rows. -/
structure St2 (w0 : World) (ca : Int) (aa : Option Addr) (na qa : Nat) (Ga : Nat → Int) (cb : Int) (ab : Option Addr) (nb qb : Nat) (Gb : Nat → Int) (w : World) : Prop where
  bel : Below w0.heap.size w0 w
  boxA : Box w w0.heap.size 58 (.int .i64 ca) (.slice aa na qa)
  boxB : Box w (w0.heap.size + 1) 58 (.int .i64 cb) (.slice ab nb qb)
  rdA : RdI w (.slice aa na qa) na Ga
  rdB : RdI w (.slice ab nb qb) nb Gb
  lowA : ∀ x, aa = some x → na ≠ 0 → x.block < w0.heap.size
  lowB : ∀ x, ab = some x → nb ≠ 0 → x.block < w0.heap.size

section
variable {w0 w w' : World} {ca : Int} {aa : Option Addr} {na qa : Nat} {Ga : Nat → Int} {cb : Int} {ab : Option Addr} {nb qb : Nat} {Gb : Nat → Int}
theorem St2.start (ha : RdI w (.slice aa na qa) na Ga) (hb : RdI w (.slice ab nb qb) nb Gb) :
    St2 w ca aa na qa Ga cb ab nb qb Gb ((w.alloc (.cells #[.int .i64 ca, .slice aa na qa] 58)).alloc (.cells #[.int .i64 cb, .slice ab nb qb] 58)) := by
  have B : Below w.heap.size w ((w.alloc (.cells #[.int .i64 ca, .slice aa na qa] 58)).alloc (.cells #[.int .i64 cb, .slice ab nb qb] 58)) := ((Below.refl w.heap.size w).alloc (Nat.le_refl _) _).alloc (by simp) _
  refine ⟨B, (Box.new w _ _ _).alloc _, ?_, ha.below B, hb.below B, ha.low, hb.low⟩
  have := Box.new (w.alloc (.cells #[.int .i64 ca, .slice aa na qa] 58)) 58 (.int .i64 cb) (.slice ab nb qb)
  simpa using this
theorem St2.up (h : St2 w0 ca aa na qa Ga cb ab nb qb Gb w) (k : Below w.heap.size w w') : St2 w0 ca aa na qa Ga cb ab nb qb Gb w' :=
  ⟨h.bel.trans (k.mono h.bel.size), h.boxA.up k, h.boxB.up k, h.rdA.below k, h.rdB.below k, h.lowA, h.lowB⟩
theorem St2.alloc (h : St2 w0 ca aa na qa Ga cb ab nb qb Gb w) (o : Obj) : St2 w0 ca aa na qa Ga cb ab nb qb Gb (w.alloc o) := h.up ((Below.refl _ _).alloc (Nat.le_refl _) _)
theorem St2.a (h : St2 w0 ca aa na qa Ga cb ab nb qb Gb w) : StA w0 ca aa na qa Ga w := ⟨h.bel, h.boxA, h.rdA, h.lowA⟩
theorem Box.keptL {B : Nat} {n : Nat} {xs : List Value} {x y : Value} {v : Value} {g : Nat} (h : Box w g 58 x y) (k : w.grownBy w' v.ownBlock) (o : w.ownsRow B 2 1 v n xs) : Box w' g 58 x y := by
  refine (k.block g h.lt ?_).trans h
  intro e
  rcases o.2 with ⟨rfl, _⟩ | ⟨q', cap', cur, rfl, _, hg, _⟩
  · cases e
  · simp only [Value.ownBlock, Option.some.injEq] at e
    subst e
    unfold Box at h
    rw [hg] at h
    simp at h
theorem rd_kept {n2 : Nat} {xs : List Value} {v : Value} (bel : Below w0.heap.size w0 w) (rd : RdI w (.slice aa na qa) na Ga) (low : ∀ x, aa = some x → na ≠ 0 → x.block < w0.heap.size) (k : w.grownBy w' v.ownBlock) (o : w.ownsRow w0.heap.size 2 1 v n2 xs) : RdI w' (.slice aa na qa) na Ga := by
  have hb : ∀ q, v.ownBlock = some q → w0.heap.size ≤ q := fun q hq => (o.lt q hq).1
  obtain ⟨a', cap', e, hm, hc⟩ := rd
  cases e
  refine ⟨_, _, rfl, hm, ?_⟩
  rcases hc with h0 | ⟨b, off, rfl, hc⟩
  · exact .inl h0
  · by_cases hn0 : na = 0
    · exact .inl hn0
    · refine .inr ⟨b, off, rfl, fun i hi => ?_⟩
      have hl : b < w0.heap.size := low _ rfl hn0
      have hc' := hc i hi
      have hblk : w'.heap[b]? = w.heap[b]? := k.block b (Nat.lt_of_lt_of_le hl bel.size) (fun e => by have := hb _ e.symm; omega)
      unfold World.cell? at hc' ⊢
      rw [hblk]; exact hc'
theorem St2.kept {n2 : Nat} {xs : List Value} {v : Value} (h : St2 w0 ca aa na qa Ga cb ab nb qb Gb w) (k : w.grownBy w' v.ownBlock) (o : w.ownsRow w0.heap.size 2 1 v n2 xs) : St2 w0 ca aa na qa Ga cb ab nb qb Gb w' :=
  ⟨h.bel.grown k h.bel.size (fun q hq => (o.lt q hq).1), h.boxA.keptL k o, h.boxB.keptL k o, rd_kept h.bel h.rdA h.lowA k o, rd_kept h.bel h.rdB h.lowB k o, h.lowA, h.lowB⟩
theorem OwnB.stored {g : Nat} {C : Int} {v : Value} {L : List Int} (h : Box w g 26 (.int .i64 0) (.slice none 0 0)) (o : w.ownsRow w0.heap.size 2 1 v L.length (L.map (Value.int .i64))) (hg : w0.heap.size ≤ g) :
    OwnB w0 g C v L ((w.setCell ⟨g, 0, none⟩ (.int .i64 C)).setCell ⟨g, 1, none⟩ v) := by
  have h0 := h.set0 (.int .i64 C)
  have hne : ∀ {wx : World} {x y : Value}, Box wx g 26 x y → wx.ownsRow w0.heap.size 2 1 v L.length (L.map (Value.int .i64)) → ∀ q, v.ownBlock = some q → q ≠ g := by
    intro wx x y hb ho q hq e
    subst e
    rcases ho.2 with ⟨rfl, _⟩ | ⟨q', cap', cur, rfl, _, hG, _⟩
    · cases hq
    · simp only [Value.ownBlock, Option.some.injEq] at hq
      subst hq
      unfold Box at hb
      rw [hG] at hb
      simp at hb
  have o1 := own_sameblock (w' := w.setCell ⟨g, 0, none⟩ (.int .i64 C)) o fun q hq => heap_setCell_other _ _ _ _ (hne h o q hq)
  exact ⟨own_sameblock o1 fun q hq => heap_setCell_other _ _ _ _ (hne h0 o1 q hq), h0.set1 v, hg⟩

/-- What is kept of a matrix that a region made: the block of its box, its rows, its code. -/
def Made (w0 wS : World) (cd C : Int) (L : List Int) (s6 s7 : Value) (wx : World) : Prop :=
  ∃ (g : Nat) (va : Option Addr) (vc : Nat), s6 = .pointer (some ⟨g, 0, none⟩) ∧ s7 = .int .i64 cd ∧ Hid (OwnB w0 g C (.slice va L.length vc) L wx) ∧ Hid (Below wS.heap.size wS wx)
end
end Go.Proofs.YtdojblmffmefgaaDoor
