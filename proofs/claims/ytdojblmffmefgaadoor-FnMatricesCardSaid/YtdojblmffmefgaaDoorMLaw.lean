/-
  What an exact law over matrices keeps from step to step.
-/
import Derived.Test.YtdojblmffmefgaaDoorMBase
import Derived.Deep.RegionWith
import Derived.Deep.RegionHeld3
import Derived.BigRegion
namespace Go.Proofs.YtdojblmffmefgaaDoor
open Go.RowKit
set_option linter.unusedVariables false
set_option maxRecDepth 100000

/-- What a function that makes a matrix returns: a struct with rows of its own, and a code. -/
def MRes (C : Int) (L : List Int) (cd : Int) (w : World) (e : Ending) (w' : World) : Prop :=
  ∃ u, e = .returned (.tuple #[.agg #[.int .i64 C, u], .int .i64 cd]) ∧ w'.ownsRow w.heap.size 2 1 u L.length (L.map (Value.int .i64)) ∧ Below w.heap.size w w'

/-- What a function that returns a plain value and a code returns. -/
def VRes (V : Value) (cd : Int) (w : World) (e : Ending) (w' : World) : Prop := e = .returned (.tuple #[V, .int .i64 cd]) ∧ Below w.heap.size w w'

/-- The argument: in its box, and its rows. -/
structure StA (w0 : World) (c : Int) (a : Option Addr) (n cap : Nat) (G : Nat → Int) (w : World) : Prop where
  bel : Below w0.heap.size w0 w
  box : Box w w0.heap.size 58 (.int .i64 c) (.slice a n cap)
  rd : RdI w (.slice a n cap) n G
  low : ∀ x, a = some x → n ≠ 0 → x.block < w0.heap.size

theorem RdI.low {w : World} {a : Option Addr} {n cap : Nat} {G : Nat → Int} (h : RdI w (.slice a n cap) n G) : ∀ x, a = some x → n ≠ 0 → x.block < w.heap.size := by
  obtain ⟨a', cap', e, hm, hc⟩ := h
  cases e
  intro x hx h0
  obtain ⟨b, off, e, hc⟩ := hc.resolve_left h0
  rw [hx] at e
  cases e
  exact World.block_lt_of_cell? w _ (hc 0 (by omega))

theorem StA.start {w : World} {c : Int} {a : Option Addr} {n cap : Nat} {G : Nat → Int} (h : RdI w (.slice a n cap) n G) : StA w c a n cap G (w.alloc (.cells #[.int .i64 c, .slice a n cap] 58)) :=
  ⟨(Below.refl w.heap.size w).alloc (Nat.le_refl _) _, Box.new w _ _ _, h.below ((Below.refl w.heap.size w).alloc (Nat.le_refl _) _), h.low⟩
section
variable {w0 w w' : World} {c : Int} {a : Option Addr} {n cap : Nat} {G : Nat → Int}
theorem StA.up (h : StA w0 c a n cap G w) (k : Below w.heap.size w w') : StA w0 c a n cap G w' :=
  ⟨h.bel.trans (k.mono h.bel.size), h.box.up k, h.rd.below k, h.low⟩
theorem StA.alloc (h : StA w0 c a n cap G w) (o : Obj) : StA w0 c a n cap G (w.alloc o) := h.up ((Below.refl _ _).alloc (Nat.le_refl _) _)

/-- A matrix of the call's own, in its box g. -/
structure OwnB (w0 : World) (g : Nat) (C : Int) (v : Value) (L : List Int) (w : World) : Prop where
  own : w.ownsRow w0.heap.size 2 1 v L.length (L.map (Value.int .i64))
  box : Box w g 26 (.int .i64 C) v
  ge : w0.heap.size ≤ g
variable {g : Nat} {C : Int} {v : Value} {L : List Int}
theorem OwnB.start (hs : w0.heap.size ≤ w.heap.size) (h : w.ownsRow w0.heap.size 2 1 v L.length (L.map (Value.int .i64))) : OwnB w0 w.heap.size C v L (w.alloc (.cells #[.int .i64 C, v] 26)) :=
  ⟨own_below h ((Below.refl _ _).alloc (Nat.le_refl _) _), Box.new w _ _ _, hs⟩
theorem OwnB.start' {n : Nat} (hs : w0.heap.size ≤ w.heap.size) (h : w.ownsRow w0.heap.size 2 1 v n (L.map (Value.int .i64))) (hn : L.length = n) : OwnB w0 w.heap.size C v L (w.alloc (.cells #[.int .i64 C, v] 26)) := by
  subst hn; exact OwnB.start hs h
theorem OwnB.up (h : OwnB w0 g C v L w) (k : Below w.heap.size w w') : OwnB w0 g C v L w' := ⟨own_below h.own k, h.box.up k, h.ge⟩
theorem OwnB.alloc (h : OwnB w0 g C v L w) (o : Obj) : OwnB w0 g C v L (w.alloc o) := h.up ((Below.refl _ _).alloc (Nat.le_refl _) _)
theorem OwnB.rd (h : OwnB w0 g C v L w) : RdI w v L.length (fun i => L[i]?.getD 0) := rd_of_own h.own rfl
theorem OwnB.rdc {n : Nat} (h : OwnB w0 g C v (cpy G n n) w) : RdI w v n G := (rd_of_own (by have := h.own; rwa [cpy_length] at this) (cpy_length G n n).symm).congr (cpy_get G n)
theorem OwnB.own' (h : OwnB w0 g C v L w) {n : Nat} (hn : L.length = n := by simp [cpy_length]) : w.ownsRow w0.heap.size 2 1 v n (L.map (Value.int .i64)) := by subst hn; exact h.own
theorem OwnB.base (h : OwnB w0 g C v L w) : ∀ k, v.ownBlock = some k → w0.heap.size ≤ k := fun k hk => (h.own.lt k hk).1

/-- Marking rows of the call's own leaves the rest. -/
theorem StA.kept {n2 : Nat} {xs : List Value} {v : Value} (h : StA w0 c a n cap G w) (k : w.grownBy w' v.ownBlock) (o : w.ownsRow w0.heap.size 2 1 v n2 xs) : StA w0 c a n cap G w' := by
  have hb : ∀ q, v.ownBlock = some q → w0.heap.size ≤ q := fun q hq => (o.lt q hq).1
  refine ⟨h.bel.grown k h.bel.size hb, (k.block _ h.box.lt ?_).trans h.box, ?_, h.low⟩
  · intro e
    rcases o.2 with ⟨rfl, _⟩ | ⟨q', cap', cur, rfl, _, hg, _⟩
    · cases e
    · simp only [Value.ownBlock, Option.some.injEq] at e
      subst e
      have := h.box
      unfold Box at this
      rw [hg] at this
      simp at this
  · obtain ⟨a', cap', e, hm, hc⟩ := h.rd
    cases e
    refine ⟨_, _, rfl, hm, ?_⟩
    rcases hc with h0 | ⟨b, off, rfl, hc⟩
    · exact .inl h0
    · by_cases hn0 : n = 0
      · exact .inl hn0
      · refine .inr ⟨b, off, rfl, fun i hi => ?_⟩
        have hl : b < w0.heap.size := h.low _ rfl hn0
        have hc' := hc i hi
        have hblk : w'.heap[b]? = w.heap[b]? := k.block b (Nat.lt_of_lt_of_le hl h.bel.size) (fun e => by have := hb _ e.symm; omega)
        unfold World.cell? at hc' ⊢
        rw [hblk]; exact hc'
/-- A box does not lie in a block of rows. -/
theorem Box.keptM {B : Nat} {n : Nat} {xs : List Value} {x y : Value} {v : Value} (h : Box w g 26 x y) (k : w.grownBy w' v.ownBlock) (o : w.ownsRow B 2 1 v n xs) : Box w' g 26 x y := by
  refine (k.block g h.lt ?_).trans h
  intro e
  rcases o.2 with ⟨rfl, _⟩ | ⟨q', cap', cur, rfl, _, hg, _⟩
  · cases e
  · simp only [Value.ownBlock, Option.some.injEq] at e
    subst e
    unfold Box at h
    rw [hg] at h
    simp at h
theorem OwnB.kept {B : Nat} {n : Nat} {xs : List Value} {v2 : Value} (h : OwnB w0 g C v L w) (k : w.grownBy w' v2.ownBlock) (ap : v.ownBlock = none ∨ v.ownBlock ≠ v2.ownBlock) (o : w.ownsRow B 2 1 v2 n xs) : OwnB w0 g C v L w' :=
  ⟨h.own.kept k ap, h.box.keptM k o, h.ge⟩
theorem apart_symm {v v' : Value} (h : v.ownBlock = none ∨ v.ownBlock ≠ v'.ownBlock) : v'.ownBlock = none ∨ v'.ownBlock ≠ v.ownBlock := by
  rcases h with h | h
  · cases hv : v'.ownBlock with
    | none => exact .inl rfl
    | some x => right; rw [h]; simp
  · exact .inr (Ne.symm h)
theorem below_drew1 (b : Below w.drew.heap.size w.drew w') : Below w.heap.size w w' := (Below.refl w.heap.size w).drew.trans b
end
end Go.Proofs.YtdojblmffmefgaaDoor
