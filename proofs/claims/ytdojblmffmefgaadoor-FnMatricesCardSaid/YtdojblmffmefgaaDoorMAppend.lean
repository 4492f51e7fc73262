/-
  One number appended to a row of the call's own; a struct as result.
-/
import Derived.Test.YtdojblmffmefgaaDoorMLaw
import Derived.Laws.ResultCell
import Derived.Deep.AppendLies
import Derived.Deep.DrawnRows
namespace Go.Proofs.YtdojblmffmefgaaDoor
open Go.RowKit
set_option linter.unusedVariables false
set_option maxRecDepth 100000

/-- append(v, r). -/
theorem wpList_append1 {w : World} {ops : Array Oper} {rest : List Oper} {o : Oper} {a : Act} {Q : Exit → Act → World → Prop} (hgd : o.guard = none) (s x : Operand)
    (ho : o.op = .call { callee := .builtin .append, args := #[s, x], argTypes := #[24, 24] })
    (B : Nat) (v : Value) (n : Nat) (xs : List Int) (hs : a.eval s = v) (hown : w.ownsRow B 2 1 v n (xs.map (Value.int .i64)))
    (r : Int) (g c : Nat) (hx : a.eval x = .slice (some ⟨g, 0, none⟩) 1 c) (hc : w.cell? ⟨g, 0, none⟩ = some (.int .i64 r)) (hn : n ≤ 1000000) (hB : B ≤ w.heap.size)
    (h : ∀ v' w', w'.ownsRow B 2 1 v' (n + 1) ((xs ++ [r]).map (Value.int .i64)) → w.grownBy w' v.ownBlock → wpList Tryd.prog ops Q rest (a.put o.dst v') w') : wpList Tryd.prog ops Q (o :: rest) a w := by
  obtain ⟨i0, hi, hz0, hz1, hz2⟩ := info_parts Tryd.info2
  refine wpList_append_own w hgd s x 24 ho B 2 i0 (.int .i64 0) 1 8 Tryd.underlying24 hi hz0 hz1 hz2 rfl (by decide) v n (xs.map (Value.int .i64)) hs hown ⟨g, 0, none⟩ 1 c [.int .i64 r] hx rfl ?_ ?_ ?_ ?_ hB ?_
  · intro j u hj
    match j, hj with
    | 0, hj => simp at hj; subst hj; simpa [Addr.add] using hc
  · intro u hu; simp at hu; subst hu; rfl
  · unfold maxLen; omega
  · omega
  · intro v' w' h1 h2 _
    exact h v' w' (by rw [List.map_append]; exact h1) h2

/-- A struct of two cells and a number as results. -/
theorem results_box_tmp {fn : Func} {p u : Tmp} {t : TypeId} (h : fn.results = #[.cell p t, .tmp u]) (tmps : Array Value) (w : World) (g : Nat) (x y : Value) (fs : Array Field)
    (hp : tmps.getD p undef = .pointer (some ⟨g, 0, none⟩)) (hg : Box w g t x y)
    (hu : Tryd.prog.underlying t = some (.struct fs)) (hi : (Tryd.prog.info? t).map (·.size) = some 2) :
    (results fn tmps).run Tryd.prog w = .ok (.tuple #[.agg #[x, y], tmps.getD u undef]) w := by
  rw [results_cell_tmp h, hp]
  have := run_loadVar_row (P := Tryd.prog) w g t t #[x, y] (0, 0) (.struct fs) hg hu rfl hi
  show ((loadVar t ⟨g, 0, none⟩).run Tryd.prog w).andThen _ = _
  rw [this]
  rfl

theorem Box.grown {w w' : World} {g : Nat} {x y : Value} {t : TypeId} {v : Value} (h : Box w g t x y) (k : w.grownBy w' v.ownBlock) (hne : some g ≠ v.ownBlock) : Box w' g t x y :=
  (k.block g h.lt hne).trans h

/-- A row's block is no struct's. -/
theorem Box.ne_row {w : World} {g B n : Nat} {x y v : Value} {t : TypeId} {xs : List Value} (h : Box w g t x y) (o : w.ownsRow B 2 1 v n xs) (ht : t ≠ 2) : some g ≠ v.ownBlock := by
  intro e
  rcases o.2 with ⟨rfl, _⟩ | ⟨q', cap', cur, rfl, _, hg, _⟩
  · cases e
  · simp only [Value.ownBlock, Option.some.injEq] at e
    subst e
    unfold Box at h
    rw [hg] at h
    simp only [Option.some.injEq, Obj.cells.injEq] at h
    exact ht h.2.1.symm
/-- Storing into a struct's block leaves the rows. -/
theorem own_setBox {w : World} {g B n : Nat} {x y v u : Value} {t : TypeId} {xs : List Value} {i : Nat} (h : Box w g t x y) (o : w.ownsRow B 2 1 v n xs) (ht : t ≠ 2) : (w.setCell ⟨g, i, none⟩ u).ownsRow B 2 1 v n xs :=
  own_sameblock o fun q hq => heap_setCell_other _ _ _ _ (fun e => h.ne_row o ht (by rw [hq]; exact congrArg some (by simpa using e.symm)))

/-- A function that builds a matrix in block gO, row by row; its argument lies in block gA, its result goes into block gR. -/
structure Bld (w0 : World) (gA gR gO : Nat) (x y : Value) (C : Int) (v : Value) (L : List Int) (w : World) : Prop where
  bel : Below w0.heap.size w0 w
  bA : Box w gA 26 x y
  bR : Box w gR 26 (.int .i64 0) (.slice none 0 0)
  bO : Box w gO 26 (.int .i64 C) v
  own : w.ownsRow w0.heap.size 2 1 v L.length (L.map (Value.int .i64))
  gA0 : w0.heap.size ≤ gA
  gR0 : w0.heap.size ≤ gR
  gO0 : w0.heap.size ≤ gO
  neA : gA ≠ gO
  neR : gR ≠ gO

section
variable {w0 w : World} {gA gR gO : Nat} {x y : Value} {C : Int} {v : Value} {L : List Int}
theorem Bld.up {w' : World} (h : Bld w0 gA gR gO x y C v L w) (k : Below w.heap.size w w') : Bld w0 gA gR gO x y C v L w' :=
  ⟨h.bel.trans (k.mono h.bel.size), h.bA.up k, h.bR.up k, h.bO.up k, own_below h.own k, h.gA0, h.gR0, h.gO0, h.neA, h.neR⟩
theorem Bld.drew (h : Bld w0 gA gR gO x y C v L w) : Bld w0 gA gR gO x y C v L w.drew := ⟨h.bel.drew, h.bA, h.bR, h.bO, h.own, h.gA0, h.gR0, h.gO0, h.neA, h.neR⟩
theorem Bld.alloc (h : Bld w0 gA gR gO x y C v L w) (o : Obj) : Bld w0 gA gR gO x y C v L (w.alloc o) := h.up ((Below.refl _ _).alloc (Nat.le_refl _) _)
/-- Behind the append, ahead of the store. -/
structure Bld2 (w0 : World) (gA gR gO : Nat) (x y : Value) (C : Int) (v v' : Value) (L : List Int) (w : World) : Prop where
  bel : Below w0.heap.size w0 w
  bA : Box w gA 26 x y
  bR : Box w gR 26 (.int .i64 0) (.slice none 0 0)
  bO : Box w gO 26 (.int .i64 C) v
  own : w.ownsRow w0.heap.size 2 1 v' L.length (L.map (Value.int .i64))
theorem Bld.app {w' : World} {v' : Value} {r : Int} (h : Bld w0 gA gR gO x y C v L w) (ho : w'.ownsRow w0.heap.size 2 1 v' (L.length + 1) ((L ++ [r]).map (Value.int .i64))) (k : w.grownBy w' v.ownBlock) :
    Bld2 w0 gA gR gO x y C v v' (L ++ [r]) w' :=
  ⟨h.bel.grown k h.bel.size (fun q hq => (h.own.lt q hq).1), h.bA.grown k (h.bA.ne_row h.own (by decide)), h.bR.grown k (h.bR.ne_row h.own (by decide)), h.bO.grown k (h.bO.ne_row h.own (by decide)), by rw [List.length_append]; exact ho⟩
theorem Bld2.store {v' : Value} {L' : List Int} (h0 : Bld w0 gA gR gO x y C v L w) {w' : World} (h : Bld2 w0 gA gR gO x y C v v' L' w') : Bld w0 gA gR gO x y C v' L' (w'.setCell ⟨gO, 1, none⟩ v') :=
  ⟨h.bel.setCell (p := ⟨gO, 1, none⟩) h0.gO0 _, h.bA.other _ _ h0.neA, h.bR.other _ _ h0.neR, h.bO.set1 _, own_setBox h.bO h.own (by decide), h0.gA0, h0.gR0, h0.gO0, h0.neA, h0.neR⟩
/-- Storing the whole into the result's block. -/
theorem Bld.fin (h : Bld w0 gA gR gO x y C v L w) : Box ((w.setCell ⟨gR, 0, none⟩ (.int .i64 C)).setCell ⟨gR, 1, none⟩ v) gR 26 (.int .i64 C) v ∧
    ((w.setCell ⟨gR, 0, none⟩ (.int .i64 C)).setCell ⟨gR, 1, none⟩ v).ownsRow w0.heap.size 2 1 v L.length (L.map (Value.int .i64)) ∧ Below w0.heap.size w0 ((w.setCell ⟨gR, 0, none⟩ (.int .i64 C)).setCell ⟨gR, 1, none⟩ v) :=
  ⟨(h.bR.set0 _).set1 _, own_setBox (h.bR.set0 _) (own_setBox h.bR h.own (by decide)) (by decide), (h.bel.setCell (p := ⟨gR, 0, none⟩) h.gR0 _).setCell (p := ⟨gR, 1, none⟩) h.gR0 _⟩
end

/-- All blocks are as they were but block g and a row's block. -/
def Kp (g : Nat) (ob : Option Nat) (w w' : World) : Prop := w.heap.size ≤ w'.heap.size ∧ ∀ b, b < w.heap.size → b ≠ g → some b ≠ ob → w'.heap[b]? = w.heap[b]?
section
variable {g : Nat} {ob : Option Nat} {w w' w'' : World}
theorem Kp.refl (g : Nat) (ob : Option Nat) (w : World) : Kp g ob w w := ⟨Nat.le_refl _, fun _ _ _ _ => rfl⟩
theorem Kp.drew (h : Kp g ob w w') : Kp g ob w w'.drew := h
theorem Kp.alloc (h : Kp g ob w w') (o : Obj) : Kp g ob w (w'.alloc o) :=
  ⟨by have := h.1; simp; omega, fun b hb h1 h2 => (heap_alloc_old w' o (Nat.lt_of_lt_of_le hb h.1)).trans (h.2 b hb h1 h2)⟩
theorem Kp.below (h : Kp g ob w w') (k : Below w'.heap.size w' w'') : Kp g ob w w'' :=
  ⟨Nat.le_trans h.1 k.size, fun b hb h1 h2 => (k.block b (Nat.lt_of_lt_of_le hb h.1)).trans (h.2 b hb h1 h2)⟩
theorem Kp.grown (h : Kp g ob w w') (k : w'.grownBy w'' ob) : Kp g ob w w'' :=
  ⟨Nat.le_trans h.1 k.size, fun b hb h1 h2 => (k.block b (Nat.lt_of_lt_of_le hb h.1) h2).trans (h.2 b hb h1 h2)⟩
theorem Kp.set (h : Kp g ob w w') (i : Nat) (v : Value) : Kp g ob w (w'.setCell ⟨g, i, none⟩ v) :=
  ⟨by simpa using h.1, fun b hb h1 h2 => (heap_setCell_other w' _ b v h1).trans (h.2 b hb h1 h2)⟩
theorem Kp.cell (h : Kp g ob w w') {a : Addr} {v : Value} (hc : w.cell? a = some v) (h1 : a.block ≠ g) (h2 : some a.block ≠ ob) : w'.cell? a = some v :=
  (World.cell?_of_block (h.2 a.block (World.block_lt_of_cell? w a hc) h1 h2)).trans hc
end

/-- append(v, r), in a region that draws its order. -/
theorem step_append1 {w : World} {ops : Array Oper} {o : Oper} {a : Act} {K : Act → World → Prop} {Q : Exit → Act → World → Prop} {E : Prop} (hgd : o.guard = none) (s x : Operand)
    (ho : o.op = .call { callee := .builtin .append, args := #[s, x], argTypes := #[24, 24] })
    (B : Nat) (v : Value) (n : Nat) (xs : List Int) (hs : a.eval s = v) (hown : w.ownsRow B 2 1 v n (xs.map (Value.int .i64)))
    (r : Int) (g c : Nat) (hx : a.eval x = .slice (some ⟨g, 0, none⟩) 1 c) (hc : w.cell? ⟨g, 0, none⟩ = some (.int .i64 r)) (hn : n ≤ 1000000) (hB : B ≤ w.heap.size)
    (h : ∀ va vc w', w'.ownsRow B 2 1 (.slice va (n + 1) vc) (n + 1) ((xs ++ [r]).map (Value.int .i64)) → w.grownBy w' v.ownBlock → K (a.put o.dst (.slice va (n + 1) vc)) w') :
    if Region.wanted o (yielded ops a.tmps) = true then Oper.wp Tryd.prog o a w K Q else E := by
  obtain ⟨i0, hi, hz0, hz1, hz2⟩ := info_parts Tryd.info2
  refine step_append_lies w hgd s x 24 ho B 2 i0 (.int .i64 0) 1 8 Tryd.underlying24 hi hz0 hz1 hz2 rfl (by decide) v n (xs.map (Value.int .i64)) hs hown ⟨g, 0, none⟩ 1 c [.int .i64 r] hx rfl ?_ ?_ (by decide) ?_ ?_ hB _ rfl ?_
  · intro j u hj
    match j, hj with
    | 0, hj => simp at hj; subst hj; simpa [Addr.add] using hc
  · intro u hu; simp at hu; subst hu; rfl
  · unfold maxLen; omega
  · omega
  · intro g' cap w' h1 h2 _ _
    exact h _ _ w' (by rw [List.map_append]; exact h1) h2

end Go.Proofs.YtdojblmffmefgaaDoor
