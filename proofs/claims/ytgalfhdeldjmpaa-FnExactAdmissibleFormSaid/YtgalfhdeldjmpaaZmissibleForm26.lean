/-
  Joined: RMark.
-/
import Derived.Test.YtgalfhdeldjmpaaZmissibleForm25
import Derived.Test.YtgalfhdeldjmpaaZmissibleForm20
section
namespace Go.Proofs.Ytgalfhdeldjmpaa
open Go.RowKit Go.Maps
set_option linter.unusedVariables false
set_option maxRecDepth 100000

/-- A world in which one block is another. -/
structure OneOff (q : Nat) (W W' : World) : Prop where
  os : W'.os = W.os
  tape : W'.tape = W.tape
  output : W'.output = W.output
  size : W'.heap.size = W.heap.size
  block : ∀ b, b ≠ q → W'.heap[b]? = W.heap[b]?
theorem OneOff.put (W : World) (q : Nat) (o : Obj) : OneOff q W (W.putObj q o) := ⟨rfl, rfl, rfl, World.putObj_size, fun b hb => World.putObj_heap_other hb⟩
theorem OneOff.set (W : World) (q : Nat) (v : Value) : OneOff q W (W.setCell ⟨q, 0, none⟩ v) := ⟨rfl, rfl, rfl, by simp [World.setCell], fun b hb => heap_setCell_other W ⟨q, 0, none⟩ b v hb⟩

/-- A family's or a row's block is no loop's. -/
theorem own_ne_obj {W : World} {B s n q : Nat} {e : TypeId} {v : Value} {xs : List Value} (h : W.ownsRow B e s v n xs) {o : Obj} (hq : W.heap[q]? = some o) (ho : o.isCells = false) : v.ownBlock ≠ some q := by
  intro e1
  rcases h.2 with ⟨rfl, _⟩ | ⟨g, cap, cur, rfl, _, hG, _⟩
  · cases e1
  · simp only [Value.ownBlock, Option.some.injEq] at e1
    subst e1
    rw [hG] at hq
    cases hq
    cases ho
theorem own_ne_cells {W : World} {B s n q : Nat} {e t : TypeId} {v : Value} {xs : List Value} {cs : Array Value} {fr : Nat × Nat} (h : W.ownsRow B e s v n xs) (hq : W.heap[q]? = some (.cells cs t fr)) (ht : e ≠ t) : v.ownBlock ≠ some q := by
  intro e1
  rcases h.2 with ⟨rfl, _⟩ | ⟨g, cap, cur, rfl, _, hG, _⟩
  · cases e1
  · simp only [Value.ownBlock, Option.some.injEq] at e1
    subst e1
    rw [hG] at hq
    simp only [Option.some.injEq, Obj.cells.injEq] at hq
    exact ht hq.2.1

def MarksAll (DD : List Nat) (W : World) : Prop := ∀ D ∈ DD, W.heap[D]? = some (.deferred (some []))
def marksOf (DD : List Nat) : List Deferred := DD.map fun D => { target := .collected D, args := #[] }
theorem MarksAll.kp {DD : List Nat} {gk gp : Nat} {W W' : World} (h : MarksAll DD W) (m1 : IsMapB W gk) (m2 : IsMapB W gp) (k : Kp2 gk gp W W') : MarksAll DD W' := fun D hD => by
  have h1 := h D hD
  refine (k.block D (Array.getElem?_eq_some_iff.1 h1).1 ?_ ?_).trans h1
  · rintro rfl; obtain ⟨es, c, hb⟩ := m1; rw [hb] at h1; cases h1
  · rintro rfl; obtain ⟨es, c, hb⟩ := m2; rw [hb] at h1; cases h1
theorem MarksAll.grown {DD : List Nat} {B s n : Nat} {e : TypeId} {v : Value} {xs : List Value} {W W' : World} (h : MarksAll DD W) (ho : W.ownsRow B e s v n xs) (hg : W.grownBy W' v.ownBlock) : MarksAll DD W' := fun D hD => by
  have h1 := h D hD
  exact (hg.block D (Array.getElem?_eq_some_iff.1 h1).1 fun e2 => own_ne_obj ho h1 rfl e2.symm).trans h1

/-- What reduced keeps: the list of words, the marks of the loops that are over; X: blocks of its own that it writes. -/
structure RedSt (R K gk gp : Nat) (w : World) (X : Nat → Prop) (DD : List Nat) (T : List (List Int)) (S : Value) (A : List (List Int)) (W : World) : Prop where
  t : TSt R K gk gp X w T S A W
  mks : MarksAll DD W
  dx : ∀ D ∈ DD, X D
  nd : DD.Nodup
  low : ∀ g, X g → w.heap.size ≤ g ∧ g < W.heap.size

section
variable {R K gk gp : Nat} {w : World} {X : Nat → Prop} {DD : List Nat} {T A : List (List Int)} {S : Value} {W W' : World}
theorem RedSt.lowX (h : RedSt R K gk gp w X DD T S A W) : ∀ g, (X g ∨ S.ownBlock = some g) → g < W.heap.size := fun g hg => hg.elim (fun k => (h.low g k).2) (fun e => (h.t.own.lt g e).2)
theorem RedSt.off {q : Nat} (h : RedSt R K gk gp w X DD T S A W) (k : OneOff q W W') (hx : X q) (hd : q ∉ DD) (hs : S.ownBlock ≠ some q) : RedSt R K gk gp w X DD T S A W' := by
  have hq := (h.low q hx).1
  refine ⟨⟨own_sameblock h.t.own fun g hg => k.block g (fun e => hs (e ▸ hg)), h.t.par, h.t.fit, h.t.inv.keep (fun b hb hn => k.block b (fun e => hn (e ▸ .inl hx))) (by rw [k.size]; exact Nat.le_refl _) fun g hg => .inl hg, ?_⟩, fun D hD => (k.block D (fun e => hd (e ▸ hD))).trans (h.mks D hD), h.dx, h.nd, fun g hg => by rw [k.size]; exact h.low g hg⟩
  exact ⟨k.os.trans h.t.kp.os, k.tape.trans h.t.kp.tape, k.output.trans h.t.kp.output, by rw [k.size]; exact h.t.kp.size, fun b hb h1 h2 => (k.block b (by omega)).trans (h.t.kp.block b hb h1 h2)⟩
theorem RedSt.up (h : RedSt R K gk gp w X DD T S A W) (k : Below W.heap.size W W') : RedSt R K gk gp w X DD T S A W' :=
  ⟨h.t.up k, fun D hD => (k.block D (Array.getElem?_eq_some_iff.1 (h.mks D hD)).1).trans (h.mks D hD), h.dx, h.nd, fun g hg => ⟨(h.low g hg).1, Nat.lt_of_lt_of_le (h.low g hg).2 k.size⟩⟩
/-- More blocks of its own: new ones. -/
theorem RedSt.more {X' : Nat → Prop} (h : RedSt R K gk gp w X DD T S A W) (k : Below W.heap.size W W') (hX : ∀ g, X g → X' g) (hX' : ∀ g, X' g → X g ∨ (W.heap.size ≤ g ∧ g < W'.heap.size)) : RedSt R K gk gp w X' DD T S A W' := by
  have u := h.up k
  have hsz := h.t.kp.size
  refine ⟨⟨u.t.own, u.t.par, u.t.fit, h.t.inv.keep (fun b hb _ => k.block b hb) k.size fun g hg => ?_, u.t.kp⟩, u.mks, fun D hD => hX D (h.dx D hD), h.nd, fun g hg => ?_⟩
  · rcases hg with hg | hg
    · exact (hX' g hg).elim (fun e => .inl (.inl e)) (fun e => .inr e.1)
    · exact .inl (.inr hg)
  · rcases hX' g hg with e | e
    · exact u.low g e
    · exact ⟨by omega, e.2⟩
theorem RedSt.mark {D : Nat} (h : RedSt R K gk gp w X DD T S A W) (hm : W.heap[D]? = some (.deferred (some []))) (hx : X D) (hd : D ∉ DD) : RedSt R K gk gp w X (D :: DD) T S A W :=
  ⟨h.t, fun E hE => (List.mem_cons.1 hE).elim (fun e => e ▸ hm) (h.mks E), fun E hE => (List.mem_cons.1 hE).elim (fun e => e ▸ hx) (h.dx E), List.nodup_cons.2 ⟨hd, h.nd⟩, h.low⟩
theorem RedSt.call (h : RedSt R K gk gp w X DD T S A W) (hi : RInv R K gk gp (fun g => X g ∨ S.ownBlock = some g) W') (k : Kp2 gk gp W W') : RedSt R K gk gp w X DD T S A W' :=
  ⟨h.t.call hi k, h.mks.kp h.t.inv.m1 h.t.inv.m2 k, h.dx, h.nd, fun g hg => ⟨(h.low g hg).1, Nat.lt_of_lt_of_le (h.low g hg).2 k.size⟩⟩
theorem RedSt.app {T2 B : List (List Int)} {S' : Value} (h : RedSt R K gk gp w X DD T S A W) (ho : OwnP W' w.heap.size S' (A.map packK ++ B.map packK)) (hg : W.grownBy W' S.ownBlock) (hl : S'.ownBlock = S.ownBlock ∨ S'.ownBlock = some W.heap.size)
    (hp : ∀ y, par B y ↔ par T2 y) (hf : ∀ y ∈ B, fits y) : RedSt R K gk gp w X DD (T ++ T2) S' (A ++ B) W' :=
  ⟨h.t.app ho hg hl hp hf, h.mks.grown h.t.own hg, h.dx, h.nd, fun g hg' => ⟨(h.low g hg').1, Nat.lt_of_lt_of_le (h.low g hg').2 hg.size⟩⟩
/-- A word whose form is 0. -/
theorem RedSt.zero {T2 : List (List Int)} (h : RedSt R K gk gp w X DD T S A W) (hz : ∀ y, ¬ par T2 y) : RedSt R K gk gp w X DD (T ++ T2) S A W :=
  ⟨⟨h.t.own, fun y => by rw [h.t.par, par_append]; have := hz y; by_cases e : par T y <;> simp [e, this], h.t.fit, h.t.inv, h.t.kp⟩, h.mks, h.dx, h.nd, h.low⟩
theorem RedSt.start (h : RInv R K gk gp (fun _ => False) w) : RedSt R K gk gp w (fun _ => False) [] [] (.slice none 0 0) [] w :=
  ⟨TSt.start h (Kp2.refl gk gp w), fun D hD => absurd hD List.not_mem_nil, fun D hD => absurd hD List.not_mem_nil, List.nodup_nil, fun g hg => hg.elim⟩
end

/-- A row that is read lies in no block of one cell or of another kind. -/
theorem RdQ.off {W W' : World} {q : Nat} {u : Value} {ks : List (Array Value)} (h : RdQ W u ks) (hk : ∀ k ∈ ks, KOKP k) (k : OneOff q W W') (hq : (∃ o, W.heap[q]? = some o ∧ o.isCells = false) ∨ ∃ x t fr, W.heap[q]? = some (.cells #[x] t fr)) : RdQ W' u ks := by
  obtain ⟨a, cap, e, hm, hc⟩ := h
  refine ⟨a, cap, e, hm, ?_⟩
  rcases hc with h0 | ⟨b, off, e, hc⟩
  · exact .inl h0
  · refine .inr ⟨b, off, e, fun i hi j u hj => ?_⟩
    have hb : b ≠ q := by
      rintro rfl
      have hki : KOKP (ks[i]?.getD #[]) := by rw [List.getElem?_eq_getElem hi]; exact hk _ (List.getElem_mem _)
      have g : ∃ u, (ks[i]?.getD #[]).toList[1]? = some u := ⟨_, List.getElem?_eq_getElem (by rw [Array.length_toList, hki.size]; omega)⟩
      obtain ⟨u1, hu1⟩ := g
      have h1 := hc i hi 1 u1 hu1
      rcases hq with ⟨o, ho, hn⟩ | ⟨x, t, fr, ho⟩
      · cases o <;> simp [World.cell?, ho] at h1
        cases hn
      · simp [World.cell?, ho] at h1
    exact (World.cell?_of_block (w := W) (a := ⟨b, off + i * 8 + j, none⟩) (k.block b hb)).trans (hc i hi j u hj)

/-- A form is 0 where a part of it is. -/
theorem form_zero : ∀ (i : Nat) (xs : List Int), (∀ y, ¬ par (formF (xs.drop i)) y) → ∀ y, ¬ par (formF xs) y
  | 0, _, h => h
  | i + 1, [], h => by simpa using h
  | i + 1, x :: r, h => by
    have h1 := form_zero i r (by simpa using h)
    intro y hy
    have := (par_flatMap (admF 1700 x) y (formF r) [] fun z => by have := h1 z; simp [this, par]).1 hy
    simp [par] at this

/-- The marks at the end. -/
theorem leaves_marks {P : Program} {F : Fence} {n : Nat} {fn : Func} {tmps : Array Value} {E : Ending → World → Prop} (X : Nat → Prop) (G : World → Prop) (hp : ∀ W D, X D → G W → W.heap[D]? = some (.deferred (some [])) → G (W.putObj D (.deferred none))) (he : ∀ W, G W → LeavesIn F n P fn tmps E [] .returning W) :
    ∀ (DD : List Nat) (W : World), (∀ D ∈ DD, X D) → G W → MarksAll DD W → DD.Nodup → LeavesInM F n P fn tmps E (marksOf DD) .returning W
  | [], W, _, g, _, _ => he W g
  | D :: DD, W, hx, g, hm, hn => by
    obtain ⟨n1, n2⟩ := List.nodup_cons.1 hn
    have hD := hm D List.mem_cons_self
    refine ⟨by simp, .inl ⟨D, _, rfl, run_takeDeferred hD, leaves_marks X G hp he DD _ (fun E hE => hx E (List.mem_cons_of_mem _ hE)) (hp W D (hx D List.mem_cons_self) g hD) (fun E hE => ?_) n2⟩⟩
    exact (World.putObj_heap_other (r := D) (k := E) (fun e => n1 (e ▸ hE))).trans (hm E (List.mem_cons_of_mem _ hE))
end Go.Proofs.Ytgalfhdeldjmpaa
end
