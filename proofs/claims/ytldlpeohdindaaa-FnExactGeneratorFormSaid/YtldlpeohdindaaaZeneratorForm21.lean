/-
  Joined: RBase.
-/
import Derived.Test.YtldlpeohdindaaaZeneratorForm15
import Derived.Test.YtldlpeohdindaaaZeneratorForm16
import Derived.Test.YtldlpeohdindaaaZeneratorForm20
import Derived.Maps.OwnSet
section
namespace Go.Proofs.Ytldlpeohdindaaa
open Go.RowKit Go.Maps
set_option linter.unusedVariables false
set_option maxRecDepth 100000

/-! ### Entries of a map whose elements are kept as they are -/
/-- An element is read as itself. -/
def RawV (v : Value) : Option (DataW Value × List MemPlace) := some (.held v, [])
/-- All entries are such. -/
def Ent (D : DataW Value) (Φ : Lit → Value → Prop) : Prop := ∃ es, D = .map es ∧ ∀ p ∈ es, ∃ v, p.2 = .held v ∧ Φ p.1 v
theorem Ent.nil (Φ : Lit → Value → Prop) : Ent (.map []) Φ := ⟨[], rfl, by simp⟩
theorem mem_insertD {H : Type} (x : Lit × DataW H) : ∀ (l : List (Lit × DataW H)) (p : Lit × DataW H), p ∈ DataW.insert x l → p = x ∨ p ∈ l
  | [], p, h => by simp [DataW.insert] at h; exact .inl h
  | y :: r, p, h => by
    unfold DataW.insert at h
    split at h
    · rcases List.mem_cons.1 h with h | h
      · exact .inl h
      · exact .inr h
    · rcases List.mem_cons.1 h with h | h
      · exact .inr (h ▸ List.mem_cons_self)
      · rcases mem_insertD x r p h with h | h
        · exact .inl h
        · exact .inr (List.mem_cons_of_mem _ h)
theorem Ent.put {D : DataW Value} {Φ : Lit → Value → Prop} (h : Ent D Φ) (k : Lit) (v : Value) (hv : Φ k v) : Ent (D.put k (.held v)) Φ := by
  obtain ⟨es, rfl, h⟩ := h
  refine ⟨_, rfl, fun p hp => ?_⟩
  rcases mem_insertD _ _ p hp with rfl | hp
  · exact ⟨v, rfl, hv⟩
  · exact h p (List.mem_filter.1 hp).1
theorem Ent.mono {D : DataW Value} {Φ Ψ : Lit → Value → Prop} (h : Ent D Φ) (k : ∀ l v, Φ l v → Ψ l v) : Ent D Ψ := by
  obtain ⟨es, e, h⟩ := h
  exact ⟨es, e, fun p hp => by obtain ⟨v, h1, h2⟩ := h p hp; exact ⟨v, h1, k _ _ h2⟩⟩
theorem Ent.look {D : DataW Value} {Φ : Lit → Value → Prop} (h : Ent D Φ) (l : Lit) (hh : has D l = true) (z : DataW Value) : ∃ v, D.atKey l z = .held v ∧ Φ l v := by
  obtain ⟨es, rfl, h⟩ := h
  have hh' : es.any (fun p => p.1.sameKey l) = true := hh
  obtain ⟨p, hp⟩ : ∃ p, es.find? (fun p => p.1.sameKey l) = some p := by
    cases e : es.find? (fun p => p.1.sameKey l) with
    | some p => exact ⟨p, rfl⟩
    | none =>
      rw [List.find?_eq_none] at e
      obtain ⟨q, hq, hq2⟩ := List.any_eq_true.1 hh'
      exact absurd hq2 (e q hq)
  obtain ⟨v, h1, h2⟩ := h p (List.mem_of_find?_eq_some hp)
  have he : p.1 = l := WideAt.sameKey_eq (by have := List.find?_some hp; simpa using this)
  refine ⟨v, ?_, he ▸ h2⟩
  unfold DataW.atKey
  simp only [hp]
  exact h1
theorem Ent.few {D : DataW Value} {Φ : Lit → Value → Prop} (h : Ent D Φ) (ht : Tidy D) (S : List (Option Lit)) (hS : ∀ l v, Φ l v → some l ∈ S) : Maps.size D ≤ S.length := by
  obtain ⟨es, rfl, h⟩ := h
  obtain ⟨es', e, hp⟩ := ht
  cases e
  have hn : (es.map fun p => some p.1).Nodup := by
    rw [List.Nodup, List.pairwise_map]
    exact hp.imp fun h e => h (Option.some.inj e)
  have := nodup_len (es.map fun p => some p.1) S hn fun o ho => by
    obtain ⟨p, hp, rfl⟩ := List.mem_map.1 ho
    obtain ⟨v, _, h2⟩ := h p hp
    exact hS _ _ h2
  rw [List.length_map] at this
  exact this
theorem ownsMap_exact {H : Type} {w : World} {P : Program} {k : TypeId} {R : Value → Option (DataW H × List MemPlace)} {b n : Nat} {D : DataW H} (h : w.ownsMap P k R b n D) : w.ownsMap P k R b (Maps.size D) D := by
  obtain ⟨es, clock, hb, F, _, rfl⟩ := h
  refine ⟨es, clock, hb, F, ?_, rfl⟩
  have := length_read (P := P) (k := k) (R0 := R) es
  unfold Maps.size
  simp only
  omega

/-! ### What is left as it was -/
/-- All blocks are as they were but two. -/
structure Kp2 (gk gp : Nat) (w w' : World) : Prop where
  os : w'.os = w.os
  tape : w'.tape = w.tape
  output : w'.output = w.output
  size : w.heap.size ≤ w'.heap.size
  block : ∀ k, k < w.heap.size → k ≠ gk → k ≠ gp → w'.heap[k]? = w.heap[k]?
theorem Kp2.refl (gk gp : Nat) (w : World) : Kp2 gk gp w w := ⟨rfl, rfl, rfl, Nat.le_refl _, fun _ _ _ _ => rfl⟩
theorem Kp2.trans {gk gp : Nat} {a b c : World} (h : Kp2 gk gp a b) (k : Kp2 gk gp b c) : Kp2 gk gp a c :=
  ⟨k.os.trans h.os, k.tape.trans h.tape, k.output.trans h.output, Nat.le_trans h.size k.size, fun i hi h1 h2 => (k.block i (Nat.lt_of_lt_of_le hi h.size) h1 h2).trans (h.block i hi h1 h2)⟩
theorem Kp2.of_below {gk gp : Nat} {w w' : World} (h : Below w.heap.size w w') : Kp2 gk gp w w' := ⟨h.os, h.tape, h.output, h.size, fun k hk _ _ => h.block k hk⟩
theorem Kp2.of_grown {gk gp : Nat} {w w' : World} {row : Option Nat} (h : w.grownBy w' row) (hr : row = some gk ∨ row = some gp ∨ row = none) : Kp2 gk gp w w' :=
  ⟨h.os, h.tape, h.output, h.size, fun k hk h1 h2 => h.block k hk (by rcases hr with rfl | rfl | rfl <;> simp [h1, h2])⟩
theorem Kp2.below {gk gp B : Nat} {w w' : World} (h : Kp2 gk gp w w') (h1 : B ≤ gk) (h2 : B ≤ gp) (h3 : B ≤ w.heap.size) : Below B w w' :=
  ⟨h.os, h.tape, h.output, h.size, fun k hk => h.block k (by omega) (by omega) (by omega)⟩
theorem Kp2.cell {gk gp : Nat} {w w' : World} (h : Kp2 gk gp w w') {p : Addr} (hp : p.block < w.heap.size) (h1 : p.block ≠ gk) (h2 : p.block ≠ gp) : w'.cell? p = w.cell? p := World.cell?_of_block (w := w) (h.block p.block hp h1 h2)
/-- Block g holds a map. -/
def IsMapB (w : World) (g : Nat) : Prop := ∃ es c, w.heap[g]? = some (.map es c)
theorem IsMapB.ne {w : World} {g b : Nat} (h : IsMapB w g) {o : Nat} {v : Value} (hc : w.cell? ⟨b, o, none⟩ = some v) : b ≠ g := by
  rintro rfl
  obtain ⟨es, c, hb⟩ := h
  simp [World.cell?, hb] at hc
theorem IsMapB.ne_cells {w : World} {g b : Nat} (h : IsMapB w g) {c : Array Value} {t : TypeId} {fr : Nat × Nat} (hc : w.heap[b]? = some (.cells c t fr)) : b ≠ g := by
  rintro rfl
  obtain ⟨es, _, hb⟩ := h
  rw [hb] at hc
  cases hc
theorem isMapB_of {H : Type} {w : World} {P : Program} {k : TypeId} {R : Value → Option (DataW H × List MemPlace)} {b n : Nat} {D : DataW H} (h : w.ownsMap P k R b n D) : IsMapB w b := by
  obtain ⟨es, clock, hb, _⟩ := h; exact ⟨es, clock, hb⟩
theorem IsMapB.below {w w' : World} {g : Nat} (h : IsMapB w g) (k : Below w.heap.size w w') : IsMapB w' g := by
  obtain ⟨es, c, hb⟩ := h
  exact ⟨es, c, (k.block g (Array.getElem?_eq_some_iff.1 hb).1).trans hb⟩

section
variable {gk gp : Nat} {w w' : World}
theorem RdP.kp {v : Value} {ks : List (Array Value)} (h : RdP w v ks) (hk : ∀ k ∈ ks, KOKP k) (m1 : IsMapB w gk) (m2 : IsMapB w gp) (k : Kp2 gk gp w w') : RdP w' v ks := by
  obtain ⟨a, cap, e, hm, hc⟩ := h
  refine ⟨a, cap, e, hm, ?_⟩
  rcases hc with h0 | ⟨b, off, e, hb, hc⟩
  · exact .inl h0
  · by_cases h0 : ks.length = 0
    · exact .inl h0
    · have hbb : b ≠ gk ∧ b ≠ gp := by
        have hc0 := hc 0 (by omega)
        have hk0 : KOKP (ks[0]?.getD #[]) := by rw [List.getElem?_eq_getElem (by omega)]; exact hk _ (List.getElem_mem _)
        obtain ⟨u, hu⟩ : ∃ u, (ks[0]?.getD #[]).toList[0]? = some u := by
          have := hk0.size
          exact ⟨_, List.getElem?_eq_getElem (by rw [Array.length_toList]; omega)⟩
        have := hc0 0 u hu
        exact ⟨m1.ne this, m2.ne this⟩
      exact .inr ⟨b, off, e, Nat.lt_of_lt_of_le hb k.size, fun i hi j u hj => (k.cell (p := ⟨b, off + i * 8 + j, none⟩) hb hbb.1 hbb.2).trans (hc i hi j u hj)⟩
/-- v reads as the keys ks; where it has no address it is nil. -/
def RdQ (w : World) (v : Value) (ks : List (Array Value)) : Prop :=
  ∃ a cap, v = .slice a ks.length cap ∧ ks.length ≤ maxLen ∧ ((a = none ∧ ks.length = 0 ∧ cap = 0) ∨ ∃ b off, a = some ⟨b, off, none⟩ ∧ ∀ i, i < ks.length → w.rangeAt b (off + i * 8) (ks[i]?.getD #[]).toList)
theorem rangeK_cell {w : World} {b off : Nat} {ks : List (Array Value)} (hk : ∀ k ∈ ks, KOKP k) (h0 : 0 < ks.length) (hc : ∀ i, i < ks.length → w.rangeAt b (off + i * 8) (ks[i]?.getD #[]).toList) : ∃ u, w.cell? ⟨b, off, none⟩ = some u := by
  have hc0 := hc 0 h0
  have hk0 : KOKP (ks[0]?.getD #[]) := by rw [List.getElem?_eq_getElem h0]; exact hk _ (List.getElem_mem _)
  obtain ⟨u, hu⟩ : ∃ u, (ks[0]?.getD #[]).toList[0]? = some u := ⟨_, List.getElem?_eq_getElem (by rw [Array.length_toList, hk0.size]; omega)⟩
  exact ⟨u, by simpa using hc0 0 u hu⟩
theorem RdQ.rdp {v : Value} {ks : List (Array Value)} (h : RdQ w v ks) (hk : ∀ k ∈ ks, KOKP k) : RdP w v ks := by
  obtain ⟨a, cap, e, hm, hc⟩ := h
  refine ⟨a, cap, e, hm, ?_⟩
  rcases hc with ⟨_, h0, _⟩ | ⟨b, off, e, hc⟩
  · exact .inl h0
  · by_cases h0 : ks.length = 0
    · exact .inl h0
    · obtain ⟨u, hu⟩ := rangeK_cell hk (by omega) hc
      exact .inr ⟨b, off, e, World.block_lt_of_cell? w _ hu, hc⟩
theorem RdQ.keep {v : Value} {ks : List (Array Value)} (h : RdQ w v ks) (hk : ∀ k ∈ ks, KOKP k) (f : ∀ b o u, w.cell? ⟨b, o, none⟩ = some u → w'.heap[b]? = w.heap[b]?) : RdQ w' v ks := by
  obtain ⟨a, cap, e, hm, hc⟩ := h
  refine ⟨a, cap, e, hm, ?_⟩
  rcases hc with h0 | ⟨b, off, e, hc⟩
  · exact .inl h0
  · refine .inr ⟨b, off, e, fun i hi j u hj => ?_⟩
    obtain ⟨u0, hu0⟩ := rangeK_cell hk (by omega) hc
    exact (World.cell?_of_block (w := w) (a := ⟨b, off + i * 8 + j, none⟩) (f b off u0 hu0)).trans (hc i hi j u hj)
theorem RdQ.kp {v : Value} {ks : List (Array Value)} (h : RdQ w v ks) (hk : ∀ k ∈ ks, KOKP k) (m1 : IsMapB w gk) (m2 : IsMapB w gp) (k : Kp2 gk gp w w') : RdQ w' v ks :=
  h.keep hk fun b o u hu => k.block b (World.block_lt_of_cell? w _ hu) (m1.ne hu) (m2.ne hu)
theorem RdQ.below {v : Value} {ks : List (Array Value)} (h : RdQ w v ks) (hk : ∀ k ∈ ks, KOKP k) (k : Below w.heap.size w w') : RdQ w' v ks :=
  h.keep hk fun b o u hu => k.block b (World.block_lt_of_cell? w _ hu)
theorem RdQ.of_own {B : Nat} {v : Value} {ks : List (Array Value)} (h : OwnP w B v ks) (hk : ∀ k ∈ ks, KOKP k) : RdQ w v ks := by
  obtain ⟨a, cap, e, hm, hc⟩ := rdP_of_own h hk
  refine ⟨a, cap, e, hm, ?_⟩
  rcases h.2 with ⟨e2, h0⟩ | ⟨g, cap', cur, e2, _⟩
  · rw [e] at e2
    simp only [Value.slice.injEq] at e2
    exact .inl ⟨e2.1, h0, e2.2.2⟩
  · rw [e] at e2
    simp only [Value.slice.injEq] at e2
    obtain ⟨rfl, _, rfl⟩ := e2
    rcases hc with h0 | ⟨b, off, e3, _, hc⟩
    · exact .inr ⟨g, 0, rfl, fun i hi => absurd hi (by omega)⟩
    · cases e3
      exact .inr ⟨_, _, rfl, hc⟩
theorem RdI.kp {v : Value} {n : Nat} {G : Nat → Int} (h : RdI w v n G) (m1 : IsMapB w gk) (m2 : IsMapB w gp) (k : Kp2 gk gp w w') : RdI w' v n G := by
  obtain ⟨a, cap, e, hm, hc⟩ := h
  refine ⟨a, cap, e, hm, ?_⟩
  rcases hc with h0 | ⟨b, off, e, hc⟩
  · exact .inl h0
  · exact .inr ⟨b, off, e, fun i hi => (k.cell (p := ⟨b, off + i, none⟩) (World.block_lt_of_cell? w _ (hc i hi)) (m1.ne (hc i hi)) (m2.ne (hc i hi))).trans (hc i hi)⟩
theorem own_kp {B s n : Nat} {T : TypeId} {v : Value} {xs : List Value} (h : w.ownsRow B T s v n xs) (m1 : IsMapB w gk) (m2 : IsMapB w gp) (k : Kp2 gk gp w w') : w'.ownsRow B T s v n xs := by
  refine ⟨h.1, ?_⟩
  rcases h.2 with hn | ⟨g, cap, cur, rfl, hb, hg, rest⟩
  · exact .inl hn
  · exact .inr ⟨g, cap, cur, rfl, hb, (k.block g (Array.getElem?_eq_some_iff.1 hg).1 (m1.ne_cells hg) (m2.ne_cells hg)).trans hg, rest⟩
theorem heap_kp {b : Nat} {c : Array Value} {t : TypeId} {fr : Nat × Nat} (h : w.heap[b]? = some (.cells c t fr)) (m1 : IsMapB w gk) (m2 : IsMapB w gp) (k : Kp2 gk gp w w') : w'.heap[b]? = some (.cells c t fr) :=
  (k.block b (Array.getElem?_eq_some_iff.1 h).1 (m1.ne_cells h) (m2.ne_cells h)).trans h
end

/-! ### The reducer -/
/-- A list of places that a relation names. -/
def JsIs (w : World) (v : Value) (b a : Int) : Prop := RdI w v (js b a).length (fun j => (js b a)[j]?.getD 0)
/-- The arguments that are asked of a relation. -/
def okAB (a b : Int) : Prop := 0 < a ∧ 0 < b ∧ a < 2 * b ∧ a + b ≤ 40
def keyAB (a b : Int) : Value := .agg #[.int .i64 a, .int .i64 b]
/-- What a list of words in Milnor's way reads as. -/
def ResIs (w : World) (v : Value) (n : Int) (x : List Int) : Prop := ∃ L : List (List Int), L.Nodup ∧ (∀ y, y ∈ L ↔ par (admF 1700 n x) y) ∧ RdQ w v (L.map packK)
/-- The arguments that are asked of a product. -/
def okNX (n : Int) (x : List Int) : Prop := 0 < n ∧ isAdm x ∧ n + x.sum ≤ 40
def keyNX (n : Int) (x : List Int) : Value := .agg ((.int .i64 n :: (packK x).toList).toArray)

/-- The block of a kept value: there, and none of X. -/
def StV (X : Nat → Prop) (w : World) (v : Value) : Prop := ∀ g, v.ownBlock = some g → g < w.heap.size ∧ ¬ X g
def PhiK (X : Nat → Prop) (w : World) (l : Lit) (v : Value) : Prop := (∃ a b, okAB a b ∧ keyOf Try.prog 55 (keyAB a b) = some l ∧ JsIs w v b a) ∧ StV X w v
def PhiP (X : Nat → Prop) (w : World) (l : Lit) (v : Value) : Prop := (∃ n x, okNX n x ∧ keyOf Try.prog 116 (keyNX n x) = some l ∧ ResIs w v n x) ∧ StV X w v
/-- The reducer; X: blocks that may be written by those who call. -/
structure RInv (R K gk gp : Nat) (X : Nat → Prop) (w : World) : Prop where
  obj : w.heap[R]? = some (.cells #[.func (.func 36) #[] #[.pointer (some ⟨K, 0, none⟩)], .map (some gp)] 69 (0, 0))
  box : w.heap[K]? = some (.cells #[.map (some gk)] 54 (0, 0))
  known : ∃ D n, w.ownsMap Try.prog 55 RawV gk n D ∧ Ent D (PhiK X w)
  prods : ∃ D n, w.ownsMap Try.prog 116 RawV gp n D ∧ Ent D (PhiP X w)
  ne : gk ≠ gp
  nx : ¬ X R ∧ ¬ X K ∧ ¬ X gk ∧ ¬ X gp
theorem RInv.m1 {R K gk gp : Nat} {X : Nat → Prop} {w : World} (h : RInv R K gk gp X w) : IsMapB w gk := by obtain ⟨D, n, h1, _⟩ := h.known; exact isMapB_of h1
theorem RInv.m2 {R K gk gp : Nat} {X : Nat → Prop} {w : World} (h : RInv R K gk gp X w) : IsMapB w gp := by obtain ⟨D, n, h1, _⟩ := h.prods; exact isMapB_of h1
theorem StV.ext {X X' : Nat → Prop} {w w' : World} {v : Value} (h : StV X w v) (hs : w.heap.size ≤ w'.heap.size) (hX : ∀ g, X' g → X g ∨ w.heap.size ≤ g) : StV X' w' v := fun g hg => by
  obtain ⟨h1, h2⟩ := h g hg
  exact ⟨by omega, fun hx => (hX g hx).elim h2 (fun h3 => by omega)⟩
theorem RdI.keep {w w' : World} {v : Value} {n : Nat} {G : Nat → Int} (h : RdI w v n G) (f : ∀ b, v.ownBlock = some b → w'.heap[b]? = w.heap[b]?) : RdI w' v n G := by
  obtain ⟨a, cap, rfl, hm, hc⟩ := h
  refine ⟨a, cap, rfl, hm, ?_⟩
  rcases hc with h0 | ⟨b, off, rfl, hc⟩
  · exact .inl h0
  · exact .inr ⟨b, off, rfl, fun i hi => (World.cell?_of_block (w := w) (a := ⟨b, off + i, none⟩) (f b rfl)).trans (hc i hi)⟩
theorem RdQ.keepB {w w' : World} {v : Value} {ks : List (Array Value)} (h : RdQ w v ks) (f : ∀ b, v.ownBlock = some b → w'.heap[b]? = w.heap[b]?) : RdQ w' v ks := by
  obtain ⟨a, cap, rfl, hm, hc⟩ := h
  refine ⟨a, cap, rfl, hm, ?_⟩
  rcases hc with h0 | ⟨b, off, rfl, hc⟩
  · exact .inl h0
  · exact .inr ⟨b, off, rfl, fun i hi j u hj => (World.cell?_of_block (w := w) (a := ⟨b, off + i * 8 + j, none⟩) (f b rfl)).trans (hc i hi j u hj)⟩
theorem PhiK.keep {X X' : Nat → Prop} {w w' : World} {l : Lit} {v : Value} (h : PhiK X w l v) (f : ∀ b, b < w.heap.size → ¬ X b → w'.heap[b]? = w.heap[b]?) (hs : w.heap.size ≤ w'.heap.size) (hX : ∀ g, X' g → X g ∨ w.heap.size ≤ g) : PhiK X' w' l v := by
  obtain ⟨⟨a, b, h1, h2, h3⟩, h4⟩ := h
  exact ⟨⟨a, b, h1, h2, RdI.keep h3 fun g hg => f g (h4 g hg).1 (h4 g hg).2⟩, h4.ext hs hX⟩
theorem PhiP.keep {X X' : Nat → Prop} {w w' : World} {l : Lit} {v : Value} (h : PhiP X w l v) (f : ∀ b, b < w.heap.size → ¬ X b → w'.heap[b]? = w.heap[b]?) (hs : w.heap.size ≤ w'.heap.size) (hX : ∀ g, X' g → X g ∨ w.heap.size ≤ g) : PhiP X' w' l v := by
  obtain ⟨⟨n, x, h1, h2, L, h3, h5, h6⟩, h4⟩ := h
  exact ⟨⟨n, x, h1, h2, L, h3, h5, h6.keepB fun g hg => f g (h4 g hg).1 (h4 g hg).2⟩, h4.ext hs hX⟩
/-- The reducer stays where only blocks of X and new ones are written. -/
theorem RInv.keep {R K gk gp : Nat} {X X' : Nat → Prop} {w w' : World} (h : RInv R K gk gp X w) (f : ∀ b, b < w.heap.size → ¬ X b → w'.heap[b]? = w.heap[b]?) (hs : w.heap.size ≤ w'.heap.size) (hX : ∀ g, X' g → X g ∨ w.heap.size ≤ g) : RInv R K gk gp X' w' := by
  obtain ⟨D1, n1, o1, e1⟩ := h.known
  obtain ⟨D2, n2, o2, e2⟩ := h.prods
  obtain ⟨x1, x2, x3, x4⟩ := h.nx
  have up : ∀ {H : Type} {k0 : TypeId} {R0 : Value → Option (DataW H × List MemPlace)} {b n : Nat} {D : DataW H}, ¬ X b → w.ownsMap Try.prog k0 R0 b n D → w'.ownsMap Try.prog k0 R0 b n D := fun hb o => by
    obtain ⟨es, clock, he, rest⟩ := o
    exact ⟨es, clock, (f _ (Array.getElem?_eq_some_iff.1 he).1 hb).trans he, rest⟩
  have lt : ∀ {b : Nat} {o : Obj}, w.heap[b]? = some o → b < w.heap.size := fun hb => (Array.getElem?_eq_some_iff.1 hb).1
  have l1 := lt h.obj
  have l2 := lt h.box
  have l3 := o1.lt
  have l4 := o2.lt
  refine ⟨(f R l1 x1).trans h.obj, (f K l2 x2).trans h.box, ⟨D1, n1, up x3 o1, e1.mono fun l v k => k.keep f hs hX⟩, ⟨D2, n2, up x4 o2, e2.mono fun l v k => k.keep f hs hX⟩, h.ne, ?_⟩
  exact ⟨fun k => (hX _ k).elim x1 (fun k => by omega), fun k => (hX _ k).elim x2 (fun k => by omega), fun k => (hX _ k).elim x3 (fun k => by omega), fun k => (hX _ k).elim x4 (fun k => by omega)⟩
theorem RInv.below {R K gk gp : Nat} {X : Nat → Prop} {w w' : World} (h : RInv R K gk gp X w) (k : Below w.heap.size w w') : RInv R K gk gp X w' := h.keep (fun b hb _ => k.block b hb) k.size fun g hg => .inl hg
theorem RInv.mono {R K gk gp : Nat} {X X' : Nat → Prop} {w : World} (h : RInv R K gk gp X w) (k : ∀ g, X' g → X g) : RInv R K gk gp X' w := h.keep (fun _ _ _ => rfl) (Nat.le_refl _) fun g hg => .inl (k g hg)
theorem Kp2.grown {gk gp : Nat} {w wr w' : World} {row : Option Nat} (h : Kp2 gk gp w wr) (hg : wr.grownBy w' row) (hr : ∀ g, row = some g → w.heap.size ≤ g) : Kp2 gk gp w w' :=
  ⟨hg.os.trans h.os, hg.tape.trans h.tape, hg.output.trans h.output, Nat.le_trans h.size hg.size, fun k hk h1 h2 => (hg.block k (Nat.lt_of_lt_of_le hk h.size) (fun e => by have := hr k e.symm; omega)).trans (h.block k hk h1 h2)⟩
end Go.Proofs.Ytldlpeohdindaaa
end
