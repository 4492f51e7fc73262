/-
  Joined: OpenRows, WExt, KFam, KRows.
-/
import Derived.Test.YtnfhfilconcajaaZtTotalSquare03
import Derived.Deep.Matrix
import Derived.Test.YtnfhfilconcajaaZtTotalSquare04
section
namespace Go.Proofs.Ytnfhfilconcajaa
open Go.RowKit Go.Deep
set_option maxRecDepth 100000
set_option linter.unusedVariables false

/-- V reads as the m lists X 0, X 1, .. -/
structure RdSS (w : World) (V : Value) (m : Nat) (X : Nat → List Int) : Prop where
  head : ∃ a cap, V = .slice a m cap
  small : m ≤ maxLen
  rows : ∃ VS : Nat → Value, (m = 0 ∨ ∃ b off, (∃ cap, V = .slice (some ⟨b, off, none⟩) m cap) ∧ ∀ i, i < m → w.cell? ⟨b, off + i, none⟩ = some (VS i)) ∧ ∀ i, i < m → RdI w (VS i) (X i).length (fun j => (X i)[j]?.getD 0)

theorem Fam.rdss {w : World} {B : Nat} {V : Value} {m : Nat} {VS : Nat → Value} {Y : Nat → List Int} (h : Fam w B V m VS Y) : RdSS w V m Y := by
  obtain ⟨a, cap, e, hm, hc⟩ := h.head
  refine ⟨⟨a, cap, e⟩, hm, VS, ?_, fun i hi => h.rd i hi⟩
  rcases hc with h0 | ⟨b, rfl, hc⟩
  · exact .inl h0
  · exact .inr ⟨b, 0, ⟨cap, e⟩, fun i hi => by rw [Nat.zero_add]; exact hc i hi⟩

theorem RdSS.below {w w' : World} {V : Value} {m : Nat} {X : Nat → List Int} (h : RdSS w V m X) (k : Below w.heap.size w w') : RdSS w' V m X := by
  obtain ⟨h1, h2, VS, h3, h4⟩ := h
  refine ⟨h1, h2, VS, ?_, fun i hi => (h4 i hi).below k⟩
  rcases h3 with h0 | ⟨b, off, e, hc⟩
  · exact .inl h0
  · exact .inr ⟨b, off, e, fun i hi => (k.cell (p := ⟨b, off + i, none⟩) (World.block_lt_of_cell? w _ (hc i hi))).trans (hc i hi)⟩

theorem RdSS.drewN {w : World} {V : Value} {m : Nat} {X : Nat → List Int} (h : RdSS w V m X) (q : Nat) : RdSS (w.drewN q) V m X := ⟨h.head, h.small, h.rows⟩

/-- What the walk is told of such an argument. -/
def IsRows (w : World) (a : Option Addr) (m cap : Nat) (X : Nat → List Int) : Prop := RdSS w (.slice a m cap) m X

theorem add_none (b off i : Nat) : (⟨b, off, none⟩ : Addr).add i = ⟨b, off + i, none⟩ := by
  by_cases h6 : i = 0
  · subst h6; simp [Addr.add]
  · simp [Addr.add, h6]

theorem rd_take {w : World} {A : Option Addr} {L C : Nat} {Z : List Int} (hL : L ≤ C) (hC : C ≤ maxLen) (hZ : Z.length = C) (hn : A = none → C = 0)
    (hc : ∀ a', A = some a' → ∀ c, c < C → w.cell? (a'.add c) = some (.int .i64 (Z.getD c 0))) : RdI w (.slice A L C) (Z.take L).length (fun j => (Z.take L)[j]?.getD 0) := by
  have hl : (Z.take L).length = L := by rw [List.length_take]; omega
  rw [hl]
  refine ⟨A, C, rfl, Nat.le_trans hL hC, ?_⟩
  by_cases h0 : L = 0
  · exact .inl h0
  · cases hA : A with
    | none => have := hn hA; omega
    | some a' =>
      obtain ⟨b, off, spot⟩ := a'
      have h1 := hc _ hA 0 (by omega)
      have hs : spot = none := by simpa [Addr.add] using World.cell?_spot h1
      subst hs
      refine .inr ⟨b, off, rfl, fun i hi => ?_⟩
      have h2 := hc _ hA i (by omega)
      rw [add_none] at h2
      rw [h2]
      show _ = some (Value.int .i64 ((List.take L Z)[i]?.getD 0))
      rw [List.getElem?_take, if_pos hi, List.getD_eq_getElem?_getD]

theorem open_rows {H : Type} {enc : TypeId × Value → H} {w : World} {base : Nat} {held : Bool} {a : Option Addr} {m cap : Nat} {d : DataW H} {p : List MemPlace}
    (h : ∃ fuel, DataW.trod enc Try.prog w base (fun _ => true) held fuel 22 (Value.slice a m cap).cells.toList = some (d, p)) : ∃ X, IsRows w a m cap X := by
  obtain ⟨fuel, hf⟩ := h
  rcases open_int_rows Try.underlying22 Try.underlying53 Try.underlying2 (by kernel_rfl) (by kernel_rfl) hf with ⟨hcs, _⟩ | ⟨x, len', cap', A, L, C, Z, hcs, _, hl, hm, _, hrows⟩
  · simp [Value.cells] at hcs
    obtain ⟨rfl, rfl, rfl⟩ := hcs
    exact ⟨fun _ => [], ⟨_, _, rfl⟩, Nat.zero_le _, fun _ => undef, .inl rfl, fun i hi => absurd hi (Nat.not_lt_zero _)⟩
  · simp [Value.cells] at hcs
    obtain ⟨rfl, rfl, rfl⟩ := hcs
    refine ⟨fun i => (Z i).take (L i), ⟨_, _, rfl⟩, Nat.le_trans hl hm, fun i => .slice (A i) (L i) (C i), ?_, fun i hi => ?_⟩
    · by_cases h0 : m = 0
      · exact .inl h0
      · obtain ⟨b, off, spot⟩ := x
        have h1 := (hrows 0 (by omega)).1
        have hs : spot = none := by simpa [Addr.add] using World.cell?_spot h1
        subst hs
        refine .inr ⟨b, off, ⟨_, rfl⟩, fun i hi => ?_⟩
        have h2 := (hrows i (by omega)).1
        rw [add_none] at h2
        exact h2
    · obtain ⟨_, r1, r2, r3, _, r5, r6⟩ := hrows i (by omega)
      exact rd_take r1 r2 r3 r5 (fun a' ha c hc => (r6 a' ha).2 c hc)
end Go.Proofs.Ytnfhfilconcajaa
end
section
namespace Go.Proofs.Ytnfhfilconcajaa
open Go.RowKit
set_option maxRecDepth 100000
set_option linter.unusedVariables false

theorem Try.infoS : (Try.prog.info? 53).map (fun i => (i.zero, i.size, i.bytes)) = some (some (.slice none 0 0), 1, 24) := by kernel_rfl
def ext (VS : Nat → Value) (m : Nat) (v : Value) : Nat → Value := fun i => if i < m then VS i else v
end Go.Proofs.Ytnfhfilconcajaa
end
section
namespace Go.Proofs.Ytnfhfilconcajaa
open Go.RowKit
set_option maxRecDepth 100000
set_option linter.unusedVariables false

theorem own_len {w : World} {B : Nat} {v : Value} {n : Nat} {xs : List Value} (h : w.ownsRow B 2 1 v n xs) : ∃ a cap, v = .slice a n cap ∧ n ≤ maxLen := by
  rcases h.2 with ⟨rfl, rfl⟩ | ⟨g, cap, cur, rfl, _, _, h1, h2, _⟩
  · exact ⟨none, 0, rfl, Nat.zero_le _⟩
  · exact ⟨_, cap, rfl, Nat.le_trans h1 h2⟩

/-! ### What stays of the rows of numbers -/
def KeepI (q : Option Nat) (w w' : World) : Prop := ∀ k cur, w.heap[k]? = some (.cells cur 2 (0, 0)) → some k ≠ q → w'.heap[k]? = w.heap[k]?
theorem KeepI.refl (q : Option Nat) (w : World) : KeepI q w w := fun _ _ _ _ => rfl
theorem KeepI.trans {q : Option Nat} {a b c : World} (h : KeepI q a b) (k : KeepI q b c) : KeepI q a c := fun i cur hi hq => by
  have h1 := h i cur hi hq
  rw [k i cur (h1.trans hi) hq, h1]
theorem KeepI.wide {a b : World} (h : KeepI none a b) (q : Option Nat) : KeepI q a b := fun i cur hi _ => h i cur hi (by intro e; cases e)
theorem KeepI.below {a b : World} (h : Below a.heap.size a b) (q : Option Nat) : KeepI q a b := fun i cur hi _ => h.block i (Array.getElem?_eq_some_iff.1 hi).1
theorem KeepI.row {a b : World} {B n : Nat} {V : Value} {xs : List Value} (hV : a.ownsRow B 53 1 V n xs) (h : a.grownBy b V.ownBlock) (q : Option Nat) : KeepI q a b := fun i cur hi _ => by
  refine h.block i (Array.getElem?_eq_some_iff.1 hi).1 fun e => ?_
  rcases hV.2 with ⟨rfl, _⟩ | ⟨g, cap, cur', rfl, _, hg, _⟩
  · cases e
  · simp only [Value.ownBlock, Option.some.injEq] at e
    subst e
    rw [hi] at hg
    cases hg
theorem KeepI.own {q : Option Nat} {w w' : World} (k : KeepI q w w') {B n : Nat} {v : Value} {xs : List Value} (h : w.ownsRow B 2 1 v n xs) (hq : v.ownBlock = none ∨ v.ownBlock ≠ q) : w'.ownsRow B 2 1 v n xs := by
  refine ⟨h.1, ?_⟩
  rcases h.2 with hn | ⟨g, cap, cur, rfl, hb, hg, rest⟩
  · exact .inl hn
  · refine .inr ⟨g, cap, cur, rfl, hb, ?_, rest⟩
    rw [k g cur hg (by rcases hq with hq | hq; exact absurd hq (by simp [Value.ownBlock]); exact hq)]
    exact hg

/-! ### Families that read as a list of lists -/
def rowsOf (xss : List (List Int)) : Nat → List Int := fun i => xss[i]?.getD []
abbrev FamL (w : World) (B : Nat) (V : Value) (VS : Nat → Value) (xss : List (List Int)) : Prop := Fam w B V xss.length VS (rowsOf xss)

theorem ext_map (VS : Nat → Value) (m : Nat) (v : Value) : (List.range (m + 1)).map (ext VS m v) = (List.range m).map VS ++ [v] := by
  rw [List.range_succ, List.map_append]
  congr 1
  · apply List.map_congr_left
    intro i hi
    rw [ext, if_pos (List.mem_range.1 hi)]
  · simp [ext]

theorem FamL.push {w w1 : World} {B n : Nat} {V V' v : Value} {VS : Nat → Value} {xss : List (List Int)} {zs : List Int} {q : Option Nat} (h : FamL w B V VS xss)
    (hq : ∀ i, i < xss.length → (VS i).ownBlock = none ∨ (VS i).ownBlock ≠ q) (k : KeepI q w w1)
    (ho : w1.ownsRow B 53 1 V' (xss.length + 1) ((List.range xss.length).map VS ++ [v])) (hv : w1.ownsRow B 2 1 v n (zs.map (Value.int .i64))) (hn : n = zs.length) :
    FamL w1 B V' (ext VS xss.length v) (xss ++ [zs]) := by
  subst hn
  refine ⟨by rw [List.length_append, List.length_singleton, ext_map]; exact ho, fun i hi => ?_⟩
  rw [List.length_append, List.length_singleton] at hi
  by_cases hlt : i < xss.length
  · have e1 : rowsOf (xss ++ [zs]) i = rowsOf xss i := by unfold rowsOf; rw [List.getElem?_append_left hlt]
    rw [e1, ext, if_pos hlt]
    exact k.own (h.inn i hlt) (hq i hlt)
  · have e0 : i = xss.length := by omega
    subst e0
    have e1 : rowsOf (xss ++ [zs]) xss.length = zs := by unfold rowsOf; rw [List.getElem?_append_right (Nat.le_refl _), Nat.sub_self]; rfl
    rw [e1, ext, if_neg (Nat.lt_irrefl _)]
    exact hv

theorem FamL.keep {w w1 : World} {B : Nat} {V : Value} {VS : Nat → Value} {xss : List (List Int)} {q : Option Nat} (h : FamL w B V VS xss)
    (hq : ∀ i, i < xss.length → (VS i).ownBlock = none ∨ (VS i).ownBlock ≠ q) (k : KeepI q w w1) (ho : w1.ownsRow B 53 1 V xss.length ((List.range xss.length).map VS)) : FamL w1 B V VS xss :=
  ⟨ho, fun i hi => k.own (h.inn i hi) (hq i hi)⟩
theorem apart_symm {v v' : Value} (h : v.ownBlock = none ∨ v.ownBlock ≠ v'.ownBlock) : v'.ownBlock = none ∨ v'.ownBlock ≠ v.ownBlock := by
  rcases h with h | h
  · rw [h]
    exact Classical.em _
  · exact .inr (Ne.symm h)

theorem apart_new {w : World} {B n : Nat} {v u : Value} {xs : List Value} {e : TypeId} {s : Nat} (h : w.ownsRow B e s v n xs) (hu : ∀ k, u.ownBlock = some k → w.heap.size ≤ k) : v.ownBlock = none ∨ v.ownBlock ≠ u.ownBlock := by
  cases e1 : v.ownBlock with
  | none => exact .inl rfl
  | some k =>
    refine .inr fun e2 => ?_
    have h1 := (h.lt k e1).2
    have h2 := hu k e2.symm
    omega

theorem Sep.ext {m : Nat} {VS : Nat → Value} {u : Value} (h : Sep m VS) (hu : ∀ i, i < m → (VS i).ownBlock = none ∨ (VS i).ownBlock ≠ u.ownBlock) : Sep (m + 1) (ext VS m u) := by
  intro i j hi hj hij
  unfold Go.Proofs.Ytnfhfilconcajaa.ext
  by_cases h1 : i < m
  · rw [if_pos h1]
    by_cases h2 : j < m
    · rw [if_pos h2]; exact h i j h1 h2 hij
    · rw [if_neg h2]; exact hu i h1
  · rw [if_neg h1]
    by_cases h2 : j < m
    · rw [if_pos h2]; exact apart_symm (hu j h2)
    · exact absurd (by omega) hij
theorem Fam.base {w : World} {B B' : Nat} {V : Value} {m : Nat} {VS : Nat → Value} {Y : Nat → List Int} (h : Fam w B V m VS Y) (hb : B' ≤ B) : Fam w B' V m VS Y :=
  ⟨own_base h.out hb, fun i hi => own_base (h.inn i hi) hb⟩

end Go.Proofs.Ytnfhfilconcajaa
end
section
namespace Go.Proofs.Ytnfhfilconcajaa
open Go.RowKit
set_option maxRecDepth 100000
set_option linter.unusedVariables false

/-- The first m of the lists. -/
def rowsL (X : Nat → List Int) (m : Nat) : List (List Int) := (List.range m).map X
theorem rowsL_succ (X : Nat → List Int) (m : Nat) : rowsL X (m + 1) = rowsL X m ++ [X m] := by simp [rowsL, List.range_succ]
theorem rowsL_len (X : Nat → List Int) (m : Nat) : (rowsL X m).length = m := by simp [rowsL]
theorem mem_rowsL {X : Nat → List Int} {m : Nat} {x : List Int} (h : x ∈ rowsL X m) : ∃ i, i < m ∧ x = X i := by
  obtain ⟨i, hi, e⟩ := List.mem_map.1 h
  exact ⟨i, List.mem_range.1 hi, e.symm⟩

/-- A row of numbers is put behind a family: what the walk wants. -/
theorem fam_put {w w1 w3 : World} {B n : Nat} {S V3 v : Value} {VS : Nat → Value} {L : List (List Int)} {x : List Int} (hF : FamL w B S VS L) (hS : Sep L.length VS) (hB : B ≤ w.heap.size)
    (hv : w1.ownsRow w.heap.size 2 1 v n (x.map (Value.int .i64))) (hn : n = x.length) (hb : Below w.heap.size w w1) (o : Obj)
    (hV3 : w3.ownsRow B 53 1 V3 (L.length + 1) ((List.range L.length).map VS ++ [v])) (hg : (w1.alloc o).grownBy w3 S.ownBlock) :
    FamL w3 B V3 (ext VS L.length v) (L ++ [x]) ∧ Sep (L ++ [x]).length (ext VS L.length v) ∧ Below B w w3 := by
  have hsz := hb.size
  have hF1 : FamL w1 B S VS L := hF.below hb
  have K3 : KeepI none w1 w3 := (KeepI.below ((Below.refl _ w1).alloc (Nat.le_refl _) _) none).trans (KeepI.row (hF1.out.alloc o) hg none)
  have N3 := K3.own (own_base hv hB) (Classical.em _)
  refine ⟨FamL.push hF1 (fun _ _ => Classical.em _) K3 hV3 N3 hn, ?_, ?_⟩
  · rw [List.length_append]
    exact Sep.ext hS (fun i hi => apart_new (hF.inn i hi) (fun k hk => (hv.lt k hk).1))
  · exact (hb.mono hB).trans (((Below.refl _ w1).alloc (by omega) o).grown hg (by simp; omega) (fun k hk => (hF1.out.lt k hk).1))
end Go.Proofs.Ytnfhfilconcajaa
end
