/-
  Joined: OpenRows, WExt.
-/
import Derived.Test.YtnfhfilconcajaaZultiplyPolys05
import Derived.Deep.Matrix
section
namespace Go.Proofs.Ytnfhfilconcajaa
open Go.RowKit Go.Deep
set_option maxRecDepth 100000
set_option linter.unusedVariables false

/-- V reads as the m lists X 0, X 1, .. -/
structure RdSS (w : World) (V : Value) (m : Nat) (X : Nat → List Int) : Prop where
  head : ∃ a cap, V = .slice a m cap
  small : m ≤ maxLen
  rows : ∃ VS : Nat → Value, (m = 0 ∨ ∃ b off, (∃ cap, V = .slice (some ⟨b, off, none⟩) m cap) ∧ ∀ i, i < m → w.cell? ⟨b, off + i, none⟩ = some (VS i)) ∧ ∀ i, i < m → RdI w (VS i) (X i).length (fun j => (X i)[j]?.getD 0)

theorem Fam.rdss {w : World} {B : Nat} {V : Value} {m : Nat} {VS : Nat → Value} {Y : Nat → List Int} (h : Fam w B V m VS Y) : RdSS w V m Y := by
  obtain ⟨a, cap, e, hm, hc⟩ := h.head
  refine ⟨⟨a, cap, e⟩, hm, VS, ?_, fun i hi => h.rd i hi⟩
  rcases hc with h0 | ⟨b, rfl, hc⟩
  · exact .inl h0
  · exact .inr ⟨b, 0, ⟨cap, e⟩, fun i hi => by rw [Nat.zero_add]; exact hc i hi⟩

theorem RdSS.below {w w' : World} {V : Value} {m : Nat} {X : Nat → List Int} (h : RdSS w V m X) (k : Below w.heap.size w w') : RdSS w' V m X := by
  obtain ⟨h1, h2, VS, h3, h4⟩ := h
  refine ⟨h1, h2, VS, ?_, fun i hi => (h4 i hi).below k⟩
  rcases h3 with h0 | ⟨b, off, e, hc⟩
  · exact .inl h0
  · exact .inr ⟨b, off, e, fun i hi => (k.cell (p := ⟨b, off + i, none⟩) (World.block_lt_of_cell? w _ (hc i hi))).trans (hc i hi)⟩

theorem RdSS.drewN {w : World} {V : Value} {m : Nat} {X : Nat → List Int} (h : RdSS w V m X) (q : Nat) : RdSS (w.drewN q) V m X := ⟨h.head, h.small, h.rows⟩

/-- What the walk is told of such an argument. -/
def IsRows (w : World) (a : Option Addr) (m cap : Nat) (X : Nat → List Int) : Prop := RdSS w (.slice a m cap) m X

theorem add_none (b off i : Nat) : (⟨b, off, none⟩ : Addr).add i = ⟨b, off + i, none⟩ := by
  by_cases h6 : i = 0
  · subst h6; simp [Addr.add]
  · simp [Addr.add, h6]

theorem rd_take {w : World} {A : Option Addr} {L C : Nat} {Z : List Int} (hL : L ≤ C) (hC : C ≤ maxLen) (hZ : Z.length = C) (hn : A = none → C = 0)
    (hc : ∀ a', A = some a' → ∀ c, c < C → w.cell? (a'.add c) = some (.int .i64 (Z.getD c 0))) : RdI w (.slice A L C) (Z.take L).length (fun j => (Z.take L)[j]?.getD 0) := by
  have hl : (Z.take L).length = L := by rw [List.length_take]; omega
  rw [hl]
  refine ⟨A, C, rfl, Nat.le_trans hL hC, ?_⟩
  by_cases h0 : L = 0
  · exact .inl h0
  · cases hA : A with
    | none => have := hn hA; omega
    | some a' =>
      obtain ⟨b, off, spot⟩ := a'
      have h1 := hc _ hA 0 (by omega)
      have hs : spot = none := by simpa [Addr.add] using World.cell?_spot h1
      subst hs
      refine .inr ⟨b, off, rfl, fun i hi => ?_⟩
      have h2 := hc _ hA i (by omega)
      rw [add_none] at h2
      rw [h2]
      show _ = some (Value.int .i64 ((List.take L Z)[i]?.getD 0))
      rw [List.getElem?_take, if_pos hi, List.getD_eq_getElem?_getD]

theorem open_rows {H : Type} {enc : TypeId × Value → H} {w : World} {base : Nat} {held : Bool} {a : Option Addr} {m cap : Nat} {d : DataW H} {p : List MemPlace}
    (h : ∃ fuel, DataW.trod enc Try.prog w base (fun _ => true) held fuel 22 (Value.slice a m cap).cells.toList = some (d, p)) : ∃ X, IsRows w a m cap X := by
  obtain ⟨fuel, hf⟩ := h
  rcases open_int_rows Try.underlying22 Try.underlying53 Try.underlying2 (by kernel_rfl) (by kernel_rfl) hf with ⟨hcs, _⟩ | ⟨x, len', cap', A, L, C, Z, hcs, _, hl, hm, _, hrows⟩
  · simp [Value.cells] at hcs
    obtain ⟨rfl, rfl, rfl⟩ := hcs
    exact ⟨fun _ => [], ⟨_, _, rfl⟩, Nat.zero_le _, fun _ => undef, .inl rfl, fun i hi => absurd hi (Nat.not_lt_zero _)⟩
  · simp [Value.cells] at hcs
    obtain ⟨rfl, rfl, rfl⟩ := hcs
    refine ⟨fun i => (Z i).take (L i), ⟨_, _, rfl⟩, Nat.le_trans hl hm, fun i => .slice (A i) (L i) (C i), ?_, fun i hi => ?_⟩
    · by_cases h0 : m = 0
      · exact .inl h0
      · obtain ⟨b, off, spot⟩ := x
        have h1 := (hrows 0 (by omega)).1
        have hs : spot = none := by simpa [Addr.add] using World.cell?_spot h1
        subst hs
        refine .inr ⟨b, off, ⟨_, rfl⟩, fun i hi => ?_⟩
        have h2 := (hrows i (by omega)).1
        rw [add_none] at h2
        exact h2
    · obtain ⟨_, r1, r2, r3, _, r5, r6⟩ := hrows i (by omega)
      exact rd_take r1 r2 r3 r5 (fun a' ha c hc => (r6 a' ha).2 c hc)
end Go.Proofs.Ytnfhfilconcajaa
end
section
namespace Go.Proofs.Ytnfhfilconcajaa
open Go.RowKit
set_option maxRecDepth 100000
set_option linter.unusedVariables false

theorem Try.infoS : (Try.prog.info? 53).map (fun i => (i.zero, i.size, i.bytes)) = some (some (.slice none 0 0), 1, 24) := by kernel_rfl
def ext (VS : Nat → Value) (m : Nat) (v : Value) : Nat → Value := fun i => if i < m then VS i else v
end Go.Proofs.Ytnfhfilconcajaa
end
