/-
  Slices of slices of int64 that come in, opened, with the range of their numbers.
-/
import Derived.Test.YthbibkehhnggfaaOpenRows
namespace Go.Proofs.Ythbibkehhnggfaa
open Go.RowKit Go.Deep
set_option maxRecDepth 100000
set_option linter.unusedVariables false

def IsRowsW (w : World) (a : Option Addr) (m cap : Nat) (X : Nat → List Int) : Prop := IsRows w a m cap X ∧ ∀ i, i < m → ∀ z ∈ X i, (Lit.int .i64 z).wf = true

theorem open_rowsW {H : Type} {enc : TypeId × Value → H} {w : World} {base : Nat} {held : Bool} {a : Option Addr} {m cap : Nat} {d : DataW H} {p : List MemPlace}
    (h : ∃ fuel, DataW.trod enc Try.prog w base (fun _ => true) held fuel 22 (Value.slice a m cap).cells.toList = some (d, p)) : ∃ X, IsRowsW w a m cap X := by
  obtain ⟨fuel, hf⟩ := h
  rcases open_int_rows Try.underlying22 Try.underlying41 Try.underlying2 (by kernel_rfl) (by kernel_rfl) hf with ⟨hcs, _⟩ | ⟨x, len', cap', A, L, C, Z, hcs, _, hl, hm, _, hrows⟩
  · simp [Value.cells] at hcs
    obtain ⟨rfl, rfl, rfl⟩ := hcs
    exact ⟨fun _ => [], ⟨⟨_, _, rfl⟩, Nat.zero_le _, fun _ => undef, .inl rfl, fun i hi => absurd hi (Nat.not_lt_zero _)⟩, fun i hi => absurd hi (Nat.not_lt_zero _)⟩
  · simp [Value.cells] at hcs
    obtain ⟨rfl, rfl, rfl⟩ := hcs
    refine ⟨fun i => (Z i).take (L i), ⟨⟨_, _, rfl⟩, Nat.le_trans hl hm, fun i => .slice (A i) (L i) (C i), ?_, fun i hi => ?_⟩, fun i hi z hz => (hrows i (by omega)).2.2.2.2.1 z (List.mem_of_mem_take hz)⟩
    · by_cases h0 : m = 0
      · exact .inl h0
      · obtain ⟨b, off, spot⟩ := x
        have h1 := (hrows 0 (by omega)).1
        have hs : spot = none := by simpa [Addr.add] using World.cell?_spot h1
        subst hs
        refine .inr ⟨b, off, ⟨_, rfl⟩, fun i hi => ?_⟩
        have h2 := (hrows i (by omega)).1
        rw [add_none] at h2
        exact h2
    · obtain ⟨_, r1, r2, r3, _, r5, r6⟩ := hrows i (by omega)
      exact rd_take r1 r2 r3 r5 (fun a' ha c hc => (r6 a' ha).2 c hc)
end Go.Proofs.Ythbibkehhnggfaa
