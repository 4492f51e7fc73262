/-
  Keys of impl.packedTerm: what reads as one.
-/
import Derived.Test.YthbibkehhnggfaaKMapP
import Derived.Test.YthbibkehhnggfaaKLits
namespace Go.Proofs.Ythbibkehhnggfaa
open Go.RowKit Go.Maps
set_option linter.unusedVariables false
set_option maxRecDepth 100000

theorem litsP {d : Nat} {cs : List Value} {l : List Lit} (h : Try.prog.keyLits d 63 cs = some l) : cs.length = 8 ∧ Ints .u8 cs := arrLits Try.underlying63 Try.underlying5 (by kernel_rfl) (by kernel_rfl) h

theorem litsP_mk (d : Nat) {cs : List Value} (hl : cs.length = 8) (h : Ints .u8 cs) : ∃ l, Try.prog.keyLits (d + 3) 63 cs = some l := arrLits_mk Try.underlying63 Try.underlying5 (by kernel_rfl) (by kernel_rfl) (d + 1) hl h

/-- Whatever reads as a key is one. -/
theorem keyP_inv {v : Value} {l : Lit} (h : keyOf Try.prog 63 v = some l) : ∃ k, v = .agg k ∧ KOKP k := by
  obtain ⟨xs, L, rfl, hL, _⟩ := keyOf_top (by kernel_rfl) h
  obtain ⟨h1, zs, h2, _⟩ := litsP hL
  refine ⟨xs, rfl, ⟨zs, ?_, ?_⟩, l, h⟩
  · rw [h2, List.length_map] at h1; exact h1
  · rw [← h2]

theorem keyP_mk (zs : List Int) (hl : zs.length = 8) (hw : ∀ z ∈ zs, (Lit.int .u8 z).wf = true) : KOKP (zs.map (Value.int .u8)).toArray := by
  refine ⟨⟨zs, hl, rfl⟩, ?_⟩
  obtain ⟨L, hL⟩ := litsP_mk (Try.prog.types.size - 2) (cs := zs.map (Value.int .u8)) (by rw [List.length_map]; exact hl) ⟨zs, rfl, hw⟩
  have hts : Try.prog.types.size - 2 + 3 = Try.prog.types.size + 1 := by kernel_rfl
  rw [hts] at hL
  have hk : Try.prog.keyType 63 = true := by kernel_rfl
  have hf : (Value.agg (zs.map (Value.int .u8)).toArray).formed Try.prog 63 = true := by
    have hc : Try.prog.cellsOf 63 = 8 := by kernel_rfl
    simp [Value.formed, Try.underlying63, hc, hl]
  refine ⟨.string (keyBytes L), ?_⟩
  unfold keyOf
  rw [Try.underlying63]
  simp only [hk, hf, Bool.and_self, if_true]
  have e : (Value.agg (zs.map (Value.int .u8)).toArray).cells.toList = zs.map (Value.int .u8) := by simp [Value.cells]
  rw [e, hL]
  rfl
end Go.Proofs.Ythbibkehhnggfaa
