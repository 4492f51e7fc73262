/-
  Keys of impl.wideTerm: what reads as one.
-/
import Derived.Test.YthbibkehhnggfaaKMapW
import Derived.Test.YthbibkehhnggfaaKLits
namespace Go.Proofs.Ythbibkehhnggfaa
open Go.RowKit Go.Maps
set_option linter.unusedVariables false
set_option maxRecDepth 100000

theorem litsW {d : Nat} {cs : List Value} {l : List Lit} (h : Try.prog.keyLits d 68 cs = some l) : cs.length = 21 ∧ Ints .i64 cs := by
  have hc : Try.prog.cellsOf 68 = 21 := by kernel_rfl
  have hc1 : Try.prog.cellsOf 3 = 1 := by kernel_rfl
  have hc2 : Try.prog.cellsOf 66 = 20 := by kernel_rfl
  cases d with
  | zero => simp [Program.keyLits] at h
  | succ d =>
    unfold Program.keyLits at h
    rw [Try.underlying68] at h
    simp only [hc] at h
    split at h
    · rename_i hl
      cases hm : (#[_, _] : Array Field).toList.mapM (fun f => Try.prog.keyLits d f.type ((cs.drop f.offset).take (Try.prog.cellsOf f.type))) with
      | none => rw [hm] at h; cases h
      | some ys =>
        obtain ⟨a0, h0⟩ := mapM_each hm _ (List.mem_cons_self)
        obtain ⟨a1, h1⟩ := mapM_each hm _ (List.mem_cons_of_mem _ List.mem_cons_self)
        simp only [hc1, List.drop_zero] at h0
        simp only [hc2] at h1
        obtain ⟨z, hz, hw⟩ := intLits Try.underlying3 h0
        obtain ⟨_, zs, hzs, hws⟩ := arrLits Try.underlying66 Try.underlying2 (by kernel_rfl) (by kernel_rfl) h1
        refine ⟨hl.1, z :: zs, ?_, fun y hy => ?_⟩
        · have e1 : (cs.drop 1).take 20 = cs.drop 1 := List.take_of_length_le (by rw [List.length_drop, hl.1]; decide)
          rw [e1] at hzs
          rw [← List.take_append_drop 1 cs, hz, hzs]
          rfl
        · rcases List.mem_cons.1 hy with rfl | hy
          · exact hw
          · exact hws y hy
    · cases h

theorem litsW_mk (d : Nat) {cs : List Value} (hl : cs.length = 21) (h : Ints .i64 cs) : ∃ l, Try.prog.keyLits (d + 3) 68 cs = some l := by
  have hc : Try.prog.cellsOf 68 = 21 := by kernel_rfl
  have hc1 : Try.prog.cellsOf 3 = 1 := by kernel_rfl
  have hc2 : Try.prog.cellsOf 66 = 20 := by kernel_rfl
  obtain ⟨zs, rfl, hw⟩ := h
  rw [List.length_map] at hl
  match zs, hl, hw with
  | z :: zs, hl, hw =>
    unfold Program.keyLits
    rw [Try.underlying68]
    simp only [hc]
    rw [if_pos ⟨by rw [List.length_map]; exact hl, by kernel_rfl⟩]
    obtain ⟨a0, h0⟩ := intLits_mk Try.underlying3 (d + 1) z (hw z List.mem_cons_self)
    obtain ⟨a1, h1⟩ := arrLits_mk Try.underlying66 Try.underlying2 (by kernel_rfl) (by kernel_rfl) d (cs := zs.map (Value.int .i64)) (by rw [List.length_map]; simpa using hl) ⟨zs, rfl, fun y hy => hw y (List.mem_cons_of_mem _ hy)⟩
    have e1 : (zs.map (Value.int .i64)).take 20 = zs.map (Value.int .i64) := List.take_of_length_le (by rw [List.length_map]; simp at hl; omega)
    refine ⟨(a0 ++ a1), ?_⟩
    simp [hc1, hc2, h0, h1, e1]

/-- Whatever reads as a key is one. -/
theorem keyW_inv {v : Value} {l : Lit} (h : keyOf Try.prog 68 v = some l) : ∃ k, v = .agg k ∧ KOKW k := by
  obtain ⟨xs, L, rfl, hL, _⟩ := keyOf_top (by kernel_rfl) h
  obtain ⟨h1, zs, h2, _⟩ := litsW hL
  refine ⟨xs, rfl, ⟨zs, ?_, ?_⟩, l, h⟩
  · rw [h2, List.length_map] at h1; exact h1
  · rw [← h2]

theorem keyW_mk (zs : List Int) (hl : zs.length = 21) (hw : ∀ z ∈ zs, (Lit.int .i64 z).wf = true) : KOKW (zs.map (Value.int .i64)).toArray := by
  refine ⟨⟨zs, hl, rfl⟩, ?_⟩
  obtain ⟨L, hL⟩ := litsW_mk (Try.prog.types.size - 2) (cs := zs.map (Value.int .i64)) (by rw [List.length_map]; exact hl) ⟨zs, rfl, hw⟩
  have hts : Try.prog.types.size - 2 + 3 = Try.prog.types.size + 1 := by kernel_rfl
  rw [hts] at hL
  have hk : Try.prog.keyType 68 = true := by kernel_rfl
  have hf : (Value.agg (zs.map (Value.int .i64)).toArray).formed Try.prog 68 = true := by
    have hc : Try.prog.cellsOf 68 = 21 := by kernel_rfl
    simp [Value.formed, Try.underlying68, hc, hl]
  refine ⟨.string (keyBytes L), ?_⟩
  unfold keyOf
  rw [Try.underlying68]
  simp only [hk, hf, Bool.and_self, if_true]
  have e : (Value.agg (zs.map (Value.int .i64)).toArray).cells.toList = zs.map (Value.int .i64) := by simp [Value.cells]
  rw [e, hL]
  rfl
end Go.Proofs.Ythbibkehhnggfaa
