/-
  Joined: KKeyQ, WExt.
-/
import Derived.Test.YtcbfcpngpnlodaaZxactIsInPart14
import Derived.Test.YtcbfcpngpnlodaaZxactIsInPart07
section
namespace Go.Proofs.Ytcbfcpngpnlodaa
open Go.RowKit Go.Maps
set_option linter.unusedVariables false
set_option maxRecDepth 100000

theorem litsQ {d : Nat} {cs : List Value} {l : List Lit} (h : Try.prog.keyLits d 56 cs = some l) : cs.length = 16 ∧ Ints .i64 cs := arrLits Try.underlying56 Try.underlying2 (by kernel_rfl) (by kernel_rfl) h

theorem litsQ_mk (d : Nat) {cs : List Value} (hl : cs.length = 16) (h : Ints .i64 cs) : ∃ l, Try.prog.keyLits (d + 3) 56 cs = some l := arrLits_mk Try.underlying56 Try.underlying2 (by kernel_rfl) (by kernel_rfl) (d + 1) hl h

/-- Whatever reads as a key is one. -/
theorem keyQ_inv {v : Value} {l : Lit} (h : keyOf Try.prog 56 v = some l) : ∃ k, v = .agg k ∧ KOKQ k := by
  obtain ⟨xs, L, rfl, hL, _⟩ := keyOf_top (by kernel_rfl) h
  obtain ⟨h1, zs, h2, _⟩ := litsQ hL
  refine ⟨xs, rfl, ⟨zs, ?_, ?_⟩, l, h⟩
  · rw [h2, List.length_map] at h1; exact h1
  · rw [← h2]

theorem keyQ_mk (zs : List Int) (hl : zs.length = 16) (hw : ∀ z ∈ zs, (Lit.int .i64 z).wf = true) : KOKQ (zs.map (Value.int .i64)).toArray := by
  refine ⟨⟨zs, hl, rfl⟩, ?_⟩
  obtain ⟨L, hL⟩ := litsQ_mk (Try.prog.types.size - 2) (cs := zs.map (Value.int .i64)) (by rw [List.length_map]; exact hl) ⟨zs, rfl, hw⟩
  have hts : Try.prog.types.size - 2 + 3 = Try.prog.types.size + 1 := by kernel_rfl
  rw [hts] at hL
  have hk : Try.prog.keyType 56 = true := by kernel_rfl
  have hf : (Value.agg (zs.map (Value.int .i64)).toArray).formed Try.prog 56 = true := by
    have hc : Try.prog.cellsOf 56 = 16 := by kernel_rfl
    simp [Value.formed, Try.underlying56, hc, hl]
  refine ⟨.string (keyBytes L), ?_⟩
  unfold keyOf
  rw [Try.underlying56]
  simp only [hk, hf, Bool.and_self, if_true]
  have e : (Value.agg (zs.map (Value.int .i64)).toArray).cells.toList = zs.map (Value.int .i64) := by simp [Value.cells]
  rw [e, hL]
  rfl
end Go.Proofs.Ytcbfcpngpnlodaa
end
section
namespace Go.Proofs.Ytcbfcpngpnlodaa
open Go.RowKit
set_option maxRecDepth 100000
set_option linter.unusedVariables false

theorem Try.infoS : (Try.prog.info? 22).map (fun i => (i.zero, i.size, i.bytes)) = some (some (.slice none 0 0), 1, 24) := by kernel_rfl
def ext (VS : Nat → Value) (m : Nat) (v : Value) : Nat → Value := fun i => if i < m then VS i else v
end Go.Proofs.Ytcbfcpngpnlodaa
end
