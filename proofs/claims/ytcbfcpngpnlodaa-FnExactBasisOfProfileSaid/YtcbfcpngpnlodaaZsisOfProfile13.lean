/-
  Joined: QEnt.
-/
import Derived.Test.YtcbfcpngpnlodaaZsisOfProfile10
import Derived.Test.YtcbfcpngpnlodaaZsisOfProfile11
import Derived.WideKeyEntry
import Derived.Maps.OwnSet
import Derived.Maps.RangeWalk
import Derived.Maps.Views
import Derived.Test.YtcbfcpngpnlodaaZsisOfProfile12
section
namespace Go.Proofs.Ytcbfcpngpnlodaa
open Go Go.RowKit Go.Maps Go.WideElems
set_option linter.unusedVariables false
set_option maxRecDepth 100000

/-- An element is read as itself. -/
def RawQ (v : Value) : Option (DataW Value × List MemPlace) := some (.held v, [])
theorem lawQ : WideMaps.KeyLaw Try.prog 56 := deep_law_laid laidP (m := 3) (by omega) (of_decide_eq_true (by kernel_rfl)) (by kernel_rfl) (by kernel_rfl)
theorem held_inj {a b : Value} (h : (DataW.held a : DataW Value) = .held b) : a = b := by injection h

theorem entryQ {w : World} {b n : Nat} {D : DataW Value} (h : w.ownsMap Try.prog 56 RawQ b n D) (hn : n < maxLen) {k : Array Value} {l : Lit} (hk : keyOf Try.prog 56 (.agg k) = some l) :
    ∃ (v0 : Value) (st : Nat) (w1 : World), (Instr.mapEntry 69 (.map (some b)) (.agg k)).run Try.prog w = .ok (.tuple #[v0, goInt st]) w1 ∧ D.atKey l (.held (.slice none 0 0)) = .held v0 ∧ w.grownBy w1 (some b) ∧ w1.heap.size = w.heap.size ∧
      ∀ (w2 : World) (val : Value), w2.heap[b]? = w1.heap[b]? → ∃ w3, (Instr.entryStore 69 (.map (some b)) (goInt st) val).run Try.prog w2 = .ok () w3 ∧ w3.ownsMap Try.prog 56 RawQ b (n + 1) (D.put l (.held val)) ∧ w2.grownBy w3 (some b) ∧ w3.heap.size = w2.heap.size := by
  have h' := h
  obtain ⟨es, clock, hb, F, hs, rfl⟩ := h
  have ht := Try.underlying69
  have hz : ∀ u : World, (zeroValue 35).run Try.prog u = .ok (.slice none 0 0) u := fun u => Try.zeroValue35 u
  obtain ⟨v0, st, es1, clock1, hrun, _, hst⟩ := entry_then_store lawQ ht hz hb F hk
  obtain ⟨vl, ps, hlook, hat⟩ := h'.lookup keyedQ ht (hz _) (zd := .held (.slice none 0 0)) (zp := []) rfl hk
  have hv : v0 = vl := by
    rcases lawQ.find w hk es.toList F.keys with ⟨h1, _⟩ | ⟨j, e0, h1, h2, h3⟩
    · have a1 : (Instr.lookup 69 (.map (some b)) (.agg k) false).run Try.prog w = .ok (.slice none 0 0) w := by
        simp [Instr.lookup, run_underlying ht, MapKept.run_getObj_map hb, lawQ.check w es.isEmpty hk, h1, hz, Result.andThen]
      have a2 : (Instr.mapEntry 69 (.map (some b)) (.agg k)).run Try.prog w = .ok (.tuple #[.slice none 0 0, goInt clock]) (ChangeMaps.setBlock w b (.map (es.push ⟨.agg k, .slice none 0 0, clock⟩) (clock + 1))) := by
        simp [Instr.mapEntry, run_underlying ht, MapKept.run_getObj_map hb, lawQ.check w false hk, h1, hz, MapKept.run_setObj_map _ hb, Result.andThen, ChangeMaps.setBlock]
      rw [a1] at hlook
      rw [a2] at hrun
      cases hlook
      injection hrun with e1 _
      injection e1 with e1
      have := congrArg (fun a : Array Value => a[0]?) e1
      simp at this
      exact this.symm
    · have hj : es[j]? = some e0 := by simpa using h2
      have a1 : (Instr.lookup 69 (.map (some b)) (.agg k) false).run Try.prog w = .ok e0.val w := by
        simp [Instr.lookup, run_underlying ht, MapKept.run_getObj_map hb, lawQ.check w es.isEmpty hk, h1, Result.andThen]
      rw [a1] at hlook
      simp [Instr.mapEntry, run_underlying ht, MapKept.run_getObj_map hb, lawQ.check w false hk, h1, hj, h3, lawQ.stays w hk, MapKept.run_setObj_map _ hb, Result.andThen] at hrun
      cases hlook
      exact hrun.1.1.symm
  subst hv
  have hz1 : (ChangeMaps.setBlock w b (.map es1 clock1)).heap.size = w.heap.size := by simp [ChangeMaps.setBlock]
  refine ⟨v0, st, _, hrun, ?_, ⟨rfl, rfl, rfl, by rw [hz1]; exact Nat.le_refl _, fun i _ hi => ChangeMaps.heap_setBlock_other hb _ (fun e => hi (by rw [e]))⟩, hz1, fun w2 val hw2 => ?_⟩
  · unfold RawQ at hat
    simp at hat
    exact hat.1.symm
  · rw [ChangeMaps.heap_setBlock_same hb _] at hw2
    obtain ⟨es', clock', r1, r2⟩ := hst w2 val hw2
    obtain ⟨w', r3, o3, _⟩ := h'.update keyedQ ht hn hk (val := val) (d := .held val) (ps := []) rfl
    rw [r2] at r3
    injection r3 with _ r3
    subst r3
    obtain ⟨es2, clock2, hb2, F2, hs2, e2⟩ := o3
    rw [ChangeMaps.heap_setBlock_same hb _] at hb2
    cases hb2
    exact ⟨_, r1, ⟨es', clock', ChangeMaps.heap_setBlock_same hw2 _, F2, hs2, e2⟩, ⟨rfl, rfl, rfl, by simp [ChangeMaps.setBlock], fun i _ hi => ChangeMaps.heap_setBlock_other hw2 _ (fun e => hi (by rw [e]))⟩, by simp [ChangeMaps.setBlock]⟩
end Go.Proofs.Ytcbfcpngpnlodaa
end
