/-
  Joined: WPutA, QEnt.
-/
import Derived.Test.YtcbfcpngpnlodaaZileOfElement14
import Derived.Test.YtcbfcpngpnlodaaZileOfElement15
import Derived.Deep.RegionLaw
import Derived.Laws.AppendOwnNone
import Derived.Lib.AppendZeros
import Derived.Maps.AppendAt
import Derived.Test.YtcbfcpngpnlodaaZileOfElement13
import Derived.WideKeyEntry
import Derived.Maps.OwnSet
import Derived.Maps.RangeWalk
import Derived.Maps.Views
section
namespace Go.Proofs.Ytcbfcpngpnlodaa
open Go.RowKit
set_option linter.unusedVariables false
set_option maxRecDepth 100000

/-- append of rows of rows, and where the new row lies. -/
theorem step_rows_at {ops : Array Oper} {o : Oper} {a : Act} {w : World} {K : Act → World → Prop} {Q : Exit → Act → World → Prop} {E : Prop} (hgd : o.guard = none) (s x : Operand) (ho : o.op = .call { callee := .builtin .append, args := #[s, x], argTypes := #[35, 35] })
    (B n : Nat) (v : Value) (xs : List Value) (hs : a.eval s = v) (hown : w.ownsRow B 22 1 v n xs) (ap : Option Addr) (m c : Nat) (news : List Value) (hx : a.eval x = .slice ap m c)
    (hsrc : (ap = none ∧ m = 0 ∧ c = 0) ∨ ∃ ad, ap = some ad ∧ ∀ j u, news[j]? = some u → w.cell? (ad.add j) = some u) (hl : news.length = m) (h1 : ∀ u ∈ news, u.oneCell' = true) (hn : n + m ≤ 400000000000) (hB : B ≤ w.heap.size)
    (h : ∀ v' w', w'.ownsRow B 22 1 v' (n + m) (xs ++ news) → w.grownBy w' v.ownBlock → (v'.ownBlock = v.ownBlock ∨ v'.ownBlock = some w.heap.size) → K (a.put o.dst v') w') :
    if Region.wanted o (yielded ops a.tmps) = true then Oper.wp Try.prog o a w K Q else E := by
  have hw : Region.wanted o (yielded ops a.tmps) = true := by simp [Region.wanted, hgd]
  rw [if_pos hw]
  obtain ⟨i1, hj, hy0, hy1, hy2⟩ := info_parts Try.infoS
  rcases hsrc with ⟨rfl, rfl, rfl⟩ | ⟨ad, rfl, hc⟩
  · have hnews : news = [] := List.eq_nil_of_length_eq_zero hl
    subst hnews
    have hrun := run_append_owned_none (P := Try.prog) (w := w) B 35 o.type 22 i1 1 Try.underlying35 hj v n xs hown
    unfold Oper.wp
    simp [execOp, ho, resolve, invoke, builtin, hs, hx, hrun, Result.andThen]
    refine h v w (by simpa using hown) (World.grownBy.refl w _) (.inl rfl)
  · obtain ⟨v', w', hr, h2, h3, _, h5⟩ := run_append_own_at (P := Try.prog) (w := w) B 35 o.type 22 i1 (.slice none 0 0) 1 24 Try.underlying35 hj hy0 hy1 hy2 rfl (by decide) v n xs hown ad m c news (by omega) hc h1 (by unfold maxLen; omega) (by omega) hB
    exact Lib.wp_append_run w s x 35 35 ho v _ hs hx v' w' hr (h v' w' h2 h3 h5)
theorem wpList_rows_at {ops : Array Oper} {rest : List Oper} {o : Oper} {a : Act} {Q : Exit → Act → World → Prop} (w : World) (hgd : o.guard = none) (s x : Operand) (ho : o.op = .call { callee := .builtin .append, args := #[s, x], argTypes := #[35, 35] })
    (B n : Nat) (v : Value) (xs : List Value) (hs : a.eval s = v) (hown : w.ownsRow B 22 1 v n xs) (ad : Addr) (m c : Nat) (news : List Value) (hx : a.eval x = .slice (some ad) m c)
    (hc : ∀ j u, news[j]? = some u → w.cell? (ad.add j) = some u) (hl : news.length = m) (h1 : ∀ u ∈ news, u.oneCell' = true) (hn : n + m ≤ 400000000000) (hB : B ≤ w.heap.size)
    (h : ∀ v' w', w'.ownsRow B 22 1 v' (n + m) (xs ++ news) → w.grownBy w' v.ownBlock → (v'.ownBlock = v.ownBlock ∨ v'.ownBlock = some w.heap.size) → wpList Try.prog ops Q rest (a.put o.dst v') w') : wpList Try.prog ops Q (o :: rest) a w := by
  obtain ⟨i1, hj, hy0, hy1, hy2⟩ := info_parts Try.infoS
  exact wpList_append_own_at w hgd s x 35 ho B 22 i1 (.slice none 0 0) 1 24 Try.underlying35 hj hy0 hy1 hy2 rfl (by decide) v n xs hs hown ad m c news hx (by omega) hc h1 (by unfold maxLen; omega) (by omega) hB
      (fun v' w' h2 h3 _ h5 => h v' w' h2 h3 h5)
end Go.Proofs.Ytcbfcpngpnlodaa
end
section
namespace Go.Proofs.Ytcbfcpngpnlodaa
open Go Go.RowKit Go.Maps Go.WideElems
set_option linter.unusedVariables false
set_option maxRecDepth 100000

/-- An element is read as itself. -/
def RawQ (v : Value) : Option (DataW Value × List MemPlace) := some (.held v, [])
theorem lawQ : WideMaps.KeyLaw Try.prog 56 := deep_law_laid laidP (m := 3) (by omega) (of_decide_eq_true (by kernel_rfl)) (by kernel_rfl) (by kernel_rfl)
theorem held_inj {a b : Value} (h : (DataW.held a : DataW Value) = .held b) : a = b := by injection h

theorem entryQ {w : World} {b n : Nat} {D : DataW Value} (h : w.ownsMap Try.prog 56 RawQ b n D) (hn : n < maxLen) {k : Array Value} {l : Lit} (hk : keyOf Try.prog 56 (.agg k) = some l) :
    ∃ (v0 : Value) (st : Nat) (w1 : World), (Instr.mapEntry 69 (.map (some b)) (.agg k)).run Try.prog w = .ok (.tuple #[v0, goInt st]) w1 ∧ D.atKey l (.held (.slice none 0 0)) = .held v0 ∧ w.grownBy w1 (some b) ∧ w1.heap.size = w.heap.size ∧
      ∀ (w2 : World) (val : Value), w2.heap[b]? = w1.heap[b]? → ∃ w3, (Instr.entryStore 69 (.map (some b)) (goInt st) val).run Try.prog w2 = .ok () w3 ∧ w3.ownsMap Try.prog 56 RawQ b (n + 1) (D.put l (.held val)) ∧ w2.grownBy w3 (some b) ∧ w3.heap.size = w2.heap.size := by
  have h' := h
  obtain ⟨es, clock, hb, F, hs, rfl⟩ := h
  have ht := Try.underlying69
  have hz : ∀ u : World, (zeroValue 35).run Try.prog u = .ok (.slice none 0 0) u := fun u => Try.zeroValue35 u
  obtain ⟨v0, st, es1, clock1, hrun, _, hst⟩ := entry_then_store lawQ ht hz hb F hk
  obtain ⟨vl, ps, hlook, hat⟩ := h'.lookup keyedQ ht (hz _) (zd := .held (.slice none 0 0)) (zp := []) rfl hk
  have hv : v0 = vl := by
    rcases lawQ.find w hk es.toList F.keys with ⟨h1, _⟩ | ⟨j, e0, h1, h2, h3⟩
    · have a1 : (Instr.lookup 69 (.map (some b)) (.agg k) false).run Try.prog w = .ok (.slice none 0 0) w := by
        simp [Instr.lookup, run_underlying ht, MapKept.run_getObj_map hb, lawQ.check w es.isEmpty hk, h1, hz, Result.andThen]
      have a2 : (Instr.mapEntry 69 (.map (some b)) (.agg k)).run Try.prog w = .ok (.tuple #[.slice none 0 0, goInt clock]) (ChangeMaps.setBlock w b (.map (es.push ⟨.agg k, .slice none 0 0, clock⟩) (clock + 1))) := by
        simp [Instr.mapEntry, run_underlying ht, MapKept.run_getObj_map hb, lawQ.check w false hk, h1, hz, MapKept.run_setObj_map _ hb, Result.andThen, ChangeMaps.setBlock]
      rw [a1] at hlook
      rw [a2] at hrun
      cases hlook
      injection hrun with e1 _
      injection e1 with e1
      have := congrArg (fun a : Array Value => a[0]?) e1
      simp at this
      exact this.symm
    · have hj : es[j]? = some e0 := by simpa using h2
      have a1 : (Instr.lookup 69 (.map (some b)) (.agg k) false).run Try.prog w = .ok e0.val w := by
        simp [Instr.lookup, run_underlying ht, MapKept.run_getObj_map hb, lawQ.check w es.isEmpty hk, h1, Result.andThen]
      rw [a1] at hlook
      simp [Instr.mapEntry, run_underlying ht, MapKept.run_getObj_map hb, lawQ.check w false hk, h1, hj, h3, lawQ.stays w hk, MapKept.run_setObj_map _ hb, Result.andThen] at hrun
      cases hlook
      exact hrun.1.1.symm
  subst hv
  have hz1 : (ChangeMaps.setBlock w b (.map es1 clock1)).heap.size = w.heap.size := by simp [ChangeMaps.setBlock]
  refine ⟨v0, st, _, hrun, ?_, ⟨rfl, rfl, rfl, by rw [hz1]; exact Nat.le_refl _, fun i _ hi => ChangeMaps.heap_setBlock_other hb _ (fun e => hi (by rw [e]))⟩, hz1, fun w2 val hw2 => ?_⟩
  · unfold RawQ at hat
    simp at hat
    exact hat.1.symm
  · rw [ChangeMaps.heap_setBlock_same hb _] at hw2
    obtain ⟨es', clock', r1, r2⟩ := hst w2 val hw2
    obtain ⟨w', r3, o3, _⟩ := h'.update keyedQ ht hn hk (val := val) (d := .held val) (ps := []) rfl
    rw [r2] at r3
    injection r3 with _ r3
    subst r3
    obtain ⟨es2, clock2, hb2, F2, hs2, e2⟩ := o3
    rw [ChangeMaps.heap_setBlock_same hb _] at hb2
    cases hb2
    exact ⟨_, r1, ⟨es', clock', ChangeMaps.heap_setBlock_same hw2 _, F2, hs2, e2⟩, ⟨rfl, rfl, rfl, by simp [ChangeMaps.setBlock], fun i _ hi => ChangeMaps.heap_setBlock_other hw2 _ (fun e => hi (by rw [e]))⟩, by simp [ChangeMaps.setBlock]⟩
end Go.Proofs.Ytcbfcpngpnlodaa
end
