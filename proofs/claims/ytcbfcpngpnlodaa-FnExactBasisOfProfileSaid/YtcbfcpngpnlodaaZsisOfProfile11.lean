/-
  Joined: KMapQ, KLits, KKeyQ, WExt.
-/
import Derived.Test.YtcbfcpngpnlodaaZsisOfProfile04
import Derived.Lib.Hide
import Derived.Test.YtcbfcpngpnlodaaZsisOfProfile05
section
namespace Go.Proofs.Ytcbfcpngpnlodaa
open Go.RowKit Go.Maps
set_option linter.unusedVariables false
set_option maxRecDepth 100000

/-- A row of keys that a call owns. -/
def OwnQ (w : World) (B : Nat) (v : Value) (ks : List (Array Value)) : Prop := w.ownsRow B 56 16 v ks.length (ks.flatMap Array.toList)

/-- What is collected from a map. -/
def ColQ (w : World) (D : DataW Unit) (e : Ending) (w' : World) : Prop :=
  ∃ u rs, e = .returned u ∧ OwnQ w' w.heap.size u rs ∧ Below w.heap.size w w' ∧ rs.Nodup ∧ ∀ k, k ∈ rs ↔ ∃ l, keyOf Try.prog 56 (.agg k) = some l ∧ has D l = true
/-- What sumOfLists returns. -/
def SumResQ (w : World) (ks : List (Array Value)) (e : Ending) (w' : World) : Prop :=
  ∃ u rs, e = .returned u ∧ OwnQ w' w.heap.size u rs ∧ Below w.heap.size w w' ∧ rs.Nodup ∧ (∀ k, k ∈ rs ↔ par ks k)

end Go.Proofs.Ytcbfcpngpnlodaa
end
section
namespace Go.Proofs.Ytcbfcpngpnlodaa
open Go.RowKit Go.Maps
set_option linter.unusedVariables false
set_option maxRecDepth 100000

theorem mapM_each {α β : Type} {f : α → Option β} : ∀ {L : List α} {ys : List β}, L.mapM f = some ys → ∀ x ∈ L, ∃ a, f x = some a
  | [], _, _, x, hx => by cases hx
  | y :: r, ys, h, x, hx => by
    rw [List.mapM_cons] at h
    cases hy : f y with
    | none => simp [hy] at h
    | some a =>
      cases hr : r.mapM f with
      | none => simp [hy, hr] at h
      | some b =>
        rcases List.mem_cons.1 hx with rfl | hx
        · exact ⟨a, hy⟩
        · exact mapM_each hr x hx
theorem mapM_mk {α β : Type} {f : α → Option β} : ∀ {L : List α}, (∀ x ∈ L, ∃ a, f x = some a) → ∃ ys, L.mapM f = some ys
  | [], _ => ⟨[], rfl⟩
  | y :: r, h => by
    obtain ⟨a, ha⟩ := h y List.mem_cons_self
    obtain ⟨b, hb⟩ := mapM_mk (f := f) (L := r) (fun x hx => h x (List.mem_cons_of_mem _ hx))
    exact ⟨a :: b, by rw [List.mapM_cons, ha, hb]; rfl⟩

section
variable {P : Program} {q : IntKind}

theorem intLits {t : TypeId} (hu : P.underlying t = some (.int q)) : ∀ {d : Nat} {cs : List Value} {l : List Lit}, P.keyLits d t cs = some l → ∃ z, cs = [.int q z] ∧ (Lit.int q z).wf = true
  | 0, _, _, h => by simp [Program.keyLits] at h
  | d + 1, cs, l, h => by
    unfold Program.keyLits at h
    rw [hu] at h
    split at h <;> simp_all
theorem intLits_mk {t : TypeId} (hu : P.underlying t = some (.int q)) (d : Nat) (z : Int) (hw : (Lit.int q z).wf = true) : ∃ l, P.keyLits (d + 1) t [.int q z] = some l := by
  unfold Program.keyLits
  rw [hu]
  exact ⟨_, if_pos ⟨rfl, hw⟩⟩

/-- All cells are integers of the kind q. -/
def Ints (q : IntKind) (cs : List Value) : Prop := ∃ zs : List Int, cs = zs.map (Value.int q) ∧ ∀ z ∈ zs, (Lit.int q z).wf = true
theorem ints_of {q : IntKind} : ∀ (cs : List Value), (∀ i, i < cs.length → ∃ z, cs[i]? = some (.int q z) ∧ (Lit.int q z).wf = true) → Ints q cs
  | [], _ => ⟨[], rfl, by intro z hz; cases hz⟩
  | c :: r, h => by
    obtain ⟨z, hz, hw⟩ := h 0 (by simp)
    obtain ⟨zs, e, hzs⟩ := ints_of r (fun i hi => h (i + 1) (by simpa using hi))
    refine ⟨z :: zs, by simp at hz; rw [hz, e]; rfl, fun y hy => ?_⟩
    rcases List.mem_cons.1 hy with rfl | hy
    · exact hw
    · exact hzs y hy

theorem arrLits {t e : TypeId} {n : Nat} (hu : P.underlying t = some (.array n e)) (he : P.underlying e = some (.int q)) (hc : P.cellsOf e = 1) (hn : P.cellsOf t = n) {d : Nat} {cs : List Value} {l : List Lit} (h : P.keyLits d t cs = some l) : cs.length = n ∧ Ints q cs := by
  cases d with
  | zero => simp [Program.keyLits] at h
  | succ d =>
    unfold Program.keyLits at h
    rw [hu] at h
    simp only [hn, hc] at h
    split at h
    · rename_i hl
      cases hm : (List.range n).mapM (fun i => P.keyLits d e ((cs.drop (i * 1)).take 1)) with
      | none => rw [hm] at h; cases h
      | some ys =>
        refine ⟨hl, ints_of cs fun i hi => ?_⟩
        obtain ⟨a, ha⟩ := mapM_each hm i (List.mem_range.2 (by omega))
        obtain ⟨z, hz, hw⟩ := intLits he ha
        refine ⟨z, ?_, hw⟩
        have h1 := congrArg (fun xs => xs[0]?) hz
        simpa using h1
    · cases h
theorem arrLits_mk {t e : TypeId} {n : Nat} (hu : P.underlying t = some (.array n e)) (he : P.underlying e = some (.int q)) (hc : P.cellsOf e = 1) (hn : P.cellsOf t = n) (d : Nat) {cs : List Value} (hl : cs.length = n) (h : Ints q cs) : ∃ l, P.keyLits (d + 2) t cs = some l := by
  obtain ⟨zs, rfl, hw⟩ := h
  rw [List.length_map] at hl
  unfold Program.keyLits
  rw [hu]
  simp only [hn, hc, List.length_map, hl, if_true]
  obtain ⟨ys, has⟩ := mapM_mk (f := fun i => P.keyLits (d + 1) e (((zs.map (Value.int q)).drop (i * 1)).take 1)) (L := List.range n) (fun i hi => by
    have hi' : i < zs.length := by have := List.mem_range.1 hi; omega
    have e1 : ((zs.map (Value.int q)).drop (i * 1)).take 1 = [.int q zs[i]] := by
      rw [Nat.mul_one, ← List.map_drop, ← List.map_take, List.drop_eq_getElem_cons hi']
      rfl
    rw [e1]
    exact intLits_mk he d _ (hw _ (List.getElem_mem hi')))
  rw [has]
  exact ⟨_, rfl⟩
end
end Go.Proofs.Ytcbfcpngpnlodaa
end
section
namespace Go.Proofs.Ytcbfcpngpnlodaa
open Go.RowKit Go.Maps
set_option linter.unusedVariables false
set_option maxRecDepth 100000

theorem litsQ {d : Nat} {cs : List Value} {l : List Lit} (h : Try.prog.keyLits d 56 cs = some l) : cs.length = 16 ∧ Ints .i64 cs := arrLits Try.underlying56 Try.underlying2 (by kernel_rfl) (by kernel_rfl) h

theorem litsQ_mk (d : Nat) {cs : List Value} (hl : cs.length = 16) (h : Ints .i64 cs) : ∃ l, Try.prog.keyLits (d + 3) 56 cs = some l := arrLits_mk Try.underlying56 Try.underlying2 (by kernel_rfl) (by kernel_rfl) (d + 1) hl h

/-- Whatever reads as a key is one. -/
theorem keyQ_inv {v : Value} {l : Lit} (h : keyOf Try.prog 56 v = some l) : ∃ k, v = .agg k ∧ KOKQ k := by
  obtain ⟨xs, L, rfl, hL, _⟩ := keyOf_top (by kernel_rfl) h
  obtain ⟨h1, zs, h2, _⟩ := litsQ hL
  refine ⟨xs, rfl, ⟨zs, ?_, ?_⟩, l, h⟩
  · rw [h2, List.length_map] at h1; exact h1
  · rw [← h2]

theorem keyQ_mk (zs : List Int) (hl : zs.length = 16) (hw : ∀ z ∈ zs, (Lit.int .i64 z).wf = true) : KOKQ (zs.map (Value.int .i64)).toArray := by
  refine ⟨⟨zs, hl, rfl⟩, ?_⟩
  obtain ⟨L, hL⟩ := litsQ_mk (Try.prog.types.size - 2) (cs := zs.map (Value.int .i64)) (by rw [List.length_map]; exact hl) ⟨zs, rfl, hw⟩
  have hts : Try.prog.types.size - 2 + 3 = Try.prog.types.size + 1 := by kernel_rfl
  rw [hts] at hL
  have hk : Try.prog.keyType 56 = true := by kernel_rfl
  have hf : (Value.agg (zs.map (Value.int .i64)).toArray).formed Try.prog 56 = true := by
    have hc : Try.prog.cellsOf 56 = 16 := by kernel_rfl
    simp [Value.formed, Try.underlying56, hc, hl]
  refine ⟨.string (keyBytes L), ?_⟩
  unfold keyOf
  rw [Try.underlying56]
  simp only [hk, hf, Bool.and_self, if_true]
  have e : (Value.agg (zs.map (Value.int .i64)).toArray).cells.toList = zs.map (Value.int .i64) := by simp [Value.cells]
  rw [e, hL]
  rfl
end Go.Proofs.Ytcbfcpngpnlodaa
end
section
namespace Go.Proofs.Ytcbfcpngpnlodaa
open Go.RowKit
set_option maxRecDepth 100000
set_option linter.unusedVariables false

theorem Try.infoS : (Try.prog.info? 22).map (fun i => (i.zero, i.size, i.bytes)) = some (some (.slice none 0 0), 1, 24) := by kernel_rfl
def ext (VS : Nat → Value) (m : Nat) (v : Value) : Nat → Value := fun i => if i < m then VS i else v
end Go.Proofs.Ytcbfcpngpnlodaa
end
