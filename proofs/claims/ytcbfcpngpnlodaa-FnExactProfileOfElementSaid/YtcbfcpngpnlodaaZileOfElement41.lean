/-
  Joined: QElP.
-/
import Derived.Test.YtcbfcpngpnlodaaZileOfElement40
import Derived.Test.YtcbfcpngpnlodaaZileOfElement23
section
namespace Go.Proofs.Ytcbfcpngpnlodaa
open Go Go.RowKit
set_option linter.unusedVariables false
set_option maxRecDepth 100000

def lenS (X : Nat → List Int) : Nat → Nat
  | 0 => 0
  | i + 1 => max (lenS X i) (X i).length
def lenT (X : Nat → List Int) (i j : Nat) : Nat := max (lenS X i) j
def supT (X : Nat → List Int) (i j t : Nat) : Int := if t < j then max (supF X i t) (lnX (X i) t) else supF X i t
theorem lstF_congr {F G : Nat → Int} (n : Nat) (h : ∀ t, t < n → F t = G t) : lstF n F = lstF n G :=
  List.map_congr_left fun t ht => h t (List.mem_range.1 ht)
theorem supF_far (X : Nat → List Int) : ∀ i t, lenS X i ≤ t → supF X i t = 0
  | 0, _, _ => rfl
  | i + 1, t, h => by
    rw [lenS] at h
    have h1 := supF_far X i t (by omega)
    have h2 : lnX (X i) t = 0 := if_neg (by omega)
    rw [supF, h1, h2]
    rfl
theorem supT_zero (X : Nat → List Int) (i : Nat) : supT X i 0 = supF X i := by funext t; exact if_neg (Nat.not_lt_zero _)
theorem supT_all (X : Nat → List Int) (i : Nat) : supT X i (X i).length = supF X (i + 1) := by
  funext t
  unfold supT
  rw [supF]
  split
  · rfl
  · have h2 : lnX (X i) t = 0 := if_neg (by assumption)
    have := supF_nn X i t
    rw [h2]
    omega
theorem lenT_zero (X : Nat → List Int) (i : Nat) : lenT X i 0 = lenS X i := by unfold lenT; omega
theorem lenT_all (X : Nat → List Int) (i : Nat) : lenT X i (X i).length = lenS X (i + 1) := rfl
theorem supF_ten {X : Nat → List Int} : ∀ {i : Nat}, (∀ k, k < i → okX (X k)) → ∀ t, supF X i t ≤ 8
  | 0, _, _ => by rw [supF]; decide
  | i + 1, h, t => by
    rw [supF]
    have h1 := supF_ten (X := X) (i := i) (fun k hk => h k (by omega)) t
    have h2 := (lnX_range (h i (Nat.lt_succ_self i)) t).2
    omega
theorem lenS_le {X : Nat → List Int} : ∀ {i : Nat}, (∀ k, k < i → (X k).length ≤ 10) → lenS X i ≤ 10
  | 0, _ => by rw [lenS]; decide
  | i + 1, h => by
    rw [lenS]
    have h1 := lenS_le (X := X) (i := i) (fun k hk => h k (by omega))
    have h2 := h i (Nat.lt_succ_self i)
    omega
/-- One number more. -/
theorem supT_next {X : Nat → List Int} {i j L c : Nat} (hj : j < (X i).length) (hc : (c : Int) = max (supT X i j j) (bl ((X i)[j]?.getD 0).toNat : Int)) : lstF L (updF (supT X i j) j c) = lstF L (supT X i (j + 1)) := by
  refine lstF_congr L fun t _ => ?_
  have h1 : supT X i j j = supF X i j := if_neg (Nat.lt_irrefl _)
  have h2 : lnX (X i) j = (bl ((X i)[j]?.getD 0).toNat : Int) := if_pos hj
  unfold updF
  by_cases e : t = j
  · subst e
    rw [if_pos rfl, hc, h1, ← h2]
    unfold supT
    rw [if_pos (Nat.lt_succ_self t)]
  · rw [if_neg e]
    unfold supT
    by_cases c1 : t < j
    · rw [if_pos c1, if_pos (by omega)]
    · rw [if_neg c1, if_neg (by omega)]
theorem trim_sup {X : Nat → List Int} {m : Nat} (h : ∀ k, k < m → (X k).length ≤ 10) : trim (arL (supF X m)) = trim (lstF (lenS X m) (supF X m)) := by
  have h1 := lenS_le h
  have := trim_zeros (supF X m) (lenS X m) (supF_far X m) (16 - lenS X m)
  rw [show lenS X m + (16 - lenS X m) = 16 by omega] at this
  exact this

/-- A row of L numbers in block g. -/
def RowL (w : World) (B g L cap : Nat) (F : Nat → Int) : Prop := w.ownsRow B 2 1 (.slice (some ⟨g, 0, none⟩) L cap) L ((lstF L F).map (Value.int .i64))
theorem RowL.cell {w : World} {B g L cap : Nat} {F : Nat → Int} (h : RowL w B g L cap F) (k : Nat) (hk : k < L) : w.cell? ⟨g, k, none⟩ = some (.int .i64 (F k)) := by
  rw [World.ownsRow.cellAt h k (by omega), List.getElem?_map, lstF_at L F k hk]
  rfl
theorem RowL.set {w : World} {B g L cap : Nat} {F : Nat → Int} (h : RowL w B g L cap F) (k : Nat) (x : Int) : RowL (w.setCell ⟨g, k, none⟩ (.int .i64 x)) B g L cap (updF F k x) := by
  have h1 := (World.ownsRow.stored h k (.int .i64 x)).1
  rw [← List.map_set] at h1
  have e : (lstF L F).set k x = lstF L (updF F k x) := by
    apply List.ext_getElem
    · simp [lstF]
    · intro i h2 h3
      rw [List.getElem_set]
      simp only [lstF, List.getElem_map, List.getElem_range]
      unfold updF
      by_cases e : k = i
      · rw [if_pos e, if_pos e.symm]
      · rw [if_neg e, if_neg (fun h => e h.symm)]
  rw [e] at h1
  exact h1
theorem updF_upd (F : Nat → Int) (k : Nat) (x y : Int) : updF (updF F k x) k y = updF F k y := by
  funext i
  unfold updF
  by_cases e : i = k
  · rw [if_pos e, if_pos e]
  · rw [if_neg e, if_neg e, if_neg e]
theorem updF_same (F : Nat → Int) (k : Nat) : updF F k (F k) = F := by
  funext i
  unfold updF
  by_cases e : i = k
  · rw [if_pos e, e]
  · rw [if_neg e]
def cellN (w : World) (g j : Nat) : Nat := match w.cell? ⟨g, j, none⟩ with | some (.int _ z) => z.toNat | _ => 0
/-- What the loops of spec.ProfileOfElement keep. -/
structure ElR (w2 : World) (X : Nat → List Int) (i j : Nat) (v : Value) (wr : World) : Prop where
  own : wr.ownsRow w2.heap.size 2 1 v (lenT X i j) ((lstF (lenT X i j) (supT X i j)).map (Value.int .i64))
  bel : Below w2.heap.size w2 wr
theorem ElR.next {w2 wr : World} {X : Nat → List Int} {i : Nat} {v : Value} (h : ElR w2 X i (X i).length v wr) : ElR w2 X (i + 1) 0 v wr :=
  ⟨by have := h.own; rw [lenT_all, supT_all] at this; rw [lenT_zero, supT_zero]; exact this, h.bel⟩
end Go.Proofs.Ytcbfcpngpnlodaa
end
