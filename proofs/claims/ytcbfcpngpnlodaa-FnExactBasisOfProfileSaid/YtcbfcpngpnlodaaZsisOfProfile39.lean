/-
  Joined: QBaP.
-/
import Derived.Test.YtcbfcpngpnlodaaZsisOfProfile32
import Derived.Test.YtcbfcpngpnlodaaZsisOfProfile37
import Derived.Test.YtcbfcpngpnlodaaZsisOfProfile38
section
namespace Go.Proofs.Ytcbfcpngpnlodaa
open Go Go.RowKit
set_option linter.unusedVariables false
set_option maxRecDepth 100000

/-- Which of the first i lists are chosen. -/
def idxB (p : Nat → Bool) (i : Nat) : List Nat := (List.range i).filter p
theorem idxB_succ (p : Nat → Bool) (i : Nat) : idxB p (i + 1) = idxB p i ++ (if p i then [i] else []) := by
  unfold idxB
  rw [List.range_succ, List.filter_append]
  congr 1
  cases h : p i <;> simp [h]
theorem idxB_mem {p : Nat → Bool} {i t : Nat} : t ∈ idxB p i ↔ t < i ∧ p t = true := by
  unfold idxB
  rw [List.mem_filter, List.mem_range]
theorem idxB_nodup (p : Nat → Bool) (i : Nat) : (idxB p i).Nodup := List.Nodup.sublist List.filter_sublist List.nodup_range
/-- A family chosen out of a family. -/
theorem fam_sel {w : World} {B : Nat} {VA V : Value} {VS : Nat → Value} {P : List (List Int)} {σ : List Nat} (h : FamL w B VA VS P) (hs : ∀ t ∈ σ, t < P.length) (o : w.ownsRow B 22 1 V σ.length (σ.map VS)) :
    FamL w B V (fun t => VS (σ[t]?.getD 0)) (σ.map (rowsOf P)) := by
  have e : (List.range σ.length).map (fun t => VS (σ[t]?.getD 0)) = σ.map VS := by
    apply List.ext_getElem
    · simp
    · intro i h1 h2
      have h3 : i < σ.length := by simpa using h1
      simp [List.getElem?_eq_getElem h3]
  refine ⟨?_, fun i hi => ?_⟩
  · rw [List.length_map, e]
    exact o
  · rw [List.length_map] at hi
    have e2 : rowsOf (σ.map (rowsOf P)) i = rowsOf P (σ[i]?.getD 0) := by
      show (σ.map (rowsOf P))[i]?.getD [] = _
      rw [List.getElem?_map, List.getElem?_eq_getElem hi]
      rfl
    rw [e2, List.getElem?_eq_getElem hi]
    exact h.inn _ (hs _ (List.getElem_mem hi))
theorem sep_sel {VS : Nat → Value} {m : Nat} {σ : List Nat} (h : Sep m VS) (hs : ∀ t ∈ σ, t < m) (hn : σ.Nodup) : Sep σ.length (fun t => VS (σ[t]?.getD 0)) := fun i j hi hj hij => by
  show (VS (σ[i]?.getD 0)).ownBlock = none ∨ (VS (σ[i]?.getD 0)).ownBlock ≠ (VS (σ[j]?.getD 0)).ownBlock
  rw [List.getElem?_eq_getElem hi, List.getElem?_eq_getElem hj]
  refine h _ _ (hs _ (List.getElem_mem hi)) (hs _ (List.getElem_mem hj)) fun e => hij ?_
  have e' : σ[i] = σ[j] := e
  exact (List.getElem_inj hn).1 e'

/-- The lists of degree d come in ascending order. -/
def ascB : List (List Int) → Bool
  | [] => true
  | [_] => true
  | x :: y :: l => lexLt x y && ascB (y :: l)
theorem ascB_head : ∀ (l : List (List Int)) (x : List Int), ascB (x :: l) = true → ∀ y ∈ l, lexLt x y = true
  | [], _, _, _, h => by cases h
  | z :: l, x, h, y, hy => by
    rw [ascB, Bool.and_eq_true] at h
    rcases List.mem_cons.1 hy with rfl | h1
    · exact h.1
    · exact lexLt_trans _ _ _ h.1 (ascB_head l z h.2 y h1)
theorem ascB_asc : ∀ l : List (List Int), ascB l = true → Asc l
  | [], _ => List.Pairwise.nil
  | [x], _ => List.pairwise_singleton _ _
  | x :: y :: l, h => List.pairwise_cons.2 ⟨ascB_head _ _ h, ascB_asc (y :: l) (by rw [ascB, Bool.and_eq_true] at h; exact h.2)⟩
theorem parts_ascB : ∀ d, d < 41 → (ascB (parts 6 [] d) && decide ((parts 6 [] d).length ≤ 1000)) = true := by decide +kernel
theorem parts_asc (d : Nat) (h : d ≤ 40) : Asc (parts 6 [] d) ∧ (parts 6 [] d).length ≤ 1000 := by
  have := parts_ascB d (by omega)
  rw [Bool.and_eq_true, decide_eq_true_eq] at this
  exact ⟨ascB_asc _ this.1, this.2⟩
theorem parts_good (d : Nat) (h : d ≤ 40) (i : Nat) (hi : i < (parts 6 [] d).length) : goodE (rowsOf (parts 6 [] d) i) := by
  have hm : rowsOf (parts 6 [] d) i ∈ parts 6 [] d := by
    unfold rowsOf
    rw [List.getElem?_eq_getElem hi]
    exact List.getElem_mem hi
  obtain ⟨h1, h2⟩ := part_rows d h _ hm
  exact ⟨h1, by show dgr _ _ ≤ 40; have := h2; unfold gOf; omega⟩

open Classical in
noncomputable def inB (P : List (List Int)) (n : Nat) (H : Nat → Int) (t : Nat) : Bool := decide (stepT (rowsOf P) n H t)
theorem inB_iff {P : List (List Int)} {n : Nat} {H : Nat → Int} {t : Nat} : inB P n H t = true ↔ stepT (rowsOf P) n H t := @decide_eq_true_iff _ (Classical.propDecidable _)
/-- The basis of the part in degree d. -/
noncomputable def basQ (n : Nat) (H : Nat → Int) (d : Nat) : List (List Int) := (idxB (inB (parts 6 [] d) n H) (parts 6 [] d).length).map (rowsOf (parts 6 [] d))
end Go.Proofs.Ytcbfcpngpnlodaa
end
