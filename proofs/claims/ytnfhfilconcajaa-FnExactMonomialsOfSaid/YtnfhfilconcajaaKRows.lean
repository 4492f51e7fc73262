/-
  Rows of numbers: the first m of a family, and one put behind a family.
-/
import Derived.Test.YtnfhfilconcajaaOpenRows
import Derived.Test.YtnfhfilconcajaaKFam
namespace Go.Proofs.Ytnfhfilconcajaa
open Go.RowKit
set_option maxRecDepth 100000
set_option linter.unusedVariables false

/-- The first m of the lists. -/
def rowsL (X : Nat → List Int) (m : Nat) : List (List Int) := (List.range m).map X
theorem rowsL_succ (X : Nat → List Int) (m : Nat) : rowsL X (m + 1) = rowsL X m ++ [X m] := by simp [rowsL, List.range_succ]
theorem rowsL_len (X : Nat → List Int) (m : Nat) : (rowsL X m).length = m := by simp [rowsL]
theorem mem_rowsL {X : Nat → List Int} {m : Nat} {x : List Int} (h : x ∈ rowsL X m) : ∃ i, i < m ∧ x = X i := by
  obtain ⟨i, hi, e⟩ := List.mem_map.1 h
  exact ⟨i, List.mem_range.1 hi, e.symm⟩

/-- A row of numbers is put behind a family: what the walk wants. -/
theorem fam_put {w w1 w3 : World} {B n : Nat} {S V3 v : Value} {VS : Nat → Value} {L : List (List Int)} {x : List Int} (hF : FamL w B S VS L) (hS : Sep L.length VS) (hB : B ≤ w.heap.size)
    (hv : w1.ownsRow w.heap.size 2 1 v n (x.map (Value.int .i64))) (hn : n = x.length) (hb : Below w.heap.size w w1) (o : Obj)
    (hV3 : w3.ownsRow B 53 1 V3 (L.length + 1) ((List.range L.length).map VS ++ [v])) (hg : (w1.alloc o).grownBy w3 S.ownBlock) :
    FamL w3 B V3 (ext VS L.length v) (L ++ [x]) ∧ Sep (L ++ [x]).length (ext VS L.length v) ∧ Below B w w3 := by
  have hsz := hb.size
  have hF1 : FamL w1 B S VS L := hF.below hb
  have K3 : KeepI none w1 w3 := (KeepI.below ((Below.refl _ w1).alloc (Nat.le_refl _) _) none).trans (KeepI.row (hF1.out.alloc o) hg none)
  have N3 := K3.own (own_base hv hB) (Classical.em _)
  refine ⟨FamL.push hF1 (fun _ _ => Classical.em _) K3 hV3 N3 hn, ?_, ?_⟩
  · rw [List.length_append]
    exact Sep.ext hS (fun i hi => apart_new (hF.inn i hi) (fun k hk => (hv.lt k hk).1))
  · exact (hb.mono hB).trans (((Below.refl _ w1).alloc (by omega) o).grown hg (by simp; omega) (fun k hk => (hF1.out.lt k hk).1))
end Go.Proofs.Ytnfhfilconcajaa
