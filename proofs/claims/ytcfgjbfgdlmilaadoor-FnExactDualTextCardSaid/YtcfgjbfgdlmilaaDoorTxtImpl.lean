/-
  impl.textOfWord; strings in new rows; strings.Join over them.
-/
import Derived.Test.YtcfgjbfgdlmilaaDoorTxtSpec
import Derived.Test.YtcfgjbfgdlmilaaDoorWArgs
import Derived.Test.YtcfgjbfgdlmilaaDoorKStr
namespace Go.Proofs.YtcfgjbfgdlmilaaDoor
open Go.RowKit
set_option linter.unusedVariables false
set_option maxRecDepth 100000

theorem Tryd.infoStr : (Tryd.prog.info? 9).map (fun i => (i.zero, i.size, i.bytes)) = some (some (.string ⟨#[]⟩), 1, 16) := by kernel_rfl

/-- n strings, the first j of which are f 0, .. and the others empty. -/
def strs (f : Nat → List UInt8) (n j : Nat) : List Value := (List.range n).map fun i => Value.string (S (if i < j then f i else []))
theorem strs_length (f : Nat → List UInt8) (n j : Nat) : (strs f n j).length = n := by simp [strs]
theorem strs_set (f : Nat → List UInt8) (n j : Nat) : (strs f n j).set j (.string (S (f j))) = strs f n (j + 1) := by
  apply List.ext_getElem
  · simp [strs]
  · intro i h1 h2
    simp only [strs, List.getElem_set, List.getElem_map, List.getElem_range]
    by_cases e : j = i
    · subst e; rw [if_pos rfl, if_pos (by omega)]
    · rw [if_neg e]
      by_cases h : i < j
      · rw [if_pos h, if_pos (by omega)]
      · rw [if_neg h, if_neg (by omega)]
theorem strs_zero (f : Nat → List UInt8) (n : Nat) : strs f n 0 = List.replicate n (.string ⟨#[]⟩) := by
  apply List.ext_getElem
  · simp [strs]
  · intro i h1 h2; simp [strs, S]
theorem strs_get (f : Nat → List UInt8) (n j i : Nat) (h : i < n) : (strs f n j)[i]? = some (.string (S (if i < j then f i else []))) := by
  simp [strs, h]
theorem made_strs (n : Nat) : (madeCells (Value.cells (.string ⟨#[]⟩)) (n * 1)).toList = List.replicate n (.string ⟨#[]⟩) := by
  rw [Nat.mul_one]
  exact toList_madeCells_one _ _

theorem join_row {w : World} {B g n cap : Nat} (f : Nat → List UInt8) (c : UInt8) (h : w.ownsRow B 9 1 (.slice (some ⟨g, 0, none⟩) n cap) n (strs f n n)) (hn : n ≤ 100000) (hl : (Lib.join ((List.range n).map f) [c]).length ≤ 1000000) :
    Calls Tryd.prog 15 #[.slice (some ⟨g, 0, none⟩) n cap, .string ⟨#[c]⟩] w fun e w' => e = .returned (.string (S (Lib.join ((List.range n).map f) [c]))) ∧ Below w.heap.size w w' := by
  have hg := (h.lt g rfl).2
  have hcap : n ≤ cap := by
    rcases h.2 with ⟨e, _⟩ | ⟨g', cap', cur, e, _, _, h1, _⟩
    · cases e
    · cases e; exact h1
  have e1 : ((List.range n).map fun i => S (f i)).map (·.data.toList) = (List.range n).map f := by
    rw [List.map_map]
    apply List.map_congr_left
    intro i _
    rfl
  have J := Go.Proofs.Tryd.strings_Join g 0 cap ((List.range n).map fun i => S (f i)) ⟨#[c]⟩ w (fun j x hx => by
    rw [List.getElem?_map] at hx
    have hj : j < n := by
      rcases Nat.lt_or_ge j n with hj | hj
      · exact hj
      · rw [List.getElem?_eq_none (by simpa using hj)] at hx; cases hx
    rw [List.getElem?_range hj] at hx
    cases Option.some.inj hx
    rw [Nat.zero_add, h.cellAt j (by omega), strs_get f n n j hj, if_pos hj]) hg (by simp; omega) (by simpa using hcap) (by rw [e1]; exact Nat.le_trans hl (by omega))
  have hlen : ((List.range n).map fun i => S (f i)).length = n := by simp
  rw [hlen, e1] at J
  exact J

theorem fmt_any (x : Int) (h0 : 0 ≤ x) (h1 : x < 100) (w : World) :
    Calls Tryd.prog 23 #[.int .i64 x, .int .i64 10] w fun e w' => e = .returned (.string (S (decT x))) ∧ w = w' := by
  obtain ⟨k, rfl⟩ := Int.eq_ofNat_of_zero_le h0
  exact (Go.Proofs.Tryd.strconv_FormatInt_10_small k (by omega) w).mono fun e w' ⟨he, hw⟩ => ⟨by rw [he]; rfl, hw.symm⟩

end Go.Proofs.YtcfgjbfgdlmilaaDoor
