/-
  Contracts of spec.l01Count, spec.CountPartitions, impl.CountPartitions, and the walk of laws.FnExactCountPartitions.
-/
import Derived.Test.YtnfhfilconcajaaRows
import Derived.Test.YtnfhfilconcajaaPlainCount
import Derived.Test.YtnfhfilconcajaaWDigitsOf
import Derived.Test.YtnfhfilconcajaaWSmall
import Derived.BigRegion
namespace Go.Proofs.Ytnfhfilconcajaa
open Go.RowKit
set_option maxRecDepth 100000
set_option linter.unusedVariables false

theorem spike_num (i : Nat) (h : i ≤ 60) : wrap64 (wrap64 (2 ^ i) - 1) = ((2 ^ i - 1 : Nat) : Int) := by
  have hp : 2 ^ i ≤ 2 ^ 60 := Nat.pow_le_pow_right (by decide) h
  have h1 : 1 ≤ 2 ^ i := Nat.one_le_two_pow
  have e : ((2 : Int) ^ i) = ((2 ^ i : Nat) : Int) := by simp
  rw [e]
  generalize 2 ^ i = x at *
  unfold wrap64
  omega

theorem spikeNumber_any (i : Nat) (w : World) (h : i ≤ 60) :
    Calls Try.prog 100 #[.int .i64 i] w fun e w' => e = .returned (.int .i64 (((2 ^ i - 1 : Nat)) : Int)) ∧ w = w' := by
  have h0 : (0 : Int) ≤ (i : Int) := by omega
  go_enter Try.func100, Try.ntmps100
  go_wp2
  go_ret
  exact ⟨by show Ending.returned (.int .i64 (wrap64 (wrap64 (2 ^ i) - 1))) = _; rw [spike_num i h], rfl⟩

theorem own_cell {w : World} {B g n cap : Nat} {xs : List Int} (h : w.ownsRow B 2 1 (.slice (some ⟨g, 0, none⟩) n cap) n (xs.map (Value.int .i64))) (j : Nat) (hj : j < n) : w.cell? ⟨g, j, none⟩ = some (.int .i64 (xs[j]?.getD 0)) := by
  have hl := h.1
  rw [List.length_map] at hl
  rw [h.cellAt j (by omega), List.getElem?_map, List.getElem?_eq_getElem (by omega)]
  rfl

theorem made_list (d : Nat) : (madeCells (Value.cells (.int .i64 0)) ((d + 1) * 1)).toList = (List.replicate (d + 1) (0 : Int)).map (Value.int .i64) := by
  rw [Nat.mul_one, List.map_replicate]
  exact toList_madeCells_one _ _

theorem spike_sp (i : Nat) (w : World) (h : i ≤ 59) :
    Calls Try.prog 100 #[.int .i64 ((i : Int) + 1)] w fun e w' => e = .returned (.int .i64 (sp i)) ∧ w = w' := by
  have e : sp i = 2 ^ (i + 1) - 1 := by have := sp_pow i; omega
  rw [e]
  exact spikeNumber_any (i + 1) w (by omega)

theorem sp_small (i : Nat) (h : sp i ≤ 300) : i ≤ 7 := by
  apply Decidable.byContradiction
  intro hc
  obtain ⟨j, rfl⟩ : ∃ j, i = 8 + j := ⟨i - 8, by omega⟩
  have := sp_mono 8 j
  have e : sp 8 = 511 := by decide
  omega

end Go.Proofs.Ytnfhfilconcajaa
