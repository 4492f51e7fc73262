/-
  The numbers of partitions into numbers one less than powers of 2, as both loops fill their row. No program in sight.
-/
import Derived.Test.YtnfhfilconcajaaPlainBits
namespace Go.Proofs.Ytnfhfilconcajaa
open Go.RowKit
set_option maxRecDepth 100000

/-- 2^(i+1) - 1. -/
def sp : Nat → Nat
  | 0 => 1
  | i + 1 => 2 * sp i + 1
theorem sp_pow (i : Nat) : sp i + 1 = 2 ^ (i + 1) := by
  induction i with
  | zero => rfl
  | succ i ih => rw [sp, Nat.pow_succ, ← ih]; omega
theorem sp_gt (i : Nat) : i < sp i := by
  induction i with
  | zero => decide
  | succ i ih => rw [sp]; omega
theorem sp_mono (i j : Nat) : sp i ≤ sp (i + j) := by
  induction j with
  | zero => exact Nat.le_refl _
  | succ j ih => rw [← Nat.add_assoc, sp]; omega

/-- One number of the row, and m of them from p on. -/
def upd (p : Nat) (xs : List Int) (n : Nat) : List Int := xs.set n (wrap64 (xs[n]?.getD 0 + xs[n - p]?.getD 0))
def cpRow (p : Nat) (xs : List Int) : Nat → List Int
  | 0 => xs
  | m + 1 => upd p (cpRow p xs m) (p + m)
theorem cpRow_length (p : Nat) (xs : List Int) (m : Nat) : (cpRow p xs m).length = xs.length := by
  induction m with
  | zero => rfl
  | succ m ih => rw [cpRow, upd, List.length_set, ih]

/-- The row behind i weights. -/
def cpTo (d : Nat) : Nat → List Int
  | 0 => 1 :: List.replicate d 0
  | i + 1 => cpRow (sp i) (cpTo d i) (d + 1 - sp i)
theorem cpTo_length (d i : Nat) : (cpTo d i).length = d + 1 := by
  induction i with
  | zero => simp [cpTo]
  | succ i ih => rw [cpTo, cpRow_length, ih]
theorem cpTo_stop (d i : Nat) (h : d < sp i) (j : Nat) : cpTo d (i + j) = cpTo d i := by
  induction j with
  | zero => rfl
  | succ j ih =>
    have := sp_mono i j
    rw [← Nat.add_assoc, cpTo, show d + 1 - sp (i + j) = 0 by omega, cpRow, ih]
theorem cpTo_end (d i k : Nat) (h : d < sp i) (hk : i ≤ k) : cpTo d i = cpTo d k := by
  obtain ⟨j, rfl⟩ : ∃ j, k = i + j := ⟨k - i, by omega⟩
  exact (cpTo_stop d i h j).symm
theorem map_upd (p : Nat) (xs : List Int) (n : Nat) : (upd p xs n).map (Value.int .i64) = (xs.map (Value.int .i64)).set n (.int .i64 (wrap64 (xs[n]?.getD 0 + xs[n - p]?.getD 0))) := by
  rw [upd, List.map_set]
end Go.Proofs.Ytnfhfilconcajaa
