/-
  Contract of spec.l01Digits: the places of the digits 1, in new memory.
-/
import Derived.Test.YtnfhfilconcajaaRows
import Derived.Test.YtnfhfilconcajaaWOwnB
import Derived.Test.YtnfhfilconcajaaPlainOnes
import Derived.WalkLawsBesides
import Derived.WalkSpells
import Derived.Lib.Hide
namespace Go.Proofs.Ytnfhfilconcajaa
open Go.RowKit
set_option maxRecDepth 100000
set_option linter.unusedVariables false

theorem dg_next (n i m : Nat) (h : m = n / 2 ^ i) (l : List Int) (hl : l = dg n i) : (m % 2 = 1 → l ++ [(i : Int)] = dg n (i + 1)) ∧ (m % 2 = 0 → l = dg n (i + 1)) ∧ m / 2 = n / 2 ^ (i + 1) := by
  subst h hl
  refine ⟨fun h => ?_, fun h => ?_, ?_⟩
  · rw [dg, if_pos h]
  · rw [dg, if_neg (by omega), List.append_nil]
  · rw [Nat.div_div_eq_div_mul, Nat.pow_succ]

theorem i_lt (n i m : Nat) (h : m = n / 2 ^ i) (hn : n < 9223372036854775808) (hm : 0 < m) : i < 63 := by
  apply Decidable.byContradiction
  intro hc
  have : 2 ^ 63 ≤ 2 ^ i := Nat.pow_le_pow_right (by decide) (by omega)
  have : n / 2 ^ i = 0 := Nat.div_eq_of_lt (by omega)
  omega

theorem dg_end (n i m : Nat) (h : m = n / 2 ^ i) (hi : i ≤ 64) (hm : m = 0) : dg n i = dg n 64 := by
  have e : 64 = i + (64 - i) := by omega
  rw [e, dg_stop n i (by omega)]

end Go.Proofs.Ytnfhfilconcajaa
