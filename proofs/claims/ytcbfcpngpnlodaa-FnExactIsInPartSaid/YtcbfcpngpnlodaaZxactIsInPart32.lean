/-
  Joined: WDigits, WImplDigits, WBinomial, WDigitsOf.
-/
import Derived.Test.YtcbfcpngpnlodaaRows
import Derived.Test.YtcbfcpngpnlodaaZxactIsInPart03
import Derived.Test.YtcbfcpngpnlodaaZxactIsInPart31
import Derived.WalkLawsBesides
import Derived.WalkSpells
import Derived.Lib.Hide
import Derived.Test.YtcbfcpngpnlodaaZxactIsInPart08
import Derived.Test.YtcbfcpngpnlodaaZxactIsInPart01
import Derived.Test.YtcbfcpngpnlodaaZxactIsInPart02
section
namespace Go.Proofs.Ytcbfcpngpnlodaa
open Go.RowKit
set_option maxRecDepth 100000
set_option linter.unusedVariables false

theorem dg_next (n i m : Nat) (h : m = n / 2 ^ i) (l : List Int) (hl : l = dg n i) : (m % 2 = 1 → l ++ [(i : Int)] = dg n (i + 1)) ∧ (m % 2 = 0 → l = dg n (i + 1)) ∧ m / 2 = n / 2 ^ (i + 1) := by
  subst h hl
  refine ⟨fun h => ?_, fun h => ?_, ?_⟩
  · rw [dg, if_pos h]
  · rw [dg, if_neg (by omega), List.append_nil]
  · rw [Nat.div_div_eq_div_mul, Nat.pow_succ]

theorem i_lt (n i m : Nat) (h : m = n / 2 ^ i) (hn : n < 9223372036854775808) (hm : 0 < m) : i < 63 := by
  apply Decidable.byContradiction
  intro hc
  have : 2 ^ 63 ≤ 2 ^ i := Nat.pow_le_pow_right (by decide) (by omega)
  have : n / 2 ^ i = 0 := Nat.div_eq_of_lt (by omega)
  omega

theorem dg_end (n i m : Nat) (h : m = n / 2 ^ i) (hi : i ≤ 64) (hm : m = 0) : dg n i = dg n 64 := by
  have e : 64 = i + (64 - i) := by omega
  rw [e, dg_stop n i (by omega)]

end Go.Proofs.Ytcbfcpngpnlodaa
end
section
namespace Go.Proofs.Ytcbfcpngpnlodaa
open Go.RowKit
set_option maxRecDepth 100000
set_option linter.unusedVariables false

theorem pow_div (n i : Nat) : ((n : Int) / 2 ^ i) = ((n / 2 ^ i : Nat) : Int) := by
  rw [Int.natCast_ediv]; simp
theorem and_one (m : Nat) (h : m < 2 ^ 63) : bits .and .i64 (m : Int) 1 = ((m % 2 : Nat) : Int) := by
  rw [show (1 : Int) = ((1 : Nat) : Int) from rfl, i64_and m 1 h (by decide), Nat.and_one_is_mod]
end Go.Proofs.Ytcbfcpngpnlodaa
end
section
namespace Go.Proofs.Ytcbfcpngpnlodaa
open Go.RowKit
set_option maxRecDepth 100000


end Go.Proofs.Ytcbfcpngpnlodaa
end
section
namespace Go.Proofs.Ytcbfcpngpnlodaa
set_option maxRecDepth 100000
set_option linter.unusedVariables false
open Go.RowKit

/-- What DigitsOf returns: the places, and the code. -/
def dgOf (a : Int) : List Int := if 0 ≤ a ∧ a ≤ 1000000000000 then dg a.toNat 64 else []
def cdOf (a : Int) : Int := if 0 ≤ a ∧ a ≤ 1000000000000 then 0 else 2
theorem dgOf_len (a : Int) : (dgOf a).length ≤ 64 := by
  unfold dgOf
  split
  · rw [dg_length]; exact pcl_le _ _
  · exact Nat.zero_le _

end Go.Proofs.Ytcbfcpngpnlodaa
end
