/-
  Contract of impl.DigitsOf.
-/
import Derived.Test.YtcbfcpngpnlodaaWDigits
import Derived.Test.YtcbfcpngpnlodaaWSmall
namespace Go.Proofs.Ytcbfcpngpnlodaa
open Go.RowKit
set_option maxRecDepth 100000
set_option linter.unusedVariables false

theorem pow_div (n i : Nat) : ((n : Int) / 2 ^ i) = ((n / 2 ^ i : Nat) : Int) := by
  rw [Int.natCast_ediv]; simp
theorem and_one (m : Nat) (h : m < 2 ^ 63) : bits .and .i64 (m : Int) 1 = ((m % 2 : Nat) : Int) := by
  rw [show (1 : Int) = ((1 : Nat) : Int) from rfl, i64_and m 1 h (by decide), Nat.and_one_is_mod]
end Go.Proofs.Ytcbfcpngpnlodaa
