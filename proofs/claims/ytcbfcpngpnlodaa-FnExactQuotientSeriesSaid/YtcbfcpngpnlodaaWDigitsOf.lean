/-
  The walk of laws.FnExactDigitsOf.
-/
import Derived.Test.YtcbfcpngpnlodaaWImplDigits
import Derived.Test.YtcbfcpngpnlodaaWOwnB
import Derived.Test.YtcbfcpngpnlodaaWLaws
import Derived.Test.YtcbfcpngpnlodaaWBinomial
namespace Go.Proofs.Ytcbfcpngpnlodaa
set_option maxRecDepth 100000
set_option linter.unusedVariables false
open Go.RowKit

/-- What DigitsOf returns: the places, and the code. -/
def dgOf (a : Int) : List Int := if 0 ≤ a ∧ a ≤ 1000000000000 then dg a.toNat 64 else []
def cdOf (a : Int) : Int := if 0 ≤ a ∧ a ≤ 1000000000000 then 0 else 2
theorem dgOf_len (a : Int) : (dgOf a).length ≤ 64 := by
  unfold dgOf
  split
  · rw [dg_length]; exact pcl_le _ _
  · exact Nat.zero_le _

end Go.Proofs.Ytcbfcpngpnlodaa
