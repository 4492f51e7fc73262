/-
  The walk of laws.FnExactDigitsOf.
-/
import Derived.Test.YtcfgjbfgdlmilaaDoorWImplDigits
import Derived.Test.YtcfgjbfgdlmilaaDoorWOwnB
import Derived.Test.YtcfgjbfgdlmilaaDoorWLaws
import Derived.Test.YtcfgjbfgdlmilaaDoorWBinomial
namespace Go.Proofs.YtcfgjbfgdlmilaaDoor
set_option maxRecDepth 100000
set_option linter.unusedVariables false
open Go.RowKit

/-- What DigitsOf returns: the places, and the code. -/
def dgOf (a : Int) : List Int := if 0 ≤ a ∧ a ≤ 1000000000000 then dg a.toNat 64 else []
def cdOf (a : Int) : Int := if 0 ≤ a ∧ a ≤ 1000000000000 then 0 else 2
theorem dgOf_len (a : Int) : (dgOf a).length ≤ 64 := by
  unfold dgOf
  split
  · rw [dg_length]; exact pcl_le _ _
  · exact Nat.zero_le _

end Go.Proofs.YtcfgjbfgdlmilaaDoor
