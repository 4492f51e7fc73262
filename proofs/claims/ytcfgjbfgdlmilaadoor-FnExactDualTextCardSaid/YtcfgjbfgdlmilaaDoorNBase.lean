/-
  The struct Milnor: the helpers of the exact laws (toMilnor, szMilnor, eqMilnor, markMilnor, heldMilnor).
-/
import Derived.Test.YtcfgjbfgdlmilaaDoorSBox
namespace Go.Proofs.YtcfgjbfgdlmilaaDoor
open Go.RowKit
set_option linter.unusedVariables false
set_option maxRecDepth 100000

end Go.Proofs.YtcfgjbfgdlmilaaDoor
