/-
  Structs of one field Terms: the helpers of the exact laws (toSquares, szSquares, eqSquares, markSquares, heldSquares).
-/
import Derived.Test.YtnfhfilconcajaaSBox
namespace Go.Proofs.Ytnfhfilconcajaa
open Go.RowKit
set_option linter.unusedVariables false
set_option maxRecDepth 100000

end Go.Proofs.Ytnfhfilconcajaa
