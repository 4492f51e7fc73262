/-
  Contract of impl.DigitsOf.
-/
import Derived.Test.YtachdmklkkakbaaWDigits
import Derived.Test.YtachdmklkkakbaaWSmall
namespace Go.Proofs.Ytachdmklkkakbaa
open Go.RowKit
set_option maxRecDepth 100000
set_option linter.unusedVariables false

end Go.Proofs.Ytachdmklkkakbaa
