/-
  Contract of impl.DigitsOf.
-/
import Derived.Test.YthklgkccldklaaaWDigits
import Derived.Test.YthklgkccldklaaaWSmall
namespace Go.Proofs.Ythklgkccldklaaa
open Go.RowKit
set_option maxRecDepth 100000
set_option linter.unusedVariables false

end Go.Proofs.Ythklgkccldklaaa
