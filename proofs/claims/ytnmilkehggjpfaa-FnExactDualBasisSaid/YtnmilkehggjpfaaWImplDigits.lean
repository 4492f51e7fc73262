/-
  Contract of impl.DigitsOf.
-/
import Derived.Test.YtnmilkehggjpfaaWDigits
import Derived.Test.YtnmilkehggjpfaaWSmall
namespace Go.Proofs.Ytnmilkehggjpfaa
open Go.RowKit
set_option maxRecDepth 100000
set_option linter.unusedVariables false

end Go.Proofs.Ytnmilkehggjpfaa
