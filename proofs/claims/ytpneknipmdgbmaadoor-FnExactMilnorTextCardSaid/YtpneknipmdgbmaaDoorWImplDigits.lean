/-
  Contract of impl.DigitsOf.
-/
import Derived.Test.YtpneknipmdgbmaaDoorWDigits
import Derived.Test.YtpneknipmdgbmaaDoorWSmall
namespace Go.Proofs.YtpneknipmdgbmaaDoor
open Go.RowKit
set_option maxRecDepth 100000
set_option linter.unusedVariables false

end Go.Proofs.YtpneknipmdgbmaaDoor
