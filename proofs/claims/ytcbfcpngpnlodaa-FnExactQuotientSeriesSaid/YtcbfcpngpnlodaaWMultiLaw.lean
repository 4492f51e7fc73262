/-
  Contracts of spec.MultinomialParity and impl.MultinomialParity, and the walk of laws.FnExactMultinomialParity.
-/
import Derived.Test.YtcbfcpngpnlodaaWMulti
namespace Go.Proofs.Ytcbfcpngpnlodaa
open Go.RowKit
set_option maxRecDepth 100000
set_option linter.unusedVariables false

end Go.Proofs.Ytcbfcpngpnlodaa
