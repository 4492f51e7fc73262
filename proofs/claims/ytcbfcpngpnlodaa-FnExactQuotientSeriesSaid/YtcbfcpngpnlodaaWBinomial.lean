/-
  The walk of laws.FnExactBinomialParity: it returns true, whatever the two numbers.
-/
import Derived.Test.YtcbfcpngpnlodaaRows
import Derived.Test.YtcbfcpngpnlodaaPlainBits
import Derived.WalkLawsBesides
import Derived.WalkSpells
namespace Go.Proofs.Ytcbfcpngpnlodaa
open Go.RowKit
set_option maxRecDepth 100000


end Go.Proofs.Ytcbfcpngpnlodaa
