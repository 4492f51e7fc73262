/-
  The walk of laws.FnExactBinomialParity: it returns true, whatever the two numbers.
-/
import Derived.Test.YtfmnlapnbhcacaaRows
import Derived.Test.YtfmnlapnbhcacaaPlainBits
import Derived.WalkLawsBesides
import Derived.WalkSpells
namespace Go.Proofs.Ytfmnlapnbhcacaa
open Go.RowKit
set_option maxRecDepth 100000

end Go.Proofs.Ytfmnlapnbhcacaa
