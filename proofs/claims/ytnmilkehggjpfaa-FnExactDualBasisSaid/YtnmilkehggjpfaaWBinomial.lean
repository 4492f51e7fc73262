/-
  The walk of laws.FnExactBinomialParity: it returns true, whatever the two numbers.
-/
import Derived.Test.YtnmilkehggjpfaaRows
import Derived.Test.YtnmilkehggjpfaaPlainBits
import Derived.WalkLawsBesides
import Derived.WalkSpells
namespace Go.Proofs.Ytnmilkehggjpfaa
open Go.RowKit
set_option maxRecDepth 100000

end Go.Proofs.Ytnmilkehggjpfaa
