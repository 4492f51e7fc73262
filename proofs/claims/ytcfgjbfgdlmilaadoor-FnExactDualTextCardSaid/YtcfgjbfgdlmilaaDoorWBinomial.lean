/-
  The walk of laws.FnExactBinomialParity: it returns true, whatever the two numbers.
-/
import Derived.Test.YtcfgjbfgdlmilaaDoorRows
import Derived.Test.YtcfgjbfgdlmilaaDoorPlainBits
import Derived.WalkLawsBesides
import Derived.WalkSpells
namespace Go.Proofs.YtcfgjbfgdlmilaaDoor
open Go.RowKit
set_option maxRecDepth 100000


end Go.Proofs.YtcfgjbfgdlmilaaDoor
