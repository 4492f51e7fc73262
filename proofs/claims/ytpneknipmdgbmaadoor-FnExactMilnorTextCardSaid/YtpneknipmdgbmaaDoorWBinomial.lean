/-
  The walk of laws.FnExactBinomialParity: it returns true, whatever the two numbers.
-/
import Derived.Test.YtpneknipmdgbmaaDoorRows
import Derived.Test.YtpneknipmdgbmaaDoorPlainBits
import Derived.WalkLawsBesides
import Derived.WalkSpells
namespace Go.Proofs.YtpneknipmdgbmaaDoor
open Go.RowKit
set_option maxRecDepth 100000

end Go.Proofs.YtpneknipmdgbmaaDoor
