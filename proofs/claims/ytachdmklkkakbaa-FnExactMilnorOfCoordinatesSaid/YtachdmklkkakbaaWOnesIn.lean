/-
  Contracts of spec.OnesIn and impl.OnesIn, and the walk of laws.FnExactOnesIn.
-/
import Derived.Test.YtachdmklkkakbaaWOnes
import Derived.Test.YtachdmklkkakbaaWDigits
import Derived.Test.YtachdmklkkakbaaWBinomial
import Derived.Test.YtachdmklkkakbaaKFam
namespace Go.Proofs.Ytachdmklkkakbaa
open Go.RowKit
set_option maxRecDepth 100000

end Go.Proofs.Ytachdmklkkakbaa
