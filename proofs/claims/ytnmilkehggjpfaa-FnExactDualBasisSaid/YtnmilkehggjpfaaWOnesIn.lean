/-
  Contracts of spec.OnesIn and impl.OnesIn, and the walk of laws.FnExactOnesIn.
-/
import Derived.Test.YtnmilkehggjpfaaWOnes
import Derived.Test.YtnmilkehggjpfaaWDigits
import Derived.Test.YtnmilkehggjpfaaWBinomial
import Derived.Test.YtnmilkehggjpfaaKFam
namespace Go.Proofs.Ytnmilkehggjpfaa
open Go.RowKit
set_option maxRecDepth 100000

end Go.Proofs.Ytnmilkehggjpfaa
