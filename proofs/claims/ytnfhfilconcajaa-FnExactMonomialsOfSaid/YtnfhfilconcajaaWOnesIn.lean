/-
  Contracts of spec.OnesIn and impl.OnesIn, and the walk of laws.FnExactOnesIn.
-/
import Derived.Test.YtnfhfilconcajaaWOnes
import Derived.Test.YtnfhfilconcajaaWDigits
import Derived.Test.YtnfhfilconcajaaWBinomial
import Derived.Test.YtnfhfilconcajaaKFam
namespace Go.Proofs.Ytnfhfilconcajaa
open Go.RowKit
set_option maxRecDepth 100000

end Go.Proofs.Ytnfhfilconcajaa
