/-
  spec.l01Own at any row.
-/
import Derived.Test.YthklgkccldklaaaWOwn
import Derived.Laws.AppendOwnNone
namespace Go.Proofs.Ythklgkccldklaaa
open Go.RowKit
set_option linter.unusedVariables false
set_option maxRecDepth 100000

end Go.Proofs.Ythklgkccldklaaa
