/-
  Slices of slices: what is known of the type, and one value put behind a family.
-/
import Derived.Test.YtnfhfilconcajaaWFam
namespace Go.Proofs.Ytnfhfilconcajaa
open Go.RowKit
set_option maxRecDepth 100000
set_option linter.unusedVariables false

theorem Try.infoS : (Try.prog.info? 53).map (fun i => (i.zero, i.size, i.bytes)) = some (some (.slice none 0 0), 1, 24) := by kernel_rfl
def ext (VS : Nat → Value) (m : Nat) (v : Value) : Nat → Value := fun i => if i < m then VS i else v
end Go.Proofs.Ytnfhfilconcajaa
