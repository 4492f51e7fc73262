/-
  No cell of these rows narrows 'for every input' (looked for: loops, veiled, ifaces, maps, wideKeys, modest, calm, conditions, laid).
  DERIVED. THE GIVEN ROWS OF THIS SEAT. 9 by the template 'for every input the law returns true; each argument reads behind the call as it read before'; 0 by the template 'total and deterministic' (their statements: YtachdmklkkakbaaTotals.lean).
  GIVEN WITH THE SEED: the statements are not yours to turn. If you find one false, say at which input.
  Laid BY PROGRAM, IN A SANDBOX (cutbox-rows.mjs): the forced cells as the released guide's own fill.sh prints them over the translation 3fff33174035780a… (all of the seat's roots in one cut). By AI agents, Wed Nov 11 2026. No macro, syntax, notation, axiom, sorry.
-/
import Derived.Test.YtachdmklkkakbaaChecked
import GoSem.Claim
import GoSem.ClaimJoined
import GoSem.ClaimMapViews
import Derived.JoinedTies
import Derived.KernelRfl
namespace Go.Proofs.Ytachdmklkkakbaa
/- THE CELL 'sum', in the pinned program and in every row, IS THE sha256 OF THE DUMP (.gsa) THAT YtachdmklkkakbaaProg.lean LOADS. Nothing in Lean hashes anything: it is a label: what it is worth is what the hold of that sum in a sandbox is worth. -/
noncomputable def Try.pinned : Pinned := { name := "ytachdmklkkakbaa", sum := "3fff33174035780a80be34630c41dcd38447825ec6eb17eb04daebe1d1d2d9b0", checked := Try.checked }
namespace Rows
def none {H : Type} : Left H := { results := [], args := [] }

/-- 'laws.FnExactIsMilnor': WHATEVER THE INPUT: true; the input reads as it did. -/
def fnExactIsMilnorSpec : ChangeSpec := { name := "fnExactIsMilnor", fn := fun _ => fun
  | [d] => { results := [.lit (.bool true)], args := [d] }
  | _ => none }
def fnExactIsMilnorRow : OpenClaim := { program := "ytachdmklkkakbaa", sum := "3fff33174035780a80be34630c41dcd38447825ec6eb17eb04daebe1d1d2d9b0", func := "loop.example/g01154/laws.FnExactIsMilnor", spec := "fnExactIsMilnor", plainKeys := false, apart := false }
def FnExactIsMilnorSaid : Prop := fnExactIsMilnorRow.holds Try.pinned (OpenSpec.ofChange fnExactIsMilnorSpec)

/-- ITS FALSE NEIGHBOUR: 'it returns false'. Refute it at one input. -/
def fnExactIsMilnorWrong : ChangeSpec := { name := "fnExactIsMilnor", fn := fun _ => fun
  | [d] => { results := [.lit (.bool false)], args := [d] }
  | _ => none }
def FnExactIsMilnorWrongFalsely : Prop := fnExactIsMilnorRow.holds Try.pinned (OpenSpec.ofChange fnExactIsMilnorWrong)

/-- 'laws.FnExactAddMilnor': WHATEVER THE INPUT: true; the input reads as it did. -/
def fnExactAddMilnorSpec : ChangeSpec := { name := "fnExactAddMilnor", fn := fun _ => fun
  | [d1, d2] => { results := [.lit (.bool true)], args := [d1, d2] }
  | _ => none }
def fnExactAddMilnorRow : OpenClaim := { program := "ytachdmklkkakbaa", sum := "3fff33174035780a80be34630c41dcd38447825ec6eb17eb04daebe1d1d2d9b0", func := "loop.example/g01154/laws.FnExactAddMilnor", spec := "fnExactAddMilnor", unfollowed := true, recurses := true, plainKeys := false, apart := false }
def FnExactAddMilnorSaid : Prop := fnExactAddMilnorRow.holds Try.pinned (OpenSpec.ofChange fnExactAddMilnorSpec)

/-- ITS FALSE NEIGHBOUR: 'it returns false'. Refute it at one input. -/
def fnExactAddMilnorWrong : ChangeSpec := { name := "fnExactAddMilnor", fn := fun _ => fun
  | [d1, d2] => { results := [.lit (.bool false)], args := [d1, d2] }
  | _ => none }
def FnExactAddMilnorWrongFalsely : Prop := fnExactAddMilnorRow.holds Try.pinned (OpenSpec.ofChange fnExactAddMilnorWrong)

/-- 'laws.FnExactMultiplyMilnor': WHATEVER THE INPUT: true; the input reads as it did. -/
def fnExactMultiplyMilnorSpec : ChangeSpec := { name := "fnExactMultiplyMilnor", fn := fun _ => fun
  | [d1, d2] => { results := [.lit (.bool true)], args := [d1, d2] }
  | _ => none }
def fnExactMultiplyMilnorRow : OpenClaim := { program := "ytachdmklkkakbaa", sum := "3fff33174035780a80be34630c41dcd38447825ec6eb17eb04daebe1d1d2d9b0", func := "loop.example/g01154/laws.FnExactMultiplyMilnor", spec := "fnExactMultiplyMilnor", unfollowed := true, recurses := true, plainKeys := false, apart := false }
def FnExactMultiplyMilnorSaid : Prop := fnExactMultiplyMilnorRow.holds Try.pinned (OpenSpec.ofChange fnExactMultiplyMilnorSpec)

/-- ITS FALSE NEIGHBOUR: 'it returns false'. Refute it at one input. -/
def fnExactMultiplyMilnorWrong : ChangeSpec := { name := "fnExactMultiplyMilnor", fn := fun _ => fun
  | [d1, d2] => { results := [.lit (.bool false)], args := [d1, d2] }
  | _ => none }
def FnExactMultiplyMilnorWrongFalsely : Prop := fnExactMultiplyMilnorRow.holds Try.pinned (OpenSpec.ofChange fnExactMultiplyMilnorWrong)

/-- 'laws.FnExactCommutatorOf': WHATEVER THE INPUT: true; the input reads as it did. -/
def fnExactCommutatorOfSpec : ChangeSpec := { name := "fnExactCommutatorOf", fn := fun _ => fun
  | [d1, d2] => { results := [.lit (.bool true)], args := [d1, d2] }
  | _ => none }
def fnExactCommutatorOfRow : OpenClaim := { program := "ytachdmklkkakbaa", sum := "3fff33174035780a80be34630c41dcd38447825ec6eb17eb04daebe1d1d2d9b0", func := "loop.example/g01154/laws.FnExactCommutatorOf", spec := "fnExactCommutatorOf", unfollowed := true, recurses := true, plainKeys := false, apart := false }
def FnExactCommutatorOfSaid : Prop := fnExactCommutatorOfRow.holds Try.pinned (OpenSpec.ofChange fnExactCommutatorOfSpec)

/-- ITS FALSE NEIGHBOUR: 'it returns false'. Refute it at one input. -/
def fnExactCommutatorOfWrong : ChangeSpec := { name := "fnExactCommutatorOf", fn := fun _ => fun
  | [d1, d2] => { results := [.lit (.bool false)], args := [d1, d2] }
  | _ => none }
def FnExactCommutatorOfWrongFalsely : Prop := fnExactCommutatorOfRow.holds Try.pinned (OpenSpec.ofChange fnExactCommutatorOfWrong)

/-- 'laws.FnExactPowerOfMilnor': WHATEVER THE INPUT: true; the input reads as it did. -/
def fnExactPowerOfMilnorSpec : ChangeSpec := { name := "fnExactPowerOfMilnor", fn := fun _ => fun
  | [d1, d2] => { results := [.lit (.bool true)], args := [d1, d2] }
  | _ => none }
def fnExactPowerOfMilnorRow : OpenClaim := { program := "ytachdmklkkakbaa", sum := "3fff33174035780a80be34630c41dcd38447825ec6eb17eb04daebe1d1d2d9b0", func := "loop.example/g01154/laws.FnExactPowerOfMilnor", spec := "fnExactPowerOfMilnor", unfollowed := true, recurses := true, plainKeys := false, apart := false }
def FnExactPowerOfMilnorSaid : Prop := fnExactPowerOfMilnorRow.holds Try.pinned (OpenSpec.ofChange fnExactPowerOfMilnorSpec)

/-- ITS FALSE NEIGHBOUR: 'it returns false'. Refute it at one input. -/
def fnExactPowerOfMilnorWrong : ChangeSpec := { name := "fnExactPowerOfMilnor", fn := fun _ => fun
  | [d1, d2] => { results := [.lit (.bool false)], args := [d1, d2] }
  | _ => none }
def FnExactPowerOfMilnorWrongFalsely : Prop := fnExactPowerOfMilnorRow.holds Try.pinned (OpenSpec.ofChange fnExactPowerOfMilnorWrong)

/-- 'laws.FnExactMilnorBasis': WHATEVER THE INPUT: true; the input reads as it did. -/
def fnExactMilnorBasisSpec : ChangeSpec := { name := "fnExactMilnorBasis", fn := fun _ => fun
  | [d] => { results := [.lit (.bool true)], args := [d] }
  | _ => none }
def fnExactMilnorBasisRow : OpenClaim := { program := "ytachdmklkkakbaa", sum := "3fff33174035780a80be34630c41dcd38447825ec6eb17eb04daebe1d1d2d9b0", func := "loop.example/g01154/laws.FnExactMilnorBasis", spec := "fnExactMilnorBasis", recurses := true, plainKeys := false, apart := false }
def FnExactMilnorBasisSaid : Prop := fnExactMilnorBasisRow.holds Try.pinned (OpenSpec.ofChange fnExactMilnorBasisSpec)

/-- ITS FALSE NEIGHBOUR: 'it returns false'. Refute it at one input. -/
def fnExactMilnorBasisWrong : ChangeSpec := { name := "fnExactMilnorBasis", fn := fun _ => fun
  | [d] => { results := [.lit (.bool false)], args := [d] }
  | _ => none }
def FnExactMilnorBasisWrongFalsely : Prop := fnExactMilnorBasisRow.holds Try.pinned (OpenSpec.ofChange fnExactMilnorBasisWrong)

/-- 'laws.FnExactDegreeOfMilnor': WHATEVER THE INPUT: true; the input reads as it did. -/
def fnExactDegreeOfMilnorSpec : ChangeSpec := { name := "fnExactDegreeOfMilnor", fn := fun _ => fun
  | [d] => { results := [.lit (.bool true)], args := [d] }
  | _ => none }
def fnExactDegreeOfMilnorRow : OpenClaim := { program := "ytachdmklkkakbaa", sum := "3fff33174035780a80be34630c41dcd38447825ec6eb17eb04daebe1d1d2d9b0", func := "loop.example/g01154/laws.FnExactDegreeOfMilnor", spec := "fnExactDegreeOfMilnor", plainKeys := false, apart := false }
def FnExactDegreeOfMilnorSaid : Prop := fnExactDegreeOfMilnorRow.holds Try.pinned (OpenSpec.ofChange fnExactDegreeOfMilnorSpec)

/-- ITS FALSE NEIGHBOUR: 'it returns false'. Refute it at one input. -/
def fnExactDegreeOfMilnorWrong : ChangeSpec := { name := "fnExactDegreeOfMilnor", fn := fun _ => fun
  | [d] => { results := [.lit (.bool false)], args := [d] }
  | _ => none }
def FnExactDegreeOfMilnorWrongFalsely : Prop := fnExactDegreeOfMilnorRow.holds Try.pinned (OpenSpec.ofChange fnExactDegreeOfMilnorWrong)

/-- 'laws.FnExactCoordinatesOf': WHATEVER THE INPUT: true; the input reads as it did. -/
def fnExactCoordinatesOfSpec : ChangeSpec := { name := "fnExactCoordinatesOf", fn := fun _ => fun
  | [d1, d2] => { results := [.lit (.bool true)], args := [d1, d2] }
  | _ => none }
def fnExactCoordinatesOfRow : OpenClaim := { program := "ytachdmklkkakbaa", sum := "3fff33174035780a80be34630c41dcd38447825ec6eb17eb04daebe1d1d2d9b0", func := "loop.example/g01154/laws.FnExactCoordinatesOf", spec := "fnExactCoordinatesOf", unfollowed := true, recurses := true, plainKeys := false, apart := false }
def FnExactCoordinatesOfSaid : Prop := fnExactCoordinatesOfRow.holds Try.pinned (OpenSpec.ofChange fnExactCoordinatesOfSpec)

/-- ITS FALSE NEIGHBOUR: 'it returns false'. Refute it at one input. -/
def fnExactCoordinatesOfWrong : ChangeSpec := { name := "fnExactCoordinatesOf", fn := fun _ => fun
  | [d1, d2] => { results := [.lit (.bool false)], args := [d1, d2] }
  | _ => none }
def FnExactCoordinatesOfWrongFalsely : Prop := fnExactCoordinatesOfRow.holds Try.pinned (OpenSpec.ofChange fnExactCoordinatesOfWrong)

/-- 'laws.FnExactMilnorOfCoordinates': WHATEVER THE INPUT: true; the input reads as it did. -/
def fnExactMilnorOfCoordinatesSpec : ChangeSpec := { name := "fnExactMilnorOfCoordinates", fn := fun _ => fun
  | [d1, d2] => { results := [.lit (.bool true)], args := [d1, d2] }
  | _ => none }
def fnExactMilnorOfCoordinatesRow : OpenClaim := { program := "ytachdmklkkakbaa", sum := "3fff33174035780a80be34630c41dcd38447825ec6eb17eb04daebe1d1d2d9b0", func := "loop.example/g01154/laws.FnExactMilnorOfCoordinates", spec := "fnExactMilnorOfCoordinates", recurses := true, plainKeys := false, apart := false }
def FnExactMilnorOfCoordinatesSaid : Prop := fnExactMilnorOfCoordinatesRow.holds Try.pinned (OpenSpec.ofChange fnExactMilnorOfCoordinatesSpec)

/-- ITS FALSE NEIGHBOUR: 'it returns false'. Refute it at one input. -/
def fnExactMilnorOfCoordinatesWrong : ChangeSpec := { name := "fnExactMilnorOfCoordinates", fn := fun _ => fun
  | [d1, d2] => { results := [.lit (.bool false)], args := [d1, d2] }
  | _ => none }
def FnExactMilnorOfCoordinatesWrongFalsely : Prop := fnExactMilnorOfCoordinatesRow.holds Try.pinned (OpenSpec.ofChange fnExactMilnorOfCoordinatesWrong)

/- THE SECOND FORM. 'bulk': how many values and letters a reading holds, each counted each time it is reached (what is shared counts as often as it is met; a slice's spare places count too). A statement '..UptoSaid' is the law's where the arguments, and the package variables that the reading takes, are together of bulk at most 1048576: NARROWER than '..Said'. Prove '..Said' where nothing that the law and all that it calls make is longer than what came in: it says more and counts as full. Else prove '..UptoSaid'. A law counts once. -/
mutual
def uptoBulk {H : Type} : DataW H → Nat
  | .lit (.string bytes) => bytes.length + 1
  | .lit _ => 1
  | .nil => 1
  | .ptr d => uptoBulk d + 1
  | .slice elems spare => uptoBulkAll elems + uptoBulkAll spare + 1
  | .agg parts => uptoBulkAll parts + 1
  | .iface _ d => uptoBulk d + 1
  | .map entries => uptoBulkEntries entries + 1
  | .held _ => 1
def uptoBulkAll {H : Type} : List (DataW H) → Nat
  | [] => 0
  | d :: r => uptoBulk d + uptoBulkAll r
def uptoBulkEntries {H : Type} : List (Lit × DataW H) → Nat
  | [] => 0
  | x :: r => uptoBulkEntry x + uptoBulkEntries r
def uptoBulkEntry {H : Type} : Lit × DataW H → Nat
  | (.string bytes, d) => bytes.length + uptoBulk d + 1
  | (_, d) => uptoBulk d + 1
 end
def uptoSmall : (H : Type) → List (DataW H) → Bool := fun _ ds => decide (uptoBulkAll ds ≤ 1048576)
def OpenSpec.upto (s : _root_.Go.ChangeSpec) : _root_.Go.OpenSpec := { _root_.Go.OpenSpec.ofChange s with cond := some uptoSmall }

/-- 'laws.FnExactIsMilnor', WHERE WHAT IT READS IS OF BULK AT MOST 1048576: true; the input reads as it did. -/
def fnExactIsMilnorUptoRow : OpenClaim := { program := "ytachdmklkkakbaa", sum := "3fff33174035780a80be34630c41dcd38447825ec6eb17eb04daebe1d1d2d9b0", func := "loop.example/g01154/laws.FnExactIsMilnor", spec := "fnExactIsMilnor", plainKeys := false, apart := false, narrowed := true }
def FnExactIsMilnorUptoSaid : Prop := fnExactIsMilnorUptoRow.holds Try.pinned (OpenSpec.upto fnExactIsMilnorSpec)

/-- 'laws.FnExactAddMilnor', WHERE WHAT IT READS IS OF BULK AT MOST 1048576: true; the input reads as it did. -/
def fnExactAddMilnorUptoRow : OpenClaim := { program := "ytachdmklkkakbaa", sum := "3fff33174035780a80be34630c41dcd38447825ec6eb17eb04daebe1d1d2d9b0", func := "loop.example/g01154/laws.FnExactAddMilnor", spec := "fnExactAddMilnor", unfollowed := true, recurses := true, plainKeys := false, apart := false, narrowed := true }
def FnExactAddMilnorUptoSaid : Prop := fnExactAddMilnorUptoRow.holds Try.pinned (OpenSpec.upto fnExactAddMilnorSpec)

/-- 'laws.FnExactMultiplyMilnor', WHERE WHAT IT READS IS OF BULK AT MOST 1048576: true; the input reads as it did. -/
def fnExactMultiplyMilnorUptoRow : OpenClaim := { program := "ytachdmklkkakbaa", sum := "3fff33174035780a80be34630c41dcd38447825ec6eb17eb04daebe1d1d2d9b0", func := "loop.example/g01154/laws.FnExactMultiplyMilnor", spec := "fnExactMultiplyMilnor", unfollowed := true, recurses := true, plainKeys := false, apart := false, narrowed := true }
def FnExactMultiplyMilnorUptoSaid : Prop := fnExactMultiplyMilnorUptoRow.holds Try.pinned (OpenSpec.upto fnExactMultiplyMilnorSpec)

/-- 'laws.FnExactCommutatorOf', WHERE WHAT IT READS IS OF BULK AT MOST 1048576: true; the input reads as it did. -/
def fnExactCommutatorOfUptoRow : OpenClaim := { program := "ytachdmklkkakbaa", sum := "3fff33174035780a80be34630c41dcd38447825ec6eb17eb04daebe1d1d2d9b0", func := "loop.example/g01154/laws.FnExactCommutatorOf", spec := "fnExactCommutatorOf", unfollowed := true, recurses := true, plainKeys := false, apart := false, narrowed := true }
def FnExactCommutatorOfUptoSaid : Prop := fnExactCommutatorOfUptoRow.holds Try.pinned (OpenSpec.upto fnExactCommutatorOfSpec)

/-- 'laws.FnExactPowerOfMilnor', WHERE WHAT IT READS IS OF BULK AT MOST 1048576: true; the input reads as it did. -/
def fnExactPowerOfMilnorUptoRow : OpenClaim := { program := "ytachdmklkkakbaa", sum := "3fff33174035780a80be34630c41dcd38447825ec6eb17eb04daebe1d1d2d9b0", func := "loop.example/g01154/laws.FnExactPowerOfMilnor", spec := "fnExactPowerOfMilnor", unfollowed := true, recurses := true, plainKeys := false, apart := false, narrowed := true }
def FnExactPowerOfMilnorUptoSaid : Prop := fnExactPowerOfMilnorUptoRow.holds Try.pinned (OpenSpec.upto fnExactPowerOfMilnorSpec)

/-- 'laws.FnExactMilnorBasis', WHERE WHAT IT READS IS OF BULK AT MOST 1048576: true; the input reads as it did. -/
def fnExactMilnorBasisUptoRow : OpenClaim := { program := "ytachdmklkkakbaa", sum := "3fff33174035780a80be34630c41dcd38447825ec6eb17eb04daebe1d1d2d9b0", func := "loop.example/g01154/laws.FnExactMilnorBasis", spec := "fnExactMilnorBasis", recurses := true, plainKeys := false, apart := false, narrowed := true }
def FnExactMilnorBasisUptoSaid : Prop := fnExactMilnorBasisUptoRow.holds Try.pinned (OpenSpec.upto fnExactMilnorBasisSpec)

/-- 'laws.FnExactDegreeOfMilnor', WHERE WHAT IT READS IS OF BULK AT MOST 1048576: true; the input reads as it did. -/
def fnExactDegreeOfMilnorUptoRow : OpenClaim := { program := "ytachdmklkkakbaa", sum := "3fff33174035780a80be34630c41dcd38447825ec6eb17eb04daebe1d1d2d9b0", func := "loop.example/g01154/laws.FnExactDegreeOfMilnor", spec := "fnExactDegreeOfMilnor", plainKeys := false, apart := false, narrowed := true }
def FnExactDegreeOfMilnorUptoSaid : Prop := fnExactDegreeOfMilnorUptoRow.holds Try.pinned (OpenSpec.upto fnExactDegreeOfMilnorSpec)

/-- 'laws.FnExactCoordinatesOf', WHERE WHAT IT READS IS OF BULK AT MOST 1048576: true; the input reads as it did. -/
def fnExactCoordinatesOfUptoRow : OpenClaim := { program := "ytachdmklkkakbaa", sum := "3fff33174035780a80be34630c41dcd38447825ec6eb17eb04daebe1d1d2d9b0", func := "loop.example/g01154/laws.FnExactCoordinatesOf", spec := "fnExactCoordinatesOf", unfollowed := true, recurses := true, plainKeys := false, apart := false, narrowed := true }
def FnExactCoordinatesOfUptoSaid : Prop := fnExactCoordinatesOfUptoRow.holds Try.pinned (OpenSpec.upto fnExactCoordinatesOfSpec)

/-- 'laws.FnExactMilnorOfCoordinates', WHERE WHAT IT READS IS OF BULK AT MOST 1048576: true; the input reads as it did. -/
def fnExactMilnorOfCoordinatesUptoRow : OpenClaim := { program := "ytachdmklkkakbaa", sum := "3fff33174035780a80be34630c41dcd38447825ec6eb17eb04daebe1d1d2d9b0", func := "loop.example/g01154/laws.FnExactMilnorOfCoordinates", spec := "fnExactMilnorOfCoordinates", recurses := true, plainKeys := false, apart := false, narrowed := true }
def FnExactMilnorOfCoordinatesUptoSaid : Prop := fnExactMilnorOfCoordinatesUptoRow.holds Try.pinned (OpenSpec.upto fnExactMilnorOfCoordinatesSpec)

end Rows
end Go.Proofs.Ytachdmklkkakbaa
