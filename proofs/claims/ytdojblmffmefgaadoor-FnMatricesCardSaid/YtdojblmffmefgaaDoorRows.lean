/-
  NARROWER THAN 'FOR EVERY INPUT', by the rows' own cells (each row's printed sentence says how): FnMatrices: laid · FnRanks: laid · FnSpaces: laid · FnExactReducedForm: laid · FnExactRankOf: laid · FnExactKernelOf: laid · FnExactHasMask: laid · FnExactSolveRows: laid · FnExactInverseMatrix: laid · FnExactSumOfSpaces: laid · FnExactMeetOfSpaces: laid · FnExactComplementRows: laid.
  DERIVED. THE GIVEN ROWS OF THIS SEAT. 12 by the template 'for every input the law returns true; each argument reads behind the call as it read before'; 0 by the template 'total and deterministic' (their statements: YtdojblmffmefgaaDoorTotals.lean).
  GIVEN WITH THE SEED: the statements are not yours to turn. If you find one false, say at which input.
  Laid BY PROGRAM, IN A SANDBOX (cutbox-rows.mjs): the forced cells as the released guide's own fill.sh prints them over the translation 6fc9c77d3f3e953b… (all of the seat's roots in one cut). By AI agents, Wed Nov 11 2026. No macro, syntax, notation, axiom, sorry.
-/
import Derived.Test.YtdojblmffmefgaaDoorChecked
import GoSem.Claim
import GoSem.ClaimJoined
import GoSem.ClaimMapViews
import Derived.JoinedTies
import Derived.KernelRfl
namespace Go.Proofs.YtdojblmffmefgaaDoor
/- THE CELL 'sum', in the pinned program and in every row, IS THE sha256 OF THE DUMP (.gsa) THAT YtdojblmffmefgaaDoorProg.lean LOADS. Nothing in Lean hashes anything: it is a label: what it is worth is what the hold of that sum in a sandbox is worth. -/
noncomputable def Tryd.pinned : Pinned := { name := "ytdojblmffmefgaadoor", sum := "6fc9c77d3f3e953b1e7107c1db86fc2f15c3a8d4c3c79863f7aec3e2f9190315", checked := Tryd.checked }
namespace Rows
def none {H : Type} : Left H := { results := [], args := [] }

/- WHAT THE LISTED PACKAGE-LEVEL VARIABLES READ AS WHEN THE CALL BEGINS. Each datum BY PROGRAM (the guide's laid-datum.mjs) off the statement by which the dump's own 'gosem.cut.vars' lays the variable. In a bare row this is a premise. The card (YtdojblmffmefgaaDoorCards.lean) ties it to the program's text. -/
def laid_math_bits_deBruijn64tab {H : Type} : DataW H := .agg [.lit (.int .u8 0), .lit (.int .u8 1), .lit (.int .u8 56), .lit (.int .u8 2), .lit (.int .u8 57), .lit (.int .u8 49), .lit (.int .u8 28), .lit (.int .u8 3), .lit (.int .u8 61), .lit (.int .u8 58), .lit (.int .u8 42), .lit (.int .u8 50), .lit (.int .u8 38), .lit (.int .u8 29), .lit (.int .u8 17), .lit (.int .u8 4), .lit (.int .u8 62), .lit (.int .u8 47), .lit (.int .u8 59), .lit (.int .u8 36), .lit (.int .u8 45), .lit (.int .u8 43), .lit (.int .u8 51), .lit (.int .u8 22), .lit (.int .u8 53), .lit (.int .u8 39), .lit (.int .u8 33), .lit (.int .u8 30), .lit (.int .u8 24), .lit (.int .u8 18), .lit (.int .u8 12), .lit (.int .u8 5), .lit (.int .u8 63), .lit (.int .u8 55), .lit (.int .u8 48), .lit (.int .u8 27), .lit (.int .u8 60), .lit (.int .u8 41), .lit (.int .u8 37), .lit (.int .u8 16), .lit (.int .u8 46), .lit (.int .u8 35), .lit (.int .u8 44), .lit (.int .u8 21), .lit (.int .u8 52), .lit (.int .u8 32), .lit (.int .u8 23), .lit (.int .u8 11), .lit (.int .u8 54), .lit (.int .u8 26), .lit (.int .u8 40), .lit (.int .u8 15), .lit (.int .u8 34), .lit (.int .u8 20), .lit (.int .u8 31), .lit (.int .u8 10), .lit (.int .u8 25), .lit (.int .u8 14), .lit (.int .u8 19), .lit (.int .u8 9), .lit (.int .u8 13), .lit (.int .u8 8), .lit (.int .u8 7), .lit (.int .u8 6)]

/-- 'laws.FnMatrices': WHATEVER THE INPUT: true; the input reads as it did. -/
def fnMatricesSpec : ChangeSpec := { name := "fnMatrices", fn := fun _ => fun
  | [d] => { results := [.lit (.bool true)], args := [d] }
  | _ => none }
def fnMatricesRow : OpenClaim := { program := "ytdojblmffmefgaadoor", sum := "6fc9c77d3f3e953b1e7107c1db86fc2f15c3a8d4c3c79863f7aec3e2f9190315", func := "loop.example/g01154/laws.FnMatrices", spec := "fnMatrices", unfollowed := true, recurses := true, named := ["math/bits.deBruijn64tab"], apart := false, laid := [("math/bits.deBruijn64tab", laid_math_bits_deBruijn64tab)] }
def FnMatricesSaid : Prop := fnMatricesRow.holds Tryd.pinned (OpenSpec.ofChange fnMatricesSpec)

/-- ITS FALSE NEIGHBOUR: 'it returns false'. Refute it at one input. -/
def fnMatricesWrong : ChangeSpec := { name := "fnMatrices", fn := fun _ => fun
  | [d] => { results := [.lit (.bool false)], args := [d] }
  | _ => none }
def FnMatricesWrongFalsely : Prop := fnMatricesRow.holds Tryd.pinned (OpenSpec.ofChange fnMatricesWrong)

/-- 'laws.FnRanks': WHATEVER THE INPUT: true; the input reads as it did. -/
def fnRanksSpec : ChangeSpec := { name := "fnRanks", fn := fun _ => fun
  | [d] => { results := [.lit (.bool true)], args := [d] }
  | _ => none }
def fnRanksRow : OpenClaim := { program := "ytdojblmffmefgaadoor", sum := "6fc9c77d3f3e953b1e7107c1db86fc2f15c3a8d4c3c79863f7aec3e2f9190315", func := "loop.example/g01154/laws.FnRanks", spec := "fnRanks", unfollowed := true, recurses := true, named := ["math/bits.deBruijn64tab"], apart := false, laid := [("math/bits.deBruijn64tab", laid_math_bits_deBruijn64tab)] }
def FnRanksSaid : Prop := fnRanksRow.holds Tryd.pinned (OpenSpec.ofChange fnRanksSpec)

/-- ITS FALSE NEIGHBOUR: 'it returns false'. Refute it at one input. -/
def fnRanksWrong : ChangeSpec := { name := "fnRanks", fn := fun _ => fun
  | [d] => { results := [.lit (.bool false)], args := [d] }
  | _ => none }
def FnRanksWrongFalsely : Prop := fnRanksRow.holds Tryd.pinned (OpenSpec.ofChange fnRanksWrong)

/-- 'laws.FnSpaces': WHATEVER THE INPUT: true; the input reads as it did. -/
def fnSpacesSpec : ChangeSpec := { name := "fnSpaces", fn := fun _ => fun
  | [d] => { results := [.lit (.bool true)], args := [d] }
  | _ => none }
def fnSpacesRow : OpenClaim := { program := "ytdojblmffmefgaadoor", sum := "6fc9c77d3f3e953b1e7107c1db86fc2f15c3a8d4c3c79863f7aec3e2f9190315", func := "loop.example/g01154/laws.FnSpaces", spec := "fnSpaces", unfollowed := true, recurses := true, named := ["math/bits.deBruijn64tab"], apart := false, laid := [("math/bits.deBruijn64tab", laid_math_bits_deBruijn64tab)] }
def FnSpacesSaid : Prop := fnSpacesRow.holds Tryd.pinned (OpenSpec.ofChange fnSpacesSpec)

/-- ITS FALSE NEIGHBOUR: 'it returns false'. Refute it at one input. -/
def fnSpacesWrong : ChangeSpec := { name := "fnSpaces", fn := fun _ => fun
  | [d] => { results := [.lit (.bool false)], args := [d] }
  | _ => none }
def FnSpacesWrongFalsely : Prop := fnSpacesRow.holds Tryd.pinned (OpenSpec.ofChange fnSpacesWrong)

/-- 'laws.FnExactReducedForm': WHATEVER THE INPUT: true; the input reads as it did. -/
def fnExactReducedFormSpec : ChangeSpec := { name := "fnExactReducedForm", fn := fun _ => fun
  | [d] => { results := [.lit (.bool true)], args := [d] }
  | _ => none }
def fnExactReducedFormRow : OpenClaim := { program := "ytdojblmffmefgaadoor", sum := "6fc9c77d3f3e953b1e7107c1db86fc2f15c3a8d4c3c79863f7aec3e2f9190315", func := "loop.example/g01154/laws.FnExactReducedForm", spec := "fnExactReducedForm", unfollowed := true, recurses := true, named := ["math/bits.deBruijn64tab"], apart := false, laid := [("math/bits.deBruijn64tab", laid_math_bits_deBruijn64tab)] }
def FnExactReducedFormSaid : Prop := fnExactReducedFormRow.holds Tryd.pinned (OpenSpec.ofChange fnExactReducedFormSpec)

/-- ITS FALSE NEIGHBOUR: 'it returns false'. Refute it at one input. -/
def fnExactReducedFormWrong : ChangeSpec := { name := "fnExactReducedForm", fn := fun _ => fun
  | [d] => { results := [.lit (.bool false)], args := [d] }
  | _ => none }
def FnExactReducedFormWrongFalsely : Prop := fnExactReducedFormRow.holds Tryd.pinned (OpenSpec.ofChange fnExactReducedFormWrong)

/-- 'laws.FnExactRankOf': WHATEVER THE INPUT: true; the input reads as it did. -/
def fnExactRankOfSpec : ChangeSpec := { name := "fnExactRankOf", fn := fun _ => fun
  | [d] => { results := [.lit (.bool true)], args := [d] }
  | _ => none }
def fnExactRankOfRow : OpenClaim := { program := "ytdojblmffmefgaadoor", sum := "6fc9c77d3f3e953b1e7107c1db86fc2f15c3a8d4c3c79863f7aec3e2f9190315", func := "loop.example/g01154/laws.FnExactRankOf", spec := "fnExactRankOf", unfollowed := true, recurses := true, named := ["math/bits.deBruijn64tab"], apart := false, laid := [("math/bits.deBruijn64tab", laid_math_bits_deBruijn64tab)] }
def FnExactRankOfSaid : Prop := fnExactRankOfRow.holds Tryd.pinned (OpenSpec.ofChange fnExactRankOfSpec)

/-- ITS FALSE NEIGHBOUR: 'it returns false'. Refute it at one input. -/
def fnExactRankOfWrong : ChangeSpec := { name := "fnExactRankOf", fn := fun _ => fun
  | [d] => { results := [.lit (.bool false)], args := [d] }
  | _ => none }
def FnExactRankOfWrongFalsely : Prop := fnExactRankOfRow.holds Tryd.pinned (OpenSpec.ofChange fnExactRankOfWrong)

/-- 'laws.FnExactKernelOf': WHATEVER THE INPUT: true; the input reads as it did. -/
def fnExactKernelOfSpec : ChangeSpec := { name := "fnExactKernelOf", fn := fun _ => fun
  | [d] => { results := [.lit (.bool true)], args := [d] }
  | _ => none }
def fnExactKernelOfRow : OpenClaim := { program := "ytdojblmffmefgaadoor", sum := "6fc9c77d3f3e953b1e7107c1db86fc2f15c3a8d4c3c79863f7aec3e2f9190315", func := "loop.example/g01154/laws.FnExactKernelOf", spec := "fnExactKernelOf", unfollowed := true, recurses := true, named := ["math/bits.deBruijn64tab"], apart := false, laid := [("math/bits.deBruijn64tab", laid_math_bits_deBruijn64tab)] }
def FnExactKernelOfSaid : Prop := fnExactKernelOfRow.holds Tryd.pinned (OpenSpec.ofChange fnExactKernelOfSpec)

/-- ITS FALSE NEIGHBOUR: 'it returns false'. Refute it at one input. -/
def fnExactKernelOfWrong : ChangeSpec := { name := "fnExactKernelOf", fn := fun _ => fun
  | [d] => { results := [.lit (.bool false)], args := [d] }
  | _ => none }
def FnExactKernelOfWrongFalsely : Prop := fnExactKernelOfRow.holds Tryd.pinned (OpenSpec.ofChange fnExactKernelOfWrong)

/-- 'laws.FnExactHasMask': WHATEVER THE INPUT: true; the input reads as it did. -/
def fnExactHasMaskSpec : ChangeSpec := { name := "fnExactHasMask", fn := fun _ => fun
  | [d1, d2] => { results := [.lit (.bool true)], args := [d1, d2] }
  | _ => none }
def fnExactHasMaskRow : OpenClaim := { program := "ytdojblmffmefgaadoor", sum := "6fc9c77d3f3e953b1e7107c1db86fc2f15c3a8d4c3c79863f7aec3e2f9190315", func := "loop.example/g01154/laws.FnExactHasMask", spec := "fnExactHasMask", unfollowed := true, recurses := true, named := ["math/bits.deBruijn64tab"], apart := false, laid := [("math/bits.deBruijn64tab", laid_math_bits_deBruijn64tab)] }
def FnExactHasMaskSaid : Prop := fnExactHasMaskRow.holds Tryd.pinned (OpenSpec.ofChange fnExactHasMaskSpec)

/-- ITS FALSE NEIGHBOUR: 'it returns false'. Refute it at one input. -/
def fnExactHasMaskWrong : ChangeSpec := { name := "fnExactHasMask", fn := fun _ => fun
  | [d1, d2] => { results := [.lit (.bool false)], args := [d1, d2] }
  | _ => none }
def FnExactHasMaskWrongFalsely : Prop := fnExactHasMaskRow.holds Tryd.pinned (OpenSpec.ofChange fnExactHasMaskWrong)

/-- 'laws.FnExactSolveRows': WHATEVER THE INPUT: true; the input reads as it did. -/
def fnExactSolveRowsSpec : ChangeSpec := { name := "fnExactSolveRows", fn := fun _ => fun
  | [d1, d2] => { results := [.lit (.bool true)], args := [d1, d2] }
  | _ => none }
def fnExactSolveRowsRow : OpenClaim := { program := "ytdojblmffmefgaadoor", sum := "6fc9c77d3f3e953b1e7107c1db86fc2f15c3a8d4c3c79863f7aec3e2f9190315", func := "loop.example/g01154/laws.FnExactSolveRows", spec := "fnExactSolveRows", unfollowed := true, recurses := true, named := ["math/bits.deBruijn64tab"], apart := false, laid := [("math/bits.deBruijn64tab", laid_math_bits_deBruijn64tab)] }
def FnExactSolveRowsSaid : Prop := fnExactSolveRowsRow.holds Tryd.pinned (OpenSpec.ofChange fnExactSolveRowsSpec)

/-- ITS FALSE NEIGHBOUR: 'it returns false'. Refute it at one input. -/
def fnExactSolveRowsWrong : ChangeSpec := { name := "fnExactSolveRows", fn := fun _ => fun
  | [d1, d2] => { results := [.lit (.bool false)], args := [d1, d2] }
  | _ => none }
def FnExactSolveRowsWrongFalsely : Prop := fnExactSolveRowsRow.holds Tryd.pinned (OpenSpec.ofChange fnExactSolveRowsWrong)

/-- 'laws.FnExactInverseMatrix': WHATEVER THE INPUT: true; the input reads as it did. -/
def fnExactInverseMatrixSpec : ChangeSpec := { name := "fnExactInverseMatrix", fn := fun _ => fun
  | [d] => { results := [.lit (.bool true)], args := [d] }
  | _ => none }
def fnExactInverseMatrixRow : OpenClaim := { program := "ytdojblmffmefgaadoor", sum := "6fc9c77d3f3e953b1e7107c1db86fc2f15c3a8d4c3c79863f7aec3e2f9190315", func := "loop.example/g01154/laws.FnExactInverseMatrix", spec := "fnExactInverseMatrix", unfollowed := true, recurses := true, named := ["math/bits.deBruijn64tab"], apart := false, laid := [("math/bits.deBruijn64tab", laid_math_bits_deBruijn64tab)] }
def FnExactInverseMatrixSaid : Prop := fnExactInverseMatrixRow.holds Tryd.pinned (OpenSpec.ofChange fnExactInverseMatrixSpec)

/-- ITS FALSE NEIGHBOUR: 'it returns false'. Refute it at one input. -/
def fnExactInverseMatrixWrong : ChangeSpec := { name := "fnExactInverseMatrix", fn := fun _ => fun
  | [d] => { results := [.lit (.bool false)], args := [d] }
  | _ => none }
def FnExactInverseMatrixWrongFalsely : Prop := fnExactInverseMatrixRow.holds Tryd.pinned (OpenSpec.ofChange fnExactInverseMatrixWrong)

/-- 'laws.FnExactSumOfSpaces': WHATEVER THE INPUT: true; the input reads as it did. -/
def fnExactSumOfSpacesSpec : ChangeSpec := { name := "fnExactSumOfSpaces", fn := fun _ => fun
  | [d1, d2] => { results := [.lit (.bool true)], args := [d1, d2] }
  | _ => none }
def fnExactSumOfSpacesRow : OpenClaim := { program := "ytdojblmffmefgaadoor", sum := "6fc9c77d3f3e953b1e7107c1db86fc2f15c3a8d4c3c79863f7aec3e2f9190315", func := "loop.example/g01154/laws.FnExactSumOfSpaces", spec := "fnExactSumOfSpaces", unfollowed := true, recurses := true, named := ["math/bits.deBruijn64tab"], apart := false, laid := [("math/bits.deBruijn64tab", laid_math_bits_deBruijn64tab)] }
def FnExactSumOfSpacesSaid : Prop := fnExactSumOfSpacesRow.holds Tryd.pinned (OpenSpec.ofChange fnExactSumOfSpacesSpec)

/-- ITS FALSE NEIGHBOUR: 'it returns false'. Refute it at one input. -/
def fnExactSumOfSpacesWrong : ChangeSpec := { name := "fnExactSumOfSpaces", fn := fun _ => fun
  | [d1, d2] => { results := [.lit (.bool false)], args := [d1, d2] }
  | _ => none }
def FnExactSumOfSpacesWrongFalsely : Prop := fnExactSumOfSpacesRow.holds Tryd.pinned (OpenSpec.ofChange fnExactSumOfSpacesWrong)

/-- 'laws.FnExactMeetOfSpaces': WHATEVER THE INPUT: true; the input reads as it did. -/
def fnExactMeetOfSpacesSpec : ChangeSpec := { name := "fnExactMeetOfSpaces", fn := fun _ => fun
  | [d1, d2] => { results := [.lit (.bool true)], args := [d1, d2] }
  | _ => none }
def fnExactMeetOfSpacesRow : OpenClaim := { program := "ytdojblmffmefgaadoor", sum := "6fc9c77d3f3e953b1e7107c1db86fc2f15c3a8d4c3c79863f7aec3e2f9190315", func := "loop.example/g01154/laws.FnExactMeetOfSpaces", spec := "fnExactMeetOfSpaces", unfollowed := true, recurses := true, named := ["math/bits.deBruijn64tab"], apart := false, laid := [("math/bits.deBruijn64tab", laid_math_bits_deBruijn64tab)] }
def FnExactMeetOfSpacesSaid : Prop := fnExactMeetOfSpacesRow.holds Tryd.pinned (OpenSpec.ofChange fnExactMeetOfSpacesSpec)

/-- ITS FALSE NEIGHBOUR: 'it returns false'. Refute it at one input. -/
def fnExactMeetOfSpacesWrong : ChangeSpec := { name := "fnExactMeetOfSpaces", fn := fun _ => fun
  | [d1, d2] => { results := [.lit (.bool false)], args := [d1, d2] }
  | _ => none }
def FnExactMeetOfSpacesWrongFalsely : Prop := fnExactMeetOfSpacesRow.holds Tryd.pinned (OpenSpec.ofChange fnExactMeetOfSpacesWrong)

/-- 'laws.FnExactComplementRows': WHATEVER THE INPUT: true; the input reads as it did. -/
def fnExactComplementRowsSpec : ChangeSpec := { name := "fnExactComplementRows", fn := fun _ => fun
  | [d1, d2] => { results := [.lit (.bool true)], args := [d1, d2] }
  | _ => none }
def fnExactComplementRowsRow : OpenClaim := { program := "ytdojblmffmefgaadoor", sum := "6fc9c77d3f3e953b1e7107c1db86fc2f15c3a8d4c3c79863f7aec3e2f9190315", func := "loop.example/g01154/laws.FnExactComplementRows", spec := "fnExactComplementRows", unfollowed := true, recurses := true, named := ["math/bits.deBruijn64tab"], apart := false, laid := [("math/bits.deBruijn64tab", laid_math_bits_deBruijn64tab)] }
def FnExactComplementRowsSaid : Prop := fnExactComplementRowsRow.holds Tryd.pinned (OpenSpec.ofChange fnExactComplementRowsSpec)

/-- ITS FALSE NEIGHBOUR: 'it returns false'. Refute it at one input. -/
def fnExactComplementRowsWrong : ChangeSpec := { name := "fnExactComplementRows", fn := fun _ => fun
  | [d1, d2] => { results := [.lit (.bool false)], args := [d1, d2] }
  | _ => none }
def FnExactComplementRowsWrongFalsely : Prop := fnExactComplementRowsRow.holds Tryd.pinned (OpenSpec.ofChange fnExactComplementRowsWrong)

/- THE SECOND FORM. 'bulk': how many values and letters a reading holds, each counted each time it is reached (what is shared counts as often as it is met; a slice's spare places count too). A statement '..UptoSaid' is the law's where the arguments, and the package variables that the reading takes, are together of bulk at most 1048576: NARROWER than '..Said'. Prove '..Said' where nothing that the law and all that it calls make is longer than what came in: it says more and counts as full. Else prove '..UptoSaid'. A law counts once. -/
mutual
def uptoBulk {H : Type} : DataW H → Nat
  | .lit (.string bytes) => bytes.length + 1
  | .lit _ => 1
  | .nil => 1
  | .ptr d => uptoBulk d + 1
  | .slice elems spare => uptoBulkAll elems + uptoBulkAll spare + 1
  | .agg parts => uptoBulkAll parts + 1
  | .iface _ d => uptoBulk d + 1
  | .map entries => uptoBulkEntries entries + 1
  | .held _ => 1
def uptoBulkAll {H : Type} : List (DataW H) → Nat
  | [] => 0
  | d :: r => uptoBulk d + uptoBulkAll r
def uptoBulkEntries {H : Type} : List (Lit × DataW H) → Nat
  | [] => 0
  | x :: r => uptoBulkEntry x + uptoBulkEntries r
def uptoBulkEntry {H : Type} : Lit × DataW H → Nat
  | (.string bytes, d) => bytes.length + uptoBulk d + 1
  | (_, d) => uptoBulk d + 1
 end
def uptoSmall : (H : Type) → List (DataW H) → Bool := fun _ ds => decide (uptoBulkAll ds ≤ 1048576)
def OpenSpec.upto (s : _root_.Go.ChangeSpec) : _root_.Go.OpenSpec := { _root_.Go.OpenSpec.ofChange s with cond := some uptoSmall }

/-- 'laws.FnMatrices', WHERE WHAT IT READS IS OF BULK AT MOST 1048576: true; the input reads as it did. -/
def fnMatricesUptoRow : OpenClaim := { program := "ytdojblmffmefgaadoor", sum := "6fc9c77d3f3e953b1e7107c1db86fc2f15c3a8d4c3c79863f7aec3e2f9190315", func := "loop.example/g01154/laws.FnMatrices", spec := "fnMatrices", unfollowed := true, recurses := true, named := ["math/bits.deBruijn64tab"], apart := false, laid := [("math/bits.deBruijn64tab", laid_math_bits_deBruijn64tab)], narrowed := true }
def FnMatricesUptoSaid : Prop := fnMatricesUptoRow.holds Tryd.pinned (OpenSpec.upto fnMatricesSpec)

/-- 'laws.FnRanks', WHERE WHAT IT READS IS OF BULK AT MOST 1048576: true; the input reads as it did. -/
def fnRanksUptoRow : OpenClaim := { program := "ytdojblmffmefgaadoor", sum := "6fc9c77d3f3e953b1e7107c1db86fc2f15c3a8d4c3c79863f7aec3e2f9190315", func := "loop.example/g01154/laws.FnRanks", spec := "fnRanks", unfollowed := true, recurses := true, named := ["math/bits.deBruijn64tab"], apart := false, laid := [("math/bits.deBruijn64tab", laid_math_bits_deBruijn64tab)], narrowed := true }
def FnRanksUptoSaid : Prop := fnRanksUptoRow.holds Tryd.pinned (OpenSpec.upto fnRanksSpec)

/-- 'laws.FnSpaces', WHERE WHAT IT READS IS OF BULK AT MOST 1048576: true; the input reads as it did. -/
def fnSpacesUptoRow : OpenClaim := { program := "ytdojblmffmefgaadoor", sum := "6fc9c77d3f3e953b1e7107c1db86fc2f15c3a8d4c3c79863f7aec3e2f9190315", func := "loop.example/g01154/laws.FnSpaces", spec := "fnSpaces", unfollowed := true, recurses := true, named := ["math/bits.deBruijn64tab"], apart := false, laid := [("math/bits.deBruijn64tab", laid_math_bits_deBruijn64tab)], narrowed := true }
def FnSpacesUptoSaid : Prop := fnSpacesUptoRow.holds Tryd.pinned (OpenSpec.upto fnSpacesSpec)

/-- 'laws.FnExactReducedForm', WHERE WHAT IT READS IS OF BULK AT MOST 1048576: true; the input reads as it did. -/
def fnExactReducedFormUptoRow : OpenClaim := { program := "ytdojblmffmefgaadoor", sum := "6fc9c77d3f3e953b1e7107c1db86fc2f15c3a8d4c3c79863f7aec3e2f9190315", func := "loop.example/g01154/laws.FnExactReducedForm", spec := "fnExactReducedForm", unfollowed := true, recurses := true, named := ["math/bits.deBruijn64tab"], apart := false, laid := [("math/bits.deBruijn64tab", laid_math_bits_deBruijn64tab)], narrowed := true }
def FnExactReducedFormUptoSaid : Prop := fnExactReducedFormUptoRow.holds Tryd.pinned (OpenSpec.upto fnExactReducedFormSpec)

/-- 'laws.FnExactRankOf', WHERE WHAT IT READS IS OF BULK AT MOST 1048576: true; the input reads as it did. -/
def fnExactRankOfUptoRow : OpenClaim := { program := "ytdojblmffmefgaadoor", sum := "6fc9c77d3f3e953b1e7107c1db86fc2f15c3a8d4c3c79863f7aec3e2f9190315", func := "loop.example/g01154/laws.FnExactRankOf", spec := "fnExactRankOf", unfollowed := true, recurses := true, named := ["math/bits.deBruijn64tab"], apart := false, laid := [("math/bits.deBruijn64tab", laid_math_bits_deBruijn64tab)], narrowed := true }
def FnExactRankOfUptoSaid : Prop := fnExactRankOfUptoRow.holds Tryd.pinned (OpenSpec.upto fnExactRankOfSpec)

/-- 'laws.FnExactKernelOf', WHERE WHAT IT READS IS OF BULK AT MOST 1048576: true; the input reads as it did. -/
def fnExactKernelOfUptoRow : OpenClaim := { program := "ytdojblmffmefgaadoor", sum := "6fc9c77d3f3e953b1e7107c1db86fc2f15c3a8d4c3c79863f7aec3e2f9190315", func := "loop.example/g01154/laws.FnExactKernelOf", spec := "fnExactKernelOf", unfollowed := true, recurses := true, named := ["math/bits.deBruijn64tab"], apart := false, laid := [("math/bits.deBruijn64tab", laid_math_bits_deBruijn64tab)], narrowed := true }
def FnExactKernelOfUptoSaid : Prop := fnExactKernelOfUptoRow.holds Tryd.pinned (OpenSpec.upto fnExactKernelOfSpec)

/-- 'laws.FnExactHasMask', WHERE WHAT IT READS IS OF BULK AT MOST 1048576: true; the input reads as it did. -/
def fnExactHasMaskUptoRow : OpenClaim := { program := "ytdojblmffmefgaadoor", sum := "6fc9c77d3f3e953b1e7107c1db86fc2f15c3a8d4c3c79863f7aec3e2f9190315", func := "loop.example/g01154/laws.FnExactHasMask", spec := "fnExactHasMask", unfollowed := true, recurses := true, named := ["math/bits.deBruijn64tab"], apart := false, laid := [("math/bits.deBruijn64tab", laid_math_bits_deBruijn64tab)], narrowed := true }
def FnExactHasMaskUptoSaid : Prop := fnExactHasMaskUptoRow.holds Tryd.pinned (OpenSpec.upto fnExactHasMaskSpec)

/-- 'laws.FnExactSolveRows', WHERE WHAT IT READS IS OF BULK AT MOST 1048576: true; the input reads as it did. -/
def fnExactSolveRowsUptoRow : OpenClaim := { program := "ytdojblmffmefgaadoor", sum := "6fc9c77d3f3e953b1e7107c1db86fc2f15c3a8d4c3c79863f7aec3e2f9190315", func := "loop.example/g01154/laws.FnExactSolveRows", spec := "fnExactSolveRows", unfollowed := true, recurses := true, named := ["math/bits.deBruijn64tab"], apart := false, laid := [("math/bits.deBruijn64tab", laid_math_bits_deBruijn64tab)], narrowed := true }
def FnExactSolveRowsUptoSaid : Prop := fnExactSolveRowsUptoRow.holds Tryd.pinned (OpenSpec.upto fnExactSolveRowsSpec)

/-- 'laws.FnExactInverseMatrix', WHERE WHAT IT READS IS OF BULK AT MOST 1048576: true; the input reads as it did. -/
def fnExactInverseMatrixUptoRow : OpenClaim := { program := "ytdojblmffmefgaadoor", sum := "6fc9c77d3f3e953b1e7107c1db86fc2f15c3a8d4c3c79863f7aec3e2f9190315", func := "loop.example/g01154/laws.FnExactInverseMatrix", spec := "fnExactInverseMatrix", unfollowed := true, recurses := true, named := ["math/bits.deBruijn64tab"], apart := false, laid := [("math/bits.deBruijn64tab", laid_math_bits_deBruijn64tab)], narrowed := true }
def FnExactInverseMatrixUptoSaid : Prop := fnExactInverseMatrixUptoRow.holds Tryd.pinned (OpenSpec.upto fnExactInverseMatrixSpec)

/-- 'laws.FnExactSumOfSpaces', WHERE WHAT IT READS IS OF BULK AT MOST 1048576: true; the input reads as it did. -/
def fnExactSumOfSpacesUptoRow : OpenClaim := { program := "ytdojblmffmefgaadoor", sum := "6fc9c77d3f3e953b1e7107c1db86fc2f15c3a8d4c3c79863f7aec3e2f9190315", func := "loop.example/g01154/laws.FnExactSumOfSpaces", spec := "fnExactSumOfSpaces", unfollowed := true, recurses := true, named := ["math/bits.deBruijn64tab"], apart := false, laid := [("math/bits.deBruijn64tab", laid_math_bits_deBruijn64tab)], narrowed := true }
def FnExactSumOfSpacesUptoSaid : Prop := fnExactSumOfSpacesUptoRow.holds Tryd.pinned (OpenSpec.upto fnExactSumOfSpacesSpec)

/-- 'laws.FnExactMeetOfSpaces', WHERE WHAT IT READS IS OF BULK AT MOST 1048576: true; the input reads as it did. -/
def fnExactMeetOfSpacesUptoRow : OpenClaim := { program := "ytdojblmffmefgaadoor", sum := "6fc9c77d3f3e953b1e7107c1db86fc2f15c3a8d4c3c79863f7aec3e2f9190315", func := "loop.example/g01154/laws.FnExactMeetOfSpaces", spec := "fnExactMeetOfSpaces", unfollowed := true, recurses := true, named := ["math/bits.deBruijn64tab"], apart := false, laid := [("math/bits.deBruijn64tab", laid_math_bits_deBruijn64tab)], narrowed := true }
def FnExactMeetOfSpacesUptoSaid : Prop := fnExactMeetOfSpacesUptoRow.holds Tryd.pinned (OpenSpec.upto fnExactMeetOfSpacesSpec)

/-- 'laws.FnExactComplementRows', WHERE WHAT IT READS IS OF BULK AT MOST 1048576: true; the input reads as it did. -/
def fnExactComplementRowsUptoRow : OpenClaim := { program := "ytdojblmffmefgaadoor", sum := "6fc9c77d3f3e953b1e7107c1db86fc2f15c3a8d4c3c79863f7aec3e2f9190315", func := "loop.example/g01154/laws.FnExactComplementRows", spec := "fnExactComplementRows", unfollowed := true, recurses := true, named := ["math/bits.deBruijn64tab"], apart := false, laid := [("math/bits.deBruijn64tab", laid_math_bits_deBruijn64tab)], narrowed := true }
def FnExactComplementRowsUptoSaid : Prop := fnExactComplementRowsUptoRow.holds Tryd.pinned (OpenSpec.upto fnExactComplementRowsSpec)

end Rows
end Go.Proofs.YtdojblmffmefgaaDoor
