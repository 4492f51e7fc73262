/-
  No cell of these rows narrows 'for every input' (looked for: loops, veiled, ifaces, maps, wideKeys, modest, calm, conditions, laid).
  DERIVED. THE GIVEN ROWS OF THIS SEAT. 12 by the template 'for every input the law returns true; each argument reads behind the call as it read before'; 0 by the template 'total and deterministic' (their statements: YtfmnlapnbhcacaaTotals.lean).
  GIVEN WITH THE SEED: the statements are not yours to turn. If you find one false, say at which input.
  Laid BY PROGRAM, IN A SANDBOX (cutbox-rows.mjs): the forced cells as the released guide's own fill.sh prints them over the translation b0039996705730c8… (all of the seat's roots in one cut). By AI agents, Wed Nov 11 2026. No macro, syntax, notation, axiom, sorry.
-/
import Derived.Test.YtfmnlapnbhcacaaChecked
import GoSem.Claim
import GoSem.ClaimJoined
import GoSem.ClaimMapViews
import Derived.JoinedTies
import Derived.KernelRfl
namespace Go.Proofs.Ytfmnlapnbhcacaa
/- THE CELL 'sum', in the pinned program and in every row, IS THE sha256 OF THE DUMP (.gsa) THAT YtfmnlapnbhcacaaProg.lean LOADS. Nothing in Lean hashes anything: it is a label: what it is worth is what the hold of that sum in a sandbox is worth. -/
noncomputable def Try.pinned : Pinned := { name := "ytfmnlapnbhcacaa", sum := "b0039996705730c8d08795a66970ea479f0a9a039ac943591f69f215afe4c4fb", checked := Try.checked }
namespace Rows
def none {H : Type} : Left H := { results := [], args := [] }

/-- 'laws.FnParities': WHATEVER THE INPUT: true; the input reads as it did. -/
def fnParitiesSpec : ChangeSpec := { name := "fnParities", fn := fun _ => fun
  | [d] => { results := [.lit (.bool true)], args := [d] }
  | _ => none }
def fnParitiesRow : OpenClaim := { program := "ytfmnlapnbhcacaa", sum := "b0039996705730c8d08795a66970ea479f0a9a039ac943591f69f215afe4c4fb", func := "loop.example/g01154/laws.FnParities", spec := "fnParities", unfollowed := true, recurses := true, plainKeys := false, apart := false }
def FnParitiesSaid : Prop := fnParitiesRow.holds Try.pinned (OpenSpec.ofChange fnParitiesSpec)

/-- ITS FALSE NEIGHBOUR: 'it returns false'. Refute it at one input. -/
def fnParitiesWrong : ChangeSpec := { name := "fnParities", fn := fun _ => fun
  | [d] => { results := [.lit (.bool false)], args := [d] }
  | _ => none }
def FnParitiesWrongFalsely : Prop := fnParitiesRow.holds Try.pinned (OpenSpec.ofChange fnParitiesWrong)

/-- 'laws.FnExactSumOfTermLists': WHATEVER THE INPUT: true; the input reads as it did. -/
def fnExactSumOfTermListsSpec : ChangeSpec := { name := "fnExactSumOfTermLists", fn := fun _ => fun
  | [d1, d2] => { results := [.lit (.bool true)], args := [d1, d2] }
  | _ => none }
def fnExactSumOfTermListsRow : OpenClaim := { program := "ytfmnlapnbhcacaa", sum := "b0039996705730c8d08795a66970ea479f0a9a039ac943591f69f215afe4c4fb", func := "loop.example/g01154/laws.FnExactSumOfTermLists", spec := "fnExactSumOfTermLists", unfollowed := true, recurses := true, plainKeys := false, apart := false }
def FnExactSumOfTermListsSaid : Prop := fnExactSumOfTermListsRow.holds Try.pinned (OpenSpec.ofChange fnExactSumOfTermListsSpec)

/-- ITS FALSE NEIGHBOUR: 'it returns false'. Refute it at one input. -/
def fnExactSumOfTermListsWrong : ChangeSpec := { name := "fnExactSumOfTermLists", fn := fun _ => fun
  | [d1, d2] => { results := [.lit (.bool false)], args := [d1, d2] }
  | _ => none }
def FnExactSumOfTermListsWrongFalsely : Prop := fnExactSumOfTermListsRow.holds Try.pinned (OpenSpec.ofChange fnExactSumOfTermListsWrong)

/-- 'laws.FnExactIsSquares': WHATEVER THE INPUT: true; the input reads as it did. -/
def fnExactIsSquaresSpec : ChangeSpec := { name := "fnExactIsSquares", fn := fun _ => fun
  | [d] => { results := [.lit (.bool true)], args := [d] }
  | _ => none }
def fnExactIsSquaresRow : OpenClaim := { program := "ytfmnlapnbhcacaa", sum := "b0039996705730c8d08795a66970ea479f0a9a039ac943591f69f215afe4c4fb", func := "loop.example/g01154/laws.FnExactIsSquares", spec := "fnExactIsSquares", plainKeys := false, apart := false }
def FnExactIsSquaresSaid : Prop := fnExactIsSquaresRow.holds Try.pinned (OpenSpec.ofChange fnExactIsSquaresSpec)

/-- ITS FALSE NEIGHBOUR: 'it returns false'. Refute it at one input. -/
def fnExactIsSquaresWrong : ChangeSpec := { name := "fnExactIsSquares", fn := fun _ => fun
  | [d] => { results := [.lit (.bool false)], args := [d] }
  | _ => none }
def FnExactIsSquaresWrongFalsely : Prop := fnExactIsSquaresRow.holds Try.pinned (OpenSpec.ofChange fnExactIsSquaresWrong)

/-- 'laws.FnExactIsAdmissible': WHATEVER THE INPUT: true; the input reads as it did. -/
def fnExactIsAdmissibleSpec : ChangeSpec := { name := "fnExactIsAdmissible", fn := fun _ => fun
  | [d] => { results := [.lit (.bool true)], args := [d] }
  | _ => none }
def fnExactIsAdmissibleRow : OpenClaim := { program := "ytfmnlapnbhcacaa", sum := "b0039996705730c8d08795a66970ea479f0a9a039ac943591f69f215afe4c4fb", func := "loop.example/g01154/laws.FnExactIsAdmissible", spec := "fnExactIsAdmissible", plainKeys := false, apart := false }
def FnExactIsAdmissibleSaid : Prop := fnExactIsAdmissibleRow.holds Try.pinned (OpenSpec.ofChange fnExactIsAdmissibleSpec)

/-- ITS FALSE NEIGHBOUR: 'it returns false'. Refute it at one input. -/
def fnExactIsAdmissibleWrong : ChangeSpec := { name := "fnExactIsAdmissible", fn := fun _ => fun
  | [d] => { results := [.lit (.bool false)], args := [d] }
  | _ => none }
def FnExactIsAdmissibleWrongFalsely : Prop := fnExactIsAdmissibleRow.holds Try.pinned (OpenSpec.ofChange fnExactIsAdmissibleWrong)

/-- 'laws.FnExactExcessOf': WHATEVER THE INPUT: true; the input reads as it did. -/
def fnExactExcessOfSpec : ChangeSpec := { name := "fnExactExcessOf", fn := fun _ => fun
  | [d] => { results := [.lit (.bool true)], args := [d] }
  | _ => none }
def fnExactExcessOfRow : OpenClaim := { program := "ytfmnlapnbhcacaa", sum := "b0039996705730c8d08795a66970ea479f0a9a039ac943591f69f215afe4c4fb", func := "loop.example/g01154/laws.FnExactExcessOf", spec := "fnExactExcessOf", plainKeys := false, apart := false }
def FnExactExcessOfSaid : Prop := fnExactExcessOfRow.holds Try.pinned (OpenSpec.ofChange fnExactExcessOfSpec)

/-- ITS FALSE NEIGHBOUR: 'it returns false'. Refute it at one input. -/
def fnExactExcessOfWrong : ChangeSpec := { name := "fnExactExcessOf", fn := fun _ => fun
  | [d] => { results := [.lit (.bool false)], args := [d] }
  | _ => none }
def FnExactExcessOfWrongFalsely : Prop := fnExactExcessOfRow.holds Try.pinned (OpenSpec.ofChange fnExactExcessOfWrong)

/-- 'laws.FnExactAdemRelation': WHATEVER THE INPUT: true; the input reads as it did. -/
def fnExactAdemRelationSpec : ChangeSpec := { name := "fnExactAdemRelation", fn := fun _ => fun
  | [d1, d2] => { results := [.lit (.bool true)], args := [d1, d2] }
  | _ => none }
def fnExactAdemRelationRow : OpenClaim := { program := "ytfmnlapnbhcacaa", sum := "b0039996705730c8d08795a66970ea479f0a9a039ac943591f69f215afe4c4fb", func := "loop.example/g01154/laws.FnExactAdemRelation", spec := "fnExactAdemRelation", unfollowed := true, recurses := true, plainKeys := false, apart := false }
def FnExactAdemRelationSaid : Prop := fnExactAdemRelationRow.holds Try.pinned (OpenSpec.ofChange fnExactAdemRelationSpec)

/-- ITS FALSE NEIGHBOUR: 'it returns false'. Refute it at one input. -/
def fnExactAdemRelationWrong : ChangeSpec := { name := "fnExactAdemRelation", fn := fun _ => fun
  | [d1, d2] => { results := [.lit (.bool false)], args := [d1, d2] }
  | _ => none }
def FnExactAdemRelationWrongFalsely : Prop := fnExactAdemRelationRow.holds Try.pinned (OpenSpec.ofChange fnExactAdemRelationWrong)

/-- 'laws.FnExactAddSquares': WHATEVER THE INPUT: true; the input reads as it did. -/
def fnExactAddSquaresSpec : ChangeSpec := { name := "fnExactAddSquares", fn := fun _ => fun
  | [d1, d2] => { results := [.lit (.bool true)], args := [d1, d2] }
  | _ => none }
def fnExactAddSquaresRow : OpenClaim := { program := "ytfmnlapnbhcacaa", sum := "b0039996705730c8d08795a66970ea479f0a9a039ac943591f69f215afe4c4fb", func := "loop.example/g01154/laws.FnExactAddSquares", spec := "fnExactAddSquares", unfollowed := true, recurses := true, plainKeys := false, apart := false }
def FnExactAddSquaresSaid : Prop := fnExactAddSquaresRow.holds Try.pinned (OpenSpec.ofChange fnExactAddSquaresSpec)

/-- ITS FALSE NEIGHBOUR: 'it returns false'. Refute it at one input. -/
def fnExactAddSquaresWrong : ChangeSpec := { name := "fnExactAddSquares", fn := fun _ => fun
  | [d1, d2] => { results := [.lit (.bool false)], args := [d1, d2] }
  | _ => none }
def FnExactAddSquaresWrongFalsely : Prop := fnExactAddSquaresRow.holds Try.pinned (OpenSpec.ofChange fnExactAddSquaresWrong)

/-- 'laws.FnExactAdmissibleForm': WHATEVER THE INPUT: true; the input reads as it did. -/
def fnExactAdmissibleFormSpec : ChangeSpec := { name := "fnExactAdmissibleForm", fn := fun _ => fun
  | [d] => { results := [.lit (.bool true)], args := [d] }
  | _ => none }
def fnExactAdmissibleFormRow : OpenClaim := { program := "ytfmnlapnbhcacaa", sum := "b0039996705730c8d08795a66970ea479f0a9a039ac943591f69f215afe4c4fb", func := "loop.example/g01154/laws.FnExactAdmissibleForm", spec := "fnExactAdmissibleForm", unfollowed := true, recurses := true, plainKeys := false, apart := false }
def FnExactAdmissibleFormSaid : Prop := fnExactAdmissibleFormRow.holds Try.pinned (OpenSpec.ofChange fnExactAdmissibleFormSpec)

/-- ITS FALSE NEIGHBOUR: 'it returns false'. Refute it at one input. -/
def fnExactAdmissibleFormWrong : ChangeSpec := { name := "fnExactAdmissibleForm", fn := fun _ => fun
  | [d] => { results := [.lit (.bool false)], args := [d] }
  | _ => none }
def FnExactAdmissibleFormWrongFalsely : Prop := fnExactAdmissibleFormRow.holds Try.pinned (OpenSpec.ofChange fnExactAdmissibleFormWrong)

/-- 'laws.FnExactMultiplySquares': WHATEVER THE INPUT: true; the input reads as it did. -/
def fnExactMultiplySquaresSpec : ChangeSpec := { name := "fnExactMultiplySquares", fn := fun _ => fun
  | [d1, d2] => { results := [.lit (.bool true)], args := [d1, d2] }
  | _ => none }
def fnExactMultiplySquaresRow : OpenClaim := { program := "ytfmnlapnbhcacaa", sum := "b0039996705730c8d08795a66970ea479f0a9a039ac943591f69f215afe4c4fb", func := "loop.example/g01154/laws.FnExactMultiplySquares", spec := "fnExactMultiplySquares", unfollowed := true, recurses := true, plainKeys := false, apart := false }
def FnExactMultiplySquaresSaid : Prop := fnExactMultiplySquaresRow.holds Try.pinned (OpenSpec.ofChange fnExactMultiplySquaresSpec)

/-- ITS FALSE NEIGHBOUR: 'it returns false'. Refute it at one input. -/
def fnExactMultiplySquaresWrong : ChangeSpec := { name := "fnExactMultiplySquares", fn := fun _ => fun
  | [d1, d2] => { results := [.lit (.bool false)], args := [d1, d2] }
  | _ => none }
def FnExactMultiplySquaresWrongFalsely : Prop := fnExactMultiplySquaresRow.holds Try.pinned (OpenSpec.ofChange fnExactMultiplySquaresWrong)

/-- 'laws.FnExactAdmissibleBasis': WHATEVER THE INPUT: true; the input reads as it did. -/
def fnExactAdmissibleBasisSpec : ChangeSpec := { name := "fnExactAdmissibleBasis", fn := fun _ => fun
  | [d] => { results := [.lit (.bool true)], args := [d] }
  | _ => none }
def fnExactAdmissibleBasisRow : OpenClaim := { program := "ytfmnlapnbhcacaa", sum := "b0039996705730c8d08795a66970ea479f0a9a039ac943591f69f215afe4c4fb", func := "loop.example/g01154/laws.FnExactAdmissibleBasis", spec := "fnExactAdmissibleBasis", recurses := true, plainKeys := false, apart := false }
def FnExactAdmissibleBasisSaid : Prop := fnExactAdmissibleBasisRow.holds Try.pinned (OpenSpec.ofChange fnExactAdmissibleBasisSpec)

/-- ITS FALSE NEIGHBOUR: 'it returns false'. Refute it at one input. -/
def fnExactAdmissibleBasisWrong : ChangeSpec := { name := "fnExactAdmissibleBasis", fn := fun _ => fun
  | [d] => { results := [.lit (.bool false)], args := [d] }
  | _ => none }
def FnExactAdmissibleBasisWrongFalsely : Prop := fnExactAdmissibleBasisRow.holds Try.pinned (OpenSpec.ofChange fnExactAdmissibleBasisWrong)

/-- 'laws.FnExactAdmissibleWithin': WHATEVER THE INPUT: true; the input reads as it did. -/
def fnExactAdmissibleWithinSpec : ChangeSpec := { name := "fnExactAdmissibleWithin", fn := fun _ => fun
  | [d1, d2] => { results := [.lit (.bool true)], args := [d1, d2] }
  | _ => none }
def fnExactAdmissibleWithinRow : OpenClaim := { program := "ytfmnlapnbhcacaa", sum := "b0039996705730c8d08795a66970ea479f0a9a039ac943591f69f215afe4c4fb", func := "loop.example/g01154/laws.FnExactAdmissibleWithin", spec := "fnExactAdmissibleWithin", unfollowed := true, recurses := true, plainKeys := false, apart := false }
def FnExactAdmissibleWithinSaid : Prop := fnExactAdmissibleWithinRow.holds Try.pinned (OpenSpec.ofChange fnExactAdmissibleWithinSpec)

/-- ITS FALSE NEIGHBOUR: 'it returns false'. Refute it at one input. -/
def fnExactAdmissibleWithinWrong : ChangeSpec := { name := "fnExactAdmissibleWithin", fn := fun _ => fun
  | [d1, d2] => { results := [.lit (.bool false)], args := [d1, d2] }
  | _ => none }
def FnExactAdmissibleWithinWrongFalsely : Prop := fnExactAdmissibleWithinRow.holds Try.pinned (OpenSpec.ofChange fnExactAdmissibleWithinWrong)

/-- 'laws.FnExactGeneratorForm': WHATEVER THE INPUT: true; the input reads as it did. -/
def fnExactGeneratorFormSpec : ChangeSpec := { name := "fnExactGeneratorForm", fn := fun _ => fun
  | [d] => { results := [.lit (.bool true)], args := [d] }
  | _ => none }
def fnExactGeneratorFormRow : OpenClaim := { program := "ytfmnlapnbhcacaa", sum := "b0039996705730c8d08795a66970ea479f0a9a039ac943591f69f215afe4c4fb", func := "loop.example/g01154/laws.FnExactGeneratorForm", spec := "fnExactGeneratorForm", unfollowed := true, recurses := true, plainKeys := false, apart := false }
def FnExactGeneratorFormSaid : Prop := fnExactGeneratorFormRow.holds Try.pinned (OpenSpec.ofChange fnExactGeneratorFormSpec)

/-- ITS FALSE NEIGHBOUR: 'it returns false'. Refute it at one input. -/
def fnExactGeneratorFormWrong : ChangeSpec := { name := "fnExactGeneratorForm", fn := fun _ => fun
  | [d] => { results := [.lit (.bool false)], args := [d] }
  | _ => none }
def FnExactGeneratorFormWrongFalsely : Prop := fnExactGeneratorFormRow.holds Try.pinned (OpenSpec.ofChange fnExactGeneratorFormWrong)

/- THE SECOND FORM. 'bulk': how many values and letters a reading holds, each counted each time it is reached (what is shared counts as often as it is met; a slice's spare places count too). A statement '..UptoSaid' is the law's where the arguments, and the package variables that the reading takes, are together of bulk at most 1048576: NARROWER than '..Said'. Prove '..Said' where nothing that the law and all that it calls make is longer than what came in: it says more and counts as full. Else prove '..UptoSaid'. A law counts once. -/
mutual
def uptoBulk {H : Type} : DataW H → Nat
  | .lit (.string bytes) => bytes.length + 1
  | .lit _ => 1
  | .nil => 1
  | .ptr d => uptoBulk d + 1
  | .slice elems spare => uptoBulkAll elems + uptoBulkAll spare + 1
  | .agg parts => uptoBulkAll parts + 1
  | .iface _ d => uptoBulk d + 1
  | .map entries => uptoBulkEntries entries + 1
  | .held _ => 1
def uptoBulkAll {H : Type} : List (DataW H) → Nat
  | [] => 0
  | d :: r => uptoBulk d + uptoBulkAll r
def uptoBulkEntries {H : Type} : List (Lit × DataW H) → Nat
  | [] => 0
  | x :: r => uptoBulkEntry x + uptoBulkEntries r
def uptoBulkEntry {H : Type} : Lit × DataW H → Nat
  | (.string bytes, d) => bytes.length + uptoBulk d + 1
  | (_, d) => uptoBulk d + 1
 end
def uptoSmall : (H : Type) → List (DataW H) → Bool := fun _ ds => decide (uptoBulkAll ds ≤ 1048576)
def OpenSpec.upto (s : _root_.Go.ChangeSpec) : _root_.Go.OpenSpec := { _root_.Go.OpenSpec.ofChange s with cond := some uptoSmall }

/-- 'laws.FnParities', WHERE WHAT IT READS IS OF BULK AT MOST 1048576: true; the input reads as it did. -/
def fnParitiesUptoRow : OpenClaim := { program := "ytfmnlapnbhcacaa", sum := "b0039996705730c8d08795a66970ea479f0a9a039ac943591f69f215afe4c4fb", func := "loop.example/g01154/laws.FnParities", spec := "fnParities", unfollowed := true, recurses := true, plainKeys := false, apart := false, narrowed := true }
def FnParitiesUptoSaid : Prop := fnParitiesUptoRow.holds Try.pinned (OpenSpec.upto fnParitiesSpec)

/-- 'laws.FnExactSumOfTermLists', WHERE WHAT IT READS IS OF BULK AT MOST 1048576: true; the input reads as it did. -/
def fnExactSumOfTermListsUptoRow : OpenClaim := { program := "ytfmnlapnbhcacaa", sum := "b0039996705730c8d08795a66970ea479f0a9a039ac943591f69f215afe4c4fb", func := "loop.example/g01154/laws.FnExactSumOfTermLists", spec := "fnExactSumOfTermLists", unfollowed := true, recurses := true, plainKeys := false, apart := false, narrowed := true }
def FnExactSumOfTermListsUptoSaid : Prop := fnExactSumOfTermListsUptoRow.holds Try.pinned (OpenSpec.upto fnExactSumOfTermListsSpec)

/-- 'laws.FnExactIsSquares', WHERE WHAT IT READS IS OF BULK AT MOST 1048576: true; the input reads as it did. -/
def fnExactIsSquaresUptoRow : OpenClaim := { program := "ytfmnlapnbhcacaa", sum := "b0039996705730c8d08795a66970ea479f0a9a039ac943591f69f215afe4c4fb", func := "loop.example/g01154/laws.FnExactIsSquares", spec := "fnExactIsSquares", plainKeys := false, apart := false, narrowed := true }
def FnExactIsSquaresUptoSaid : Prop := fnExactIsSquaresUptoRow.holds Try.pinned (OpenSpec.upto fnExactIsSquaresSpec)

/-- 'laws.FnExactIsAdmissible', WHERE WHAT IT READS IS OF BULK AT MOST 1048576: true; the input reads as it did. -/
def fnExactIsAdmissibleUptoRow : OpenClaim := { program := "ytfmnlapnbhcacaa", sum := "b0039996705730c8d08795a66970ea479f0a9a039ac943591f69f215afe4c4fb", func := "loop.example/g01154/laws.FnExactIsAdmissible", spec := "fnExactIsAdmissible", plainKeys := false, apart := false, narrowed := true }
def FnExactIsAdmissibleUptoSaid : Prop := fnExactIsAdmissibleUptoRow.holds Try.pinned (OpenSpec.upto fnExactIsAdmissibleSpec)

/-- 'laws.FnExactExcessOf', WHERE WHAT IT READS IS OF BULK AT MOST 1048576: true; the input reads as it did. -/
def fnExactExcessOfUptoRow : OpenClaim := { program := "ytfmnlapnbhcacaa", sum := "b0039996705730c8d08795a66970ea479f0a9a039ac943591f69f215afe4c4fb", func := "loop.example/g01154/laws.FnExactExcessOf", spec := "fnExactExcessOf", plainKeys := false, apart := false, narrowed := true }
def FnExactExcessOfUptoSaid : Prop := fnExactExcessOfUptoRow.holds Try.pinned (OpenSpec.upto fnExactExcessOfSpec)

/-- 'laws.FnExactAdemRelation', WHERE WHAT IT READS IS OF BULK AT MOST 1048576: true; the input reads as it did. -/
def fnExactAdemRelationUptoRow : OpenClaim := { program := "ytfmnlapnbhcacaa", sum := "b0039996705730c8d08795a66970ea479f0a9a039ac943591f69f215afe4c4fb", func := "loop.example/g01154/laws.FnExactAdemRelation", spec := "fnExactAdemRelation", unfollowed := true, recurses := true, plainKeys := false, apart := false, narrowed := true }
def FnExactAdemRelationUptoSaid : Prop := fnExactAdemRelationUptoRow.holds Try.pinned (OpenSpec.upto fnExactAdemRelationSpec)

/-- 'laws.FnExactAddSquares', WHERE WHAT IT READS IS OF BULK AT MOST 1048576: true; the input reads as it did. -/
def fnExactAddSquaresUptoRow : OpenClaim := { program := "ytfmnlapnbhcacaa", sum := "b0039996705730c8d08795a66970ea479f0a9a039ac943591f69f215afe4c4fb", func := "loop.example/g01154/laws.FnExactAddSquares", spec := "fnExactAddSquares", unfollowed := true, recurses := true, plainKeys := false, apart := false, narrowed := true }
def FnExactAddSquaresUptoSaid : Prop := fnExactAddSquaresUptoRow.holds Try.pinned (OpenSpec.upto fnExactAddSquaresSpec)

/-- 'laws.FnExactAdmissibleForm', WHERE WHAT IT READS IS OF BULK AT MOST 1048576: true; the input reads as it did. -/
def fnExactAdmissibleFormUptoRow : OpenClaim := { program := "ytfmnlapnbhcacaa", sum := "b0039996705730c8d08795a66970ea479f0a9a039ac943591f69f215afe4c4fb", func := "loop.example/g01154/laws.FnExactAdmissibleForm", spec := "fnExactAdmissibleForm", unfollowed := true, recurses := true, plainKeys := false, apart := false, narrowed := true }
def FnExactAdmissibleFormUptoSaid : Prop := fnExactAdmissibleFormUptoRow.holds Try.pinned (OpenSpec.upto fnExactAdmissibleFormSpec)

/-- 'laws.FnExactMultiplySquares', WHERE WHAT IT READS IS OF BULK AT MOST 1048576: true; the input reads as it did. -/
def fnExactMultiplySquaresUptoRow : OpenClaim := { program := "ytfmnlapnbhcacaa", sum := "b0039996705730c8d08795a66970ea479f0a9a039ac943591f69f215afe4c4fb", func := "loop.example/g01154/laws.FnExactMultiplySquares", spec := "fnExactMultiplySquares", unfollowed := true, recurses := true, plainKeys := false, apart := false, narrowed := true }
def FnExactMultiplySquaresUptoSaid : Prop := fnExactMultiplySquaresUptoRow.holds Try.pinned (OpenSpec.upto fnExactMultiplySquaresSpec)

/-- 'laws.FnExactAdmissibleBasis', WHERE WHAT IT READS IS OF BULK AT MOST 1048576: true; the input reads as it did. -/
def fnExactAdmissibleBasisUptoRow : OpenClaim := { program := "ytfmnlapnbhcacaa", sum := "b0039996705730c8d08795a66970ea479f0a9a039ac943591f69f215afe4c4fb", func := "loop.example/g01154/laws.FnExactAdmissibleBasis", spec := "fnExactAdmissibleBasis", recurses := true, plainKeys := false, apart := false, narrowed := true }
def FnExactAdmissibleBasisUptoSaid : Prop := fnExactAdmissibleBasisUptoRow.holds Try.pinned (OpenSpec.upto fnExactAdmissibleBasisSpec)

/-- 'laws.FnExactAdmissibleWithin', WHERE WHAT IT READS IS OF BULK AT MOST 1048576: true; the input reads as it did. -/
def fnExactAdmissibleWithinUptoRow : OpenClaim := { program := "ytfmnlapnbhcacaa", sum := "b0039996705730c8d08795a66970ea479f0a9a039ac943591f69f215afe4c4fb", func := "loop.example/g01154/laws.FnExactAdmissibleWithin", spec := "fnExactAdmissibleWithin", unfollowed := true, recurses := true, plainKeys := false, apart := false, narrowed := true }
def FnExactAdmissibleWithinUptoSaid : Prop := fnExactAdmissibleWithinUptoRow.holds Try.pinned (OpenSpec.upto fnExactAdmissibleWithinSpec)

/-- 'laws.FnExactGeneratorForm', WHERE WHAT IT READS IS OF BULK AT MOST 1048576: true; the input reads as it did. -/
def fnExactGeneratorFormUptoRow : OpenClaim := { program := "ytfmnlapnbhcacaa", sum := "b0039996705730c8d08795a66970ea479f0a9a039ac943591f69f215afe4c4fb", func := "loop.example/g01154/laws.FnExactGeneratorForm", spec := "fnExactGeneratorForm", unfollowed := true, recurses := true, plainKeys := false, apart := false, narrowed := true }
def FnExactGeneratorFormUptoSaid : Prop := fnExactGeneratorFormUptoRow.holds Try.pinned (OpenSpec.upto fnExactGeneratorFormSpec)

end Rows
end Go.Proofs.Ytfmnlapnbhcacaa
