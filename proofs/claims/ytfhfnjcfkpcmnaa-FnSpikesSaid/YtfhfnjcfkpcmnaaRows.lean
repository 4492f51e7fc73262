/-
  No cell of these rows narrows 'for every input' (looked for: loops, veiled, ifaces, maps, wideKeys, modest, calm, conditions, laid).
  DERIVED. THE GIVEN ROWS OF THIS SEAT. 13 by the template 'for every input the law returns true; each argument reads behind the call as it read before'; 0 by the template 'total and deterministic' (their statements: YtfhfnjcfkpcmnaaTotals.lean).
  GIVEN WITH THE SEED: the statements are not yours to turn. If you find one false, say at which input.
  Laid BY PROGRAM, IN A SANDBOX (cutbox-rows.mjs): the forced cells as the released guide's own fill.sh prints them over the translation 879cfb1f20ce1d66… (all of the seat's roots in one cut). By AI agents, Wed Nov 11 2026. No macro, syntax, notation, axiom, sorry.
-/
import Derived.Test.YtfhfnjcfkpcmnaaChecked
import GoSem.Claim
import GoSem.ClaimJoined
import GoSem.ClaimMapViews
import Derived.JoinedTies
import Derived.KernelRfl
namespace Go.Proofs.Ytfhfnjcfkpcmnaa
/- THE CELL 'sum', in the pinned program and in every row, IS THE sha256 OF THE DUMP (.gsa) THAT YtfhfnjcfkpcmnaaProg.lean LOADS. Nothing in Lean hashes anything: it is a label: what it is worth is what the hold of that sum in a sandbox is worth. -/
noncomputable def Try.pinned : Pinned := { name := "ytfhfnjcfkpcmnaa", sum := "879cfb1f20ce1d666d2a5b38512d6ae48af123b00e086983e077cbe0bd79e445", checked := Try.checked }
namespace Rows
def none {H : Type} : Left H := { results := [], args := [] }

/-- 'laws.FnParities': WHATEVER THE INPUT: true; the input reads as it did. -/
def fnParitiesSpec : ChangeSpec := { name := "fnParities", fn := fun _ => fun
  | [d] => { results := [.lit (.bool true)], args := [d] }
  | _ => none }
def fnParitiesRow : OpenClaim := { program := "ytfhfnjcfkpcmnaa", sum := "879cfb1f20ce1d666d2a5b38512d6ae48af123b00e086983e077cbe0bd79e445", func := "loop.example/g01154/laws.FnParities", spec := "fnParities", unfollowed := true, recurses := true, plainKeys := false, apart := false }
def FnParitiesSaid : Prop := fnParitiesRow.holds Try.pinned (OpenSpec.ofChange fnParitiesSpec)

/-- ITS FALSE NEIGHBOUR: 'it returns false'. Refute it at one input. -/
def fnParitiesWrong : ChangeSpec := { name := "fnParities", fn := fun _ => fun
  | [d] => { results := [.lit (.bool false)], args := [d] }
  | _ => none }
def FnParitiesWrongFalsely : Prop := fnParitiesRow.holds Try.pinned (OpenSpec.ofChange fnParitiesWrong)

/-- 'laws.FnSpikes': WHATEVER THE INPUT: true; the input reads as it did. -/
def fnSpikesSpec : ChangeSpec := { name := "fnSpikes", fn := fun _ => fun
  | [d] => { results := [.lit (.bool true)], args := [d] }
  | _ => none }
def fnSpikesRow : OpenClaim := { program := "ytfhfnjcfkpcmnaa", sum := "879cfb1f20ce1d666d2a5b38512d6ae48af123b00e086983e077cbe0bd79e445", func := "loop.example/g01154/laws.FnSpikes", spec := "fnSpikes", recurses := true, plainKeys := false, apart := false }
def FnSpikesSaid : Prop := fnSpikesRow.holds Try.pinned (OpenSpec.ofChange fnSpikesSpec)

/-- ITS FALSE NEIGHBOUR: 'it returns false'. Refute it at one input. -/
def fnSpikesWrong : ChangeSpec := { name := "fnSpikes", fn := fun _ => fun
  | [d] => { results := [.lit (.bool false)], args := [d] }
  | _ => none }
def FnSpikesWrongFalsely : Prop := fnSpikesRow.holds Try.pinned (OpenSpec.ofChange fnSpikesWrong)

/-- 'laws.FnExactBinomialParity': WHATEVER THE INPUT: true; the input reads as it did. -/
def fnExactBinomialParitySpec : ChangeSpec := { name := "fnExactBinomialParity", fn := fun _ => fun
  | [d1, d2] => { results := [.lit (.bool true)], args := [d1, d2] }
  | _ => none }
def fnExactBinomialParityRow : OpenClaim := { program := "ytfhfnjcfkpcmnaa", sum := "879cfb1f20ce1d666d2a5b38512d6ae48af123b00e086983e077cbe0bd79e445", func := "loop.example/g01154/laws.FnExactBinomialParity", spec := "fnExactBinomialParity", plainKeys := false, apart := false }
def FnExactBinomialParitySaid : Prop := fnExactBinomialParityRow.holds Try.pinned (OpenSpec.ofChange fnExactBinomialParitySpec)

/-- ITS FALSE NEIGHBOUR: 'it returns false'. Refute it at one input. -/
def fnExactBinomialParityWrong : ChangeSpec := { name := "fnExactBinomialParity", fn := fun _ => fun
  | [d1, d2] => { results := [.lit (.bool false)], args := [d1, d2] }
  | _ => none }
def FnExactBinomialParityWrongFalsely : Prop := fnExactBinomialParityRow.holds Try.pinned (OpenSpec.ofChange fnExactBinomialParityWrong)

/-- 'laws.FnExactMultinomialParity': WHATEVER THE INPUT: true; the input reads as it did. -/
def fnExactMultinomialParitySpec : ChangeSpec := { name := "fnExactMultinomialParity", fn := fun _ => fun
  | [d] => { results := [.lit (.bool true)], args := [d] }
  | _ => none }
def fnExactMultinomialParityRow : OpenClaim := { program := "ytfhfnjcfkpcmnaa", sum := "879cfb1f20ce1d666d2a5b38512d6ae48af123b00e086983e077cbe0bd79e445", func := "loop.example/g01154/laws.FnExactMultinomialParity", spec := "fnExactMultinomialParity", plainKeys := false, apart := false }
def FnExactMultinomialParitySaid : Prop := fnExactMultinomialParityRow.holds Try.pinned (OpenSpec.ofChange fnExactMultinomialParitySpec)

/-- ITS FALSE NEIGHBOUR: 'it returns false'. Refute it at one input. -/
def fnExactMultinomialParityWrong : ChangeSpec := { name := "fnExactMultinomialParity", fn := fun _ => fun
  | [d] => { results := [.lit (.bool false)], args := [d] }
  | _ => none }
def FnExactMultinomialParityWrongFalsely : Prop := fnExactMultinomialParityRow.holds Try.pinned (OpenSpec.ofChange fnExactMultinomialParityWrong)

/-- 'laws.FnExactOnesIn': WHATEVER THE INPUT: true; the input reads as it did. -/
def fnExactOnesInSpec : ChangeSpec := { name := "fnExactOnesIn", fn := fun _ => fun
  | [d] => { results := [.lit (.bool true)], args := [d] }
  | _ => none }
def fnExactOnesInRow : OpenClaim := { program := "ytfhfnjcfkpcmnaa", sum := "879cfb1f20ce1d666d2a5b38512d6ae48af123b00e086983e077cbe0bd79e445", func := "loop.example/g01154/laws.FnExactOnesIn", spec := "fnExactOnesIn", plainKeys := false, apart := false }
def FnExactOnesInSaid : Prop := fnExactOnesInRow.holds Try.pinned (OpenSpec.ofChange fnExactOnesInSpec)

/-- ITS FALSE NEIGHBOUR: 'it returns false'. Refute it at one input. -/
def fnExactOnesInWrong : ChangeSpec := { name := "fnExactOnesIn", fn := fun _ => fun
  | [d] => { results := [.lit (.bool false)], args := [d] }
  | _ => none }
def FnExactOnesInWrongFalsely : Prop := fnExactOnesInRow.holds Try.pinned (OpenSpec.ofChange fnExactOnesInWrong)

/-- 'laws.FnExactDigitsOf': WHATEVER THE INPUT: true; the input reads as it did. -/
def fnExactDigitsOfSpec : ChangeSpec := { name := "fnExactDigitsOf", fn := fun _ => fun
  | [d] => { results := [.lit (.bool true)], args := [d] }
  | _ => none }
def fnExactDigitsOfRow : OpenClaim := { program := "ytfhfnjcfkpcmnaa", sum := "879cfb1f20ce1d666d2a5b38512d6ae48af123b00e086983e077cbe0bd79e445", func := "loop.example/g01154/laws.FnExactDigitsOf", spec := "fnExactDigitsOf", plainKeys := false, apart := false }
def FnExactDigitsOfSaid : Prop := fnExactDigitsOfRow.holds Try.pinned (OpenSpec.ofChange fnExactDigitsOfSpec)

/-- ITS FALSE NEIGHBOUR: 'it returns false'. Refute it at one input. -/
def fnExactDigitsOfWrong : ChangeSpec := { name := "fnExactDigitsOf", fn := fun _ => fun
  | [d] => { results := [.lit (.bool false)], args := [d] }
  | _ => none }
def FnExactDigitsOfWrongFalsely : Prop := fnExactDigitsOfRow.holds Try.pinned (OpenSpec.ofChange fnExactDigitsOfWrong)

/-- 'laws.FnExactDegreeOf': WHATEVER THE INPUT: true; the input reads as it did. -/
def fnExactDegreeOfSpec : ChangeSpec := { name := "fnExactDegreeOf", fn := fun _ => fun
  | [d] => { results := [.lit (.bool true)], args := [d] }
  | _ => none }
def fnExactDegreeOfRow : OpenClaim := { program := "ytfhfnjcfkpcmnaa", sum := "879cfb1f20ce1d666d2a5b38512d6ae48af123b00e086983e077cbe0bd79e445", func := "loop.example/g01154/laws.FnExactDegreeOf", spec := "fnExactDegreeOf", plainKeys := false, apart := false }
def FnExactDegreeOfSaid : Prop := fnExactDegreeOfRow.holds Try.pinned (OpenSpec.ofChange fnExactDegreeOfSpec)

/-- ITS FALSE NEIGHBOUR: 'it returns false'. Refute it at one input. -/
def fnExactDegreeOfWrong : ChangeSpec := { name := "fnExactDegreeOf", fn := fun _ => fun
  | [d] => { results := [.lit (.bool false)], args := [d] }
  | _ => none }
def FnExactDegreeOfWrongFalsely : Prop := fnExactDegreeOfRow.holds Try.pinned (OpenSpec.ofChange fnExactDegreeOfWrong)

/-- 'laws.FnExactPartitionsOf': WHATEVER THE INPUT: true; the input reads as it did. -/
def fnExactPartitionsOfSpec : ChangeSpec := { name := "fnExactPartitionsOf", fn := fun _ => fun
  | [d] => { results := [.lit (.bool true)], args := [d] }
  | _ => none }
def fnExactPartitionsOfRow : OpenClaim := { program := "ytfhfnjcfkpcmnaa", sum := "879cfb1f20ce1d666d2a5b38512d6ae48af123b00e086983e077cbe0bd79e445", func := "loop.example/g01154/laws.FnExactPartitionsOf", spec := "fnExactPartitionsOf", recurses := true, plainKeys := false, apart := false }
def FnExactPartitionsOfSaid : Prop := fnExactPartitionsOfRow.holds Try.pinned (OpenSpec.ofChange fnExactPartitionsOfSpec)

/-- ITS FALSE NEIGHBOUR: 'it returns false'. Refute it at one input. -/
def fnExactPartitionsOfWrong : ChangeSpec := { name := "fnExactPartitionsOf", fn := fun _ => fun
  | [d] => { results := [.lit (.bool false)], args := [d] }
  | _ => none }
def FnExactPartitionsOfWrongFalsely : Prop := fnExactPartitionsOfRow.holds Try.pinned (OpenSpec.ofChange fnExactPartitionsOfWrong)

/-- 'laws.FnExactCountPartitions': WHATEVER THE INPUT: true; the input reads as it did. -/
def fnExactCountPartitionsSpec : ChangeSpec := { name := "fnExactCountPartitions", fn := fun _ => fun
  | [d] => { results := [.lit (.bool true)], args := [d] }
  | _ => none }
def fnExactCountPartitionsRow : OpenClaim := { program := "ytfhfnjcfkpcmnaa", sum := "879cfb1f20ce1d666d2a5b38512d6ae48af123b00e086983e077cbe0bd79e445", func := "loop.example/g01154/laws.FnExactCountPartitions", spec := "fnExactCountPartitions", plainKeys := false, apart := false }
def FnExactCountPartitionsSaid : Prop := fnExactCountPartitionsRow.holds Try.pinned (OpenSpec.ofChange fnExactCountPartitionsSpec)

/-- ITS FALSE NEIGHBOUR: 'it returns false'. Refute it at one input. -/
def fnExactCountPartitionsWrong : ChangeSpec := { name := "fnExactCountPartitions", fn := fun _ => fun
  | [d] => { results := [.lit (.bool false)], args := [d] }
  | _ => none }
def FnExactCountPartitionsWrongFalsely : Prop := fnExactCountPartitionsRow.holds Try.pinned (OpenSpec.ofChange fnExactCountPartitionsWrong)

/-- 'laws.FnExactLeastSpike': WHATEVER THE INPUT: true; the input reads as it did. -/
def fnExactLeastSpikeSpec : ChangeSpec := { name := "fnExactLeastSpike", fn := fun _ => fun
  | [d] => { results := [.lit (.bool true)], args := [d] }
  | _ => none }
def fnExactLeastSpikeRow : OpenClaim := { program := "ytfhfnjcfkpcmnaa", sum := "879cfb1f20ce1d666d2a5b38512d6ae48af123b00e086983e077cbe0bd79e445", func := "loop.example/g01154/laws.FnExactLeastSpike", spec := "fnExactLeastSpike", plainKeys := false, apart := false }
def FnExactLeastSpikeSaid : Prop := fnExactLeastSpikeRow.holds Try.pinned (OpenSpec.ofChange fnExactLeastSpikeSpec)

/-- ITS FALSE NEIGHBOUR: 'it returns false'. Refute it at one input. -/
def fnExactLeastSpikeWrong : ChangeSpec := { name := "fnExactLeastSpike", fn := fun _ => fun
  | [d] => { results := [.lit (.bool false)], args := [d] }
  | _ => none }
def FnExactLeastSpikeWrongFalsely : Prop := fnExactLeastSpikeRow.holds Try.pinned (OpenSpec.ofChange fnExactLeastSpikeWrong)

/-- 'laws.FnExactSpikesOf': WHATEVER THE INPUT: true; the input reads as it did. -/
def fnExactSpikesOfSpec : ChangeSpec := { name := "fnExactSpikesOf", fn := fun _ => fun
  | [d] => { results := [.lit (.bool true)], args := [d] }
  | _ => none }
def fnExactSpikesOfRow : OpenClaim := { program := "ytfhfnjcfkpcmnaa", sum := "879cfb1f20ce1d666d2a5b38512d6ae48af123b00e086983e077cbe0bd79e445", func := "loop.example/g01154/laws.FnExactSpikesOf", spec := "fnExactSpikesOf", recurses := true, plainKeys := false, apart := false }
def FnExactSpikesOfSaid : Prop := fnExactSpikesOfRow.holds Try.pinned (OpenSpec.ofChange fnExactSpikesOfSpec)

/-- ITS FALSE NEIGHBOUR: 'it returns false'. Refute it at one input. -/
def fnExactSpikesOfWrong : ChangeSpec := { name := "fnExactSpikesOf", fn := fun _ => fun
  | [d] => { results := [.lit (.bool false)], args := [d] }
  | _ => none }
def FnExactSpikesOfWrongFalsely : Prop := fnExactSpikesOfRow.holds Try.pinned (OpenSpec.ofChange fnExactSpikesOfWrong)

/-- 'laws.FnExactIsTermList': WHATEVER THE INPUT: true; the input reads as it did. -/
def fnExactIsTermListSpec : ChangeSpec := { name := "fnExactIsTermList", fn := fun _ => fun
  | [d] => { results := [.lit (.bool true)], args := [d] }
  | _ => none }
def fnExactIsTermListRow : OpenClaim := { program := "ytfhfnjcfkpcmnaa", sum := "879cfb1f20ce1d666d2a5b38512d6ae48af123b00e086983e077cbe0bd79e445", func := "loop.example/g01154/laws.FnExactIsTermList", spec := "fnExactIsTermList", plainKeys := false, apart := false }
def FnExactIsTermListSaid : Prop := fnExactIsTermListRow.holds Try.pinned (OpenSpec.ofChange fnExactIsTermListSpec)

/-- ITS FALSE NEIGHBOUR: 'it returns false'. Refute it at one input. -/
def fnExactIsTermListWrong : ChangeSpec := { name := "fnExactIsTermList", fn := fun _ => fun
  | [d] => { results := [.lit (.bool false)], args := [d] }
  | _ => none }
def FnExactIsTermListWrongFalsely : Prop := fnExactIsTermListRow.holds Try.pinned (OpenSpec.ofChange fnExactIsTermListWrong)

/-- 'laws.FnExactSumOfTermLists': WHATEVER THE INPUT: true; the input reads as it did. -/
def fnExactSumOfTermListsSpec : ChangeSpec := { name := "fnExactSumOfTermLists", fn := fun _ => fun
  | [d1, d2] => { results := [.lit (.bool true)], args := [d1, d2] }
  | _ => none }
def fnExactSumOfTermListsRow : OpenClaim := { program := "ytfhfnjcfkpcmnaa", sum := "879cfb1f20ce1d666d2a5b38512d6ae48af123b00e086983e077cbe0bd79e445", func := "loop.example/g01154/laws.FnExactSumOfTermLists", spec := "fnExactSumOfTermLists", unfollowed := true, recurses := true, plainKeys := false, apart := false }
def FnExactSumOfTermListsSaid : Prop := fnExactSumOfTermListsRow.holds Try.pinned (OpenSpec.ofChange fnExactSumOfTermListsSpec)

/-- ITS FALSE NEIGHBOUR: 'it returns false'. Refute it at one input. -/
def fnExactSumOfTermListsWrong : ChangeSpec := { name := "fnExactSumOfTermLists", fn := fun _ => fun
  | [d1, d2] => { results := [.lit (.bool false)], args := [d1, d2] }
  | _ => none }
def FnExactSumOfTermListsWrongFalsely : Prop := fnExactSumOfTermListsRow.holds Try.pinned (OpenSpec.ofChange fnExactSumOfTermListsWrong)

/- THE SECOND FORM. 'bulk': how many values and letters a reading holds, each counted each time it is reached (what is shared counts as often as it is met; a slice's spare places count too). A statement '..UptoSaid' is the law's where the arguments, and the package variables that the reading takes, are together of bulk at most 1048576: NARROWER than '..Said'. Prove '..Said' where nothing that the law and all that it calls make is longer than what came in: it says more and counts as full. Else prove '..UptoSaid'. A law counts once. -/
mutual
def uptoBulk {H : Type} : DataW H → Nat
  | .lit (.string bytes) => bytes.length + 1
  | .lit _ => 1
  | .nil => 1
  | .ptr d => uptoBulk d + 1
  | .slice elems spare => uptoBulkAll elems + uptoBulkAll spare + 1
  | .agg parts => uptoBulkAll parts + 1
  | .iface _ d => uptoBulk d + 1
  | .map entries => uptoBulkEntries entries + 1
  | .held _ => 1
def uptoBulkAll {H : Type} : List (DataW H) → Nat
  | [] => 0
  | d :: r => uptoBulk d + uptoBulkAll r
def uptoBulkEntries {H : Type} : List (Lit × DataW H) → Nat
  | [] => 0
  | x :: r => uptoBulkEntry x + uptoBulkEntries r
def uptoBulkEntry {H : Type} : Lit × DataW H → Nat
  | (.string bytes, d) => bytes.length + uptoBulk d + 1
  | (_, d) => uptoBulk d + 1
 end
def uptoSmall : (H : Type) → List (DataW H) → Bool := fun _ ds => decide (uptoBulkAll ds ≤ 1048576)
def OpenSpec.upto (s : _root_.Go.ChangeSpec) : _root_.Go.OpenSpec := { _root_.Go.OpenSpec.ofChange s with cond := some uptoSmall }

/-- 'laws.FnParities', WHERE WHAT IT READS IS OF BULK AT MOST 1048576: true; the input reads as it did. -/
def fnParitiesUptoRow : OpenClaim := { program := "ytfhfnjcfkpcmnaa", sum := "879cfb1f20ce1d666d2a5b38512d6ae48af123b00e086983e077cbe0bd79e445", func := "loop.example/g01154/laws.FnParities", spec := "fnParities", unfollowed := true, recurses := true, plainKeys := false, apart := false, narrowed := true }
def FnParitiesUptoSaid : Prop := fnParitiesUptoRow.holds Try.pinned (OpenSpec.upto fnParitiesSpec)

/-- 'laws.FnSpikes', WHERE WHAT IT READS IS OF BULK AT MOST 1048576: true; the input reads as it did. -/
def fnSpikesUptoRow : OpenClaim := { program := "ytfhfnjcfkpcmnaa", sum := "879cfb1f20ce1d666d2a5b38512d6ae48af123b00e086983e077cbe0bd79e445", func := "loop.example/g01154/laws.FnSpikes", spec := "fnSpikes", recurses := true, plainKeys := false, apart := false, narrowed := true }
def FnSpikesUptoSaid : Prop := fnSpikesUptoRow.holds Try.pinned (OpenSpec.upto fnSpikesSpec)

/-- 'laws.FnExactBinomialParity', WHERE WHAT IT READS IS OF BULK AT MOST 1048576: true; the input reads as it did. -/
def fnExactBinomialParityUptoRow : OpenClaim := { program := "ytfhfnjcfkpcmnaa", sum := "879cfb1f20ce1d666d2a5b38512d6ae48af123b00e086983e077cbe0bd79e445", func := "loop.example/g01154/laws.FnExactBinomialParity", spec := "fnExactBinomialParity", plainKeys := false, apart := false, narrowed := true }
def FnExactBinomialParityUptoSaid : Prop := fnExactBinomialParityUptoRow.holds Try.pinned (OpenSpec.upto fnExactBinomialParitySpec)

/-- 'laws.FnExactMultinomialParity', WHERE WHAT IT READS IS OF BULK AT MOST 1048576: true; the input reads as it did. -/
def fnExactMultinomialParityUptoRow : OpenClaim := { program := "ytfhfnjcfkpcmnaa", sum := "879cfb1f20ce1d666d2a5b38512d6ae48af123b00e086983e077cbe0bd79e445", func := "loop.example/g01154/laws.FnExactMultinomialParity", spec := "fnExactMultinomialParity", plainKeys := false, apart := false, narrowed := true }
def FnExactMultinomialParityUptoSaid : Prop := fnExactMultinomialParityUptoRow.holds Try.pinned (OpenSpec.upto fnExactMultinomialParitySpec)

/-- 'laws.FnExactOnesIn', WHERE WHAT IT READS IS OF BULK AT MOST 1048576: true; the input reads as it did. -/
def fnExactOnesInUptoRow : OpenClaim := { program := "ytfhfnjcfkpcmnaa", sum := "879cfb1f20ce1d666d2a5b38512d6ae48af123b00e086983e077cbe0bd79e445", func := "loop.example/g01154/laws.FnExactOnesIn", spec := "fnExactOnesIn", plainKeys := false, apart := false, narrowed := true }
def FnExactOnesInUptoSaid : Prop := fnExactOnesInUptoRow.holds Try.pinned (OpenSpec.upto fnExactOnesInSpec)

/-- 'laws.FnExactDigitsOf', WHERE WHAT IT READS IS OF BULK AT MOST 1048576: true; the input reads as it did. -/
def fnExactDigitsOfUptoRow : OpenClaim := { program := "ytfhfnjcfkpcmnaa", sum := "879cfb1f20ce1d666d2a5b38512d6ae48af123b00e086983e077cbe0bd79e445", func := "loop.example/g01154/laws.FnExactDigitsOf", spec := "fnExactDigitsOf", plainKeys := false, apart := false, narrowed := true }
def FnExactDigitsOfUptoSaid : Prop := fnExactDigitsOfUptoRow.holds Try.pinned (OpenSpec.upto fnExactDigitsOfSpec)

/-- 'laws.FnExactDegreeOf', WHERE WHAT IT READS IS OF BULK AT MOST 1048576: true; the input reads as it did. -/
def fnExactDegreeOfUptoRow : OpenClaim := { program := "ytfhfnjcfkpcmnaa", sum := "879cfb1f20ce1d666d2a5b38512d6ae48af123b00e086983e077cbe0bd79e445", func := "loop.example/g01154/laws.FnExactDegreeOf", spec := "fnExactDegreeOf", plainKeys := false, apart := false, narrowed := true }
def FnExactDegreeOfUptoSaid : Prop := fnExactDegreeOfUptoRow.holds Try.pinned (OpenSpec.upto fnExactDegreeOfSpec)

/-- 'laws.FnExactPartitionsOf', WHERE WHAT IT READS IS OF BULK AT MOST 1048576: true; the input reads as it did. -/
def fnExactPartitionsOfUptoRow : OpenClaim := { program := "ytfhfnjcfkpcmnaa", sum := "879cfb1f20ce1d666d2a5b38512d6ae48af123b00e086983e077cbe0bd79e445", func := "loop.example/g01154/laws.FnExactPartitionsOf", spec := "fnExactPartitionsOf", recurses := true, plainKeys := false, apart := false, narrowed := true }
def FnExactPartitionsOfUptoSaid : Prop := fnExactPartitionsOfUptoRow.holds Try.pinned (OpenSpec.upto fnExactPartitionsOfSpec)

/-- 'laws.FnExactCountPartitions', WHERE WHAT IT READS IS OF BULK AT MOST 1048576: true; the input reads as it did. -/
def fnExactCountPartitionsUptoRow : OpenClaim := { program := "ytfhfnjcfkpcmnaa", sum := "879cfb1f20ce1d666d2a5b38512d6ae48af123b00e086983e077cbe0bd79e445", func := "loop.example/g01154/laws.FnExactCountPartitions", spec := "fnExactCountPartitions", plainKeys := false, apart := false, narrowed := true }
def FnExactCountPartitionsUptoSaid : Prop := fnExactCountPartitionsUptoRow.holds Try.pinned (OpenSpec.upto fnExactCountPartitionsSpec)

/-- 'laws.FnExactLeastSpike', WHERE WHAT IT READS IS OF BULK AT MOST 1048576: true; the input reads as it did. -/
def fnExactLeastSpikeUptoRow : OpenClaim := { program := "ytfhfnjcfkpcmnaa", sum := "879cfb1f20ce1d666d2a5b38512d6ae48af123b00e086983e077cbe0bd79e445", func := "loop.example/g01154/laws.FnExactLeastSpike", spec := "fnExactLeastSpike", plainKeys := false, apart := false, narrowed := true }
def FnExactLeastSpikeUptoSaid : Prop := fnExactLeastSpikeUptoRow.holds Try.pinned (OpenSpec.upto fnExactLeastSpikeSpec)

/-- 'laws.FnExactSpikesOf', WHERE WHAT IT READS IS OF BULK AT MOST 1048576: true; the input reads as it did. -/
def fnExactSpikesOfUptoRow : OpenClaim := { program := "ytfhfnjcfkpcmnaa", sum := "879cfb1f20ce1d666d2a5b38512d6ae48af123b00e086983e077cbe0bd79e445", func := "loop.example/g01154/laws.FnExactSpikesOf", spec := "fnExactSpikesOf", recurses := true, plainKeys := false, apart := false, narrowed := true }
def FnExactSpikesOfUptoSaid : Prop := fnExactSpikesOfUptoRow.holds Try.pinned (OpenSpec.upto fnExactSpikesOfSpec)

/-- 'laws.FnExactIsTermList', WHERE WHAT IT READS IS OF BULK AT MOST 1048576: true; the input reads as it did. -/
def fnExactIsTermListUptoRow : OpenClaim := { program := "ytfhfnjcfkpcmnaa", sum := "879cfb1f20ce1d666d2a5b38512d6ae48af123b00e086983e077cbe0bd79e445", func := "loop.example/g01154/laws.FnExactIsTermList", spec := "fnExactIsTermList", plainKeys := false, apart := false, narrowed := true }
def FnExactIsTermListUptoSaid : Prop := fnExactIsTermListUptoRow.holds Try.pinned (OpenSpec.upto fnExactIsTermListSpec)

/-- 'laws.FnExactSumOfTermLists', WHERE WHAT IT READS IS OF BULK AT MOST 1048576: true; the input reads as it did. -/
def fnExactSumOfTermListsUptoRow : OpenClaim := { program := "ytfhfnjcfkpcmnaa", sum := "879cfb1f20ce1d666d2a5b38512d6ae48af123b00e086983e077cbe0bd79e445", func := "loop.example/g01154/laws.FnExactSumOfTermLists", spec := "fnExactSumOfTermLists", unfollowed := true, recurses := true, plainKeys := false, apart := false, narrowed := true }
def FnExactSumOfTermListsUptoSaid : Prop := fnExactSumOfTermListsUptoRow.holds Try.pinned (OpenSpec.upto fnExactSumOfTermListsSpec)

end Rows
end Go.Proofs.Ytfhfnjcfkpcmnaa
