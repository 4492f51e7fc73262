/-
  No cell of these rows narrows 'for every input' (looked for: loops, veiled, ifaces, maps, wideKeys, modest, calm, conditions, laid).
  DERIVED. THE GIVEN ROWS OF THIS SEAT. 10 by the template 'for every input the law returns true; each argument reads behind the call as it read before'; 0 by the template 'total and deterministic' (their statements: YtfgkpkdoemnnmaaTotals.lean).
  GIVEN WITH THE SEED: the statements are not yours to turn. If you find one false, say at which input.
  Laid BY PROGRAM, IN A SANDBOX (cutbox-rows.mjs): the forced cells as the released guide's own fill.sh prints them over the translation 5987dd144bdb3112… (all of the seat's roots in one cut). By AI agents, Wed Nov 11 2026. No macro, syntax, notation, axiom, sorry.
-/
import Derived.Test.YtfgkpkdoemnnmaaChecked
import GoSem.Claim
import GoSem.ClaimJoined
import GoSem.ClaimMapViews
import Derived.JoinedTies
import Derived.KernelRfl
namespace Go.Proofs.Ytfgkpkdoemnnmaa
/- THE CELL 'sum', in the pinned program and in every row, IS THE sha256 OF THE DUMP (.gsa) THAT YtfgkpkdoemnnmaaProg.lean LOADS. Nothing in Lean hashes anything: it is a label: what it is worth is what the hold of that sum in a sandbox is worth. -/
noncomputable def Try.pinned : Pinned := { name := "ytfgkpkdoemnnmaa", sum := "5987dd144bdb311273dc2caeabbc5f94e54cadb9e9bcb88b4aee2cc03934cf47", checked := Try.checked }
namespace Rows
def none {H : Type} : Left H := { results := [], args := [] }

/-- 'laws.FnExactMultiplyMilnor': WHATEVER THE INPUT: true; the input reads as it did. -/
def fnExactMultiplyMilnorSpec : ChangeSpec := { name := "fnExactMultiplyMilnor", fn := fun _ => fun
  | [d1, d2] => { results := [.lit (.bool true)], args := [d1, d2] }
  | _ => none }
def fnExactMultiplyMilnorRow : OpenClaim := { program := "ytfgkpkdoemnnmaa", sum := "5987dd144bdb311273dc2caeabbc5f94e54cadb9e9bcb88b4aee2cc03934cf47", func := "loop.example/g01154/laws.FnExactMultiplyMilnor", spec := "fnExactMultiplyMilnor", unfollowed := true, recurses := true, plainKeys := false, apart := false }
def FnExactMultiplyMilnorSaid : Prop := fnExactMultiplyMilnorRow.holds Try.pinned (OpenSpec.ofChange fnExactMultiplyMilnorSpec)

/-- ITS FALSE NEIGHBOUR: 'it returns false'. Refute it at one input. -/
def fnExactMultiplyMilnorWrong : ChangeSpec := { name := "fnExactMultiplyMilnor", fn := fun _ => fun
  | [d1, d2] => { results := [.lit (.bool false)], args := [d1, d2] }
  | _ => none }
def FnExactMultiplyMilnorWrongFalsely : Prop := fnExactMultiplyMilnorRow.holds Try.pinned (OpenSpec.ofChange fnExactMultiplyMilnorWrong)

/-- 'laws.FnExactCommutatorOf': WHATEVER THE INPUT: true; the input reads as it did. -/
def fnExactCommutatorOfSpec : ChangeSpec := { name := "fnExactCommutatorOf", fn := fun _ => fun
  | [d1, d2] => { results := [.lit (.bool true)], args := [d1, d2] }
  | _ => none }
def fnExactCommutatorOfRow : OpenClaim := { program := "ytfgkpkdoemnnmaa", sum := "5987dd144bdb311273dc2caeabbc5f94e54cadb9e9bcb88b4aee2cc03934cf47", func := "loop.example/g01154/laws.FnExactCommutatorOf", spec := "fnExactCommutatorOf", unfollowed := true, recurses := true, plainKeys := false, apart := false }
def FnExactCommutatorOfSaid : Prop := fnExactCommutatorOfRow.holds Try.pinned (OpenSpec.ofChange fnExactCommutatorOfSpec)

/-- ITS FALSE NEIGHBOUR: 'it returns false'. Refute it at one input. -/
def fnExactCommutatorOfWrong : ChangeSpec := { name := "fnExactCommutatorOf", fn := fun _ => fun
  | [d1, d2] => { results := [.lit (.bool false)], args := [d1, d2] }
  | _ => none }
def FnExactCommutatorOfWrongFalsely : Prop := fnExactCommutatorOfRow.holds Try.pinned (OpenSpec.ofChange fnExactCommutatorOfWrong)

/-- 'laws.FnExactPowerOfMilnor': WHATEVER THE INPUT: true; the input reads as it did. -/
def fnExactPowerOfMilnorSpec : ChangeSpec := { name := "fnExactPowerOfMilnor", fn := fun _ => fun
  | [d1, d2] => { results := [.lit (.bool true)], args := [d1, d2] }
  | _ => none }
def fnExactPowerOfMilnorRow : OpenClaim := { program := "ytfgkpkdoemnnmaa", sum := "5987dd144bdb311273dc2caeabbc5f94e54cadb9e9bcb88b4aee2cc03934cf47", func := "loop.example/g01154/laws.FnExactPowerOfMilnor", spec := "fnExactPowerOfMilnor", unfollowed := true, recurses := true, plainKeys := false, apart := false }
def FnExactPowerOfMilnorSaid : Prop := fnExactPowerOfMilnorRow.holds Try.pinned (OpenSpec.ofChange fnExactPowerOfMilnorSpec)

/-- ITS FALSE NEIGHBOUR: 'it returns false'. Refute it at one input. -/
def fnExactPowerOfMilnorWrong : ChangeSpec := { name := "fnExactPowerOfMilnor", fn := fun _ => fun
  | [d1, d2] => { results := [.lit (.bool false)], args := [d1, d2] }
  | _ => none }
def FnExactPowerOfMilnorWrongFalsely : Prop := fnExactPowerOfMilnorRow.holds Try.pinned (OpenSpec.ofChange fnExactPowerOfMilnorWrong)

/-- 'laws.FnExactMilnorOfWord': WHATEVER THE INPUT: true; the input reads as it did. -/
def fnExactMilnorOfWordSpec : ChangeSpec := { name := "fnExactMilnorOfWord", fn := fun _ => fun
  | [d] => { results := [.lit (.bool true)], args := [d] }
  | _ => none }
def fnExactMilnorOfWordRow : OpenClaim := { program := "ytfgkpkdoemnnmaa", sum := "5987dd144bdb311273dc2caeabbc5f94e54cadb9e9bcb88b4aee2cc03934cf47", func := "loop.example/g01154/laws.FnExactMilnorOfWord", spec := "fnExactMilnorOfWord", unfollowed := true, recurses := true, plainKeys := false, apart := false }
def FnExactMilnorOfWordSaid : Prop := fnExactMilnorOfWordRow.holds Try.pinned (OpenSpec.ofChange fnExactMilnorOfWordSpec)

/-- ITS FALSE NEIGHBOUR: 'it returns false'. Refute it at one input. -/
def fnExactMilnorOfWordWrong : ChangeSpec := { name := "fnExactMilnorOfWord", fn := fun _ => fun
  | [d] => { results := [.lit (.bool false)], args := [d] }
  | _ => none }
def FnExactMilnorOfWordWrongFalsely : Prop := fnExactMilnorOfWordRow.holds Try.pinned (OpenSpec.ofChange fnExactMilnorOfWordWrong)

/-- 'laws.FnExactMilnorOfSquares': WHATEVER THE INPUT: true; the input reads as it did. -/
def fnExactMilnorOfSquaresSpec : ChangeSpec := { name := "fnExactMilnorOfSquares", fn := fun _ => fun
  | [d] => { results := [.lit (.bool true)], args := [d] }
  | _ => none }
def fnExactMilnorOfSquaresRow : OpenClaim := { program := "ytfgkpkdoemnnmaa", sum := "5987dd144bdb311273dc2caeabbc5f94e54cadb9e9bcb88b4aee2cc03934cf47", func := "loop.example/g01154/laws.FnExactMilnorOfSquares", spec := "fnExactMilnorOfSquares", unfollowed := true, recurses := true, plainKeys := false, apart := false }
def FnExactMilnorOfSquaresSaid : Prop := fnExactMilnorOfSquaresRow.holds Try.pinned (OpenSpec.ofChange fnExactMilnorOfSquaresSpec)

/-- ITS FALSE NEIGHBOUR: 'it returns false'. Refute it at one input. -/
def fnExactMilnorOfSquaresWrong : ChangeSpec := { name := "fnExactMilnorOfSquares", fn := fun _ => fun
  | [d] => { results := [.lit (.bool false)], args := [d] }
  | _ => none }
def FnExactMilnorOfSquaresWrongFalsely : Prop := fnExactMilnorOfSquaresRow.holds Try.pinned (OpenSpec.ofChange fnExactMilnorOfSquaresWrong)

/-- 'laws.FnExactElementP': WHATEVER THE INPUT: true; the input reads as it did. -/
def fnExactElementPSpec : ChangeSpec := { name := "fnExactElementP", fn := fun _ => fun
  | [d1, d2] => { results := [.lit (.bool true)], args := [d1, d2] }
  | _ => none }
def fnExactElementPRow : OpenClaim := { program := "ytfgkpkdoemnnmaa", sum := "5987dd144bdb311273dc2caeabbc5f94e54cadb9e9bcb88b4aee2cc03934cf47", func := "loop.example/g01154/laws.FnExactElementP", spec := "fnExactElementP", plainKeys := false, apart := false }
def FnExactElementPSaid : Prop := fnExactElementPRow.holds Try.pinned (OpenSpec.ofChange fnExactElementPSpec)

/-- ITS FALSE NEIGHBOUR: 'it returns false'. Refute it at one input. -/
def fnExactElementPWrong : ChangeSpec := { name := "fnExactElementP", fn := fun _ => fun
  | [d1, d2] => { results := [.lit (.bool false)], args := [d1, d2] }
  | _ => none }
def FnExactElementPWrongFalsely : Prop := fnExactElementPRow.holds Try.pinned (OpenSpec.ofChange fnExactElementPWrong)

/-- 'laws.FnExactElementQ': WHATEVER THE INPUT: true; the input reads as it did. -/
def fnExactElementQSpec : ChangeSpec := { name := "fnExactElementQ", fn := fun _ => fun
  | [d] => { results := [.lit (.bool true)], args := [d] }
  | _ => none }
def fnExactElementQRow : OpenClaim := { program := "ytfgkpkdoemnnmaa", sum := "5987dd144bdb311273dc2caeabbc5f94e54cadb9e9bcb88b4aee2cc03934cf47", func := "loop.example/g01154/laws.FnExactElementQ", spec := "fnExactElementQ", plainKeys := false, apart := false }
def FnExactElementQSaid : Prop := fnExactElementQRow.holds Try.pinned (OpenSpec.ofChange fnExactElementQSpec)

/-- ITS FALSE NEIGHBOUR: 'it returns false'. Refute it at one input. -/
def fnExactElementQWrong : ChangeSpec := { name := "fnExactElementQ", fn := fun _ => fun
  | [d] => { results := [.lit (.bool false)], args := [d] }
  | _ => none }
def FnExactElementQWrongFalsely : Prop := fnExactElementQRow.holds Try.pinned (OpenSpec.ofChange fnExactElementQWrong)

/-- 'laws.FnExactExcessOfMilnor': WHATEVER THE INPUT: true; the input reads as it did. -/
def fnExactExcessOfMilnorSpec : ChangeSpec := { name := "fnExactExcessOfMilnor", fn := fun _ => fun
  | [d] => { results := [.lit (.bool true)], args := [d] }
  | _ => none }
def fnExactExcessOfMilnorRow : OpenClaim := { program := "ytfgkpkdoemnnmaa", sum := "5987dd144bdb311273dc2caeabbc5f94e54cadb9e9bcb88b4aee2cc03934cf47", func := "loop.example/g01154/laws.FnExactExcessOfMilnor", spec := "fnExactExcessOfMilnor", plainKeys := false, apart := false }
def FnExactExcessOfMilnorSaid : Prop := fnExactExcessOfMilnorRow.holds Try.pinned (OpenSpec.ofChange fnExactExcessOfMilnorSpec)

/-- ITS FALSE NEIGHBOUR: 'it returns false'. Refute it at one input. -/
def fnExactExcessOfMilnorWrong : ChangeSpec := { name := "fnExactExcessOfMilnor", fn := fun _ => fun
  | [d] => { results := [.lit (.bool false)], args := [d] }
  | _ => none }
def FnExactExcessOfMilnorWrongFalsely : Prop := fnExactExcessOfMilnorRow.holds Try.pinned (OpenSpec.ofChange fnExactExcessOfMilnorWrong)

/-- 'laws.FnExactIsDecomposable': WHATEVER THE INPUT: true; the input reads as it did. -/
def fnExactIsDecomposableSpec : ChangeSpec := { name := "fnExactIsDecomposable", fn := fun _ => fun
  | [d] => { results := [.lit (.bool true)], args := [d] }
  | _ => none }
def fnExactIsDecomposableRow : OpenClaim := { program := "ytfgkpkdoemnnmaa", sum := "5987dd144bdb311273dc2caeabbc5f94e54cadb9e9bcb88b4aee2cc03934cf47", func := "loop.example/g01154/laws.FnExactIsDecomposable", spec := "fnExactIsDecomposable", unfollowed := true, recurses := true, plainKeys := false, apart := false }
def FnExactIsDecomposableSaid : Prop := fnExactIsDecomposableRow.holds Try.pinned (OpenSpec.ofChange fnExactIsDecomposableSpec)

/-- ITS FALSE NEIGHBOUR: 'it returns false'. Refute it at one input. -/
def fnExactIsDecomposableWrong : ChangeSpec := { name := "fnExactIsDecomposable", fn := fun _ => fun
  | [d] => { results := [.lit (.bool false)], args := [d] }
  | _ => none }
def FnExactIsDecomposableWrongFalsely : Prop := fnExactIsDecomposableRow.holds Try.pinned (OpenSpec.ofChange fnExactIsDecomposableWrong)

/-- 'laws.FnExactNilpotenceOf': WHATEVER THE INPUT: true; the input reads as it did. -/
def fnExactNilpotenceOfSpec : ChangeSpec := { name := "fnExactNilpotenceOf", fn := fun _ => fun
  | [d] => { results := [.lit (.bool true)], args := [d] }
  | _ => none }
def fnExactNilpotenceOfRow : OpenClaim := { program := "ytfgkpkdoemnnmaa", sum := "5987dd144bdb311273dc2caeabbc5f94e54cadb9e9bcb88b4aee2cc03934cf47", func := "loop.example/g01154/laws.FnExactNilpotenceOf", spec := "fnExactNilpotenceOf", unfollowed := true, recurses := true, plainKeys := false, apart := false }
def FnExactNilpotenceOfSaid : Prop := fnExactNilpotenceOfRow.holds Try.pinned (OpenSpec.ofChange fnExactNilpotenceOfSpec)

/-- ITS FALSE NEIGHBOUR: 'it returns false'. Refute it at one input. -/
def fnExactNilpotenceOfWrong : ChangeSpec := { name := "fnExactNilpotenceOf", fn := fun _ => fun
  | [d] => { results := [.lit (.bool false)], args := [d] }
  | _ => none }
def FnExactNilpotenceOfWrongFalsely : Prop := fnExactNilpotenceOfRow.holds Try.pinned (OpenSpec.ofChange fnExactNilpotenceOfWrong)

/- THE SECOND FORM. 'bulk': how many values and letters a reading holds, each counted each time it is reached (what is shared counts as often as it is met; a slice's spare places count too). A statement '..UptoSaid' is the law's where the arguments, and the package variables that the reading takes, are together of bulk at most 1048576: NARROWER than '..Said'. Prove '..Said' where nothing that the law and all that it calls make is longer than what came in: it says more and counts as full. Else prove '..UptoSaid'. A law counts once. -/
mutual
def uptoBulk {H : Type} : DataW H → Nat
  | .lit (.string bytes) => bytes.length + 1
  | .lit _ => 1
  | .nil => 1
  | .ptr d => uptoBulk d + 1
  | .slice elems spare => uptoBulkAll elems + uptoBulkAll spare + 1
  | .agg parts => uptoBulkAll parts + 1
  | .iface _ d => uptoBulk d + 1
  | .map entries => uptoBulkEntries entries + 1
  | .held _ => 1
def uptoBulkAll {H : Type} : List (DataW H) → Nat
  | [] => 0
  | d :: r => uptoBulk d + uptoBulkAll r
def uptoBulkEntries {H : Type} : List (Lit × DataW H) → Nat
  | [] => 0
  | x :: r => uptoBulkEntry x + uptoBulkEntries r
def uptoBulkEntry {H : Type} : Lit × DataW H → Nat
  | (.string bytes, d) => bytes.length + uptoBulk d + 1
  | (_, d) => uptoBulk d + 1
 end
def uptoSmall : (H : Type) → List (DataW H) → Bool := fun _ ds => decide (uptoBulkAll ds ≤ 1048576)
def OpenSpec.upto (s : _root_.Go.ChangeSpec) : _root_.Go.OpenSpec := { _root_.Go.OpenSpec.ofChange s with cond := some uptoSmall }

/-- 'laws.FnExactMultiplyMilnor', WHERE WHAT IT READS IS OF BULK AT MOST 1048576: true; the input reads as it did. -/
def fnExactMultiplyMilnorUptoRow : OpenClaim := { program := "ytfgkpkdoemnnmaa", sum := "5987dd144bdb311273dc2caeabbc5f94e54cadb9e9bcb88b4aee2cc03934cf47", func := "loop.example/g01154/laws.FnExactMultiplyMilnor", spec := "fnExactMultiplyMilnor", unfollowed := true, recurses := true, plainKeys := false, apart := false, narrowed := true }
def FnExactMultiplyMilnorUptoSaid : Prop := fnExactMultiplyMilnorUptoRow.holds Try.pinned (OpenSpec.upto fnExactMultiplyMilnorSpec)

/-- 'laws.FnExactCommutatorOf', WHERE WHAT IT READS IS OF BULK AT MOST 1048576: true; the input reads as it did. -/
def fnExactCommutatorOfUptoRow : OpenClaim := { program := "ytfgkpkdoemnnmaa", sum := "5987dd144bdb311273dc2caeabbc5f94e54cadb9e9bcb88b4aee2cc03934cf47", func := "loop.example/g01154/laws.FnExactCommutatorOf", spec := "fnExactCommutatorOf", unfollowed := true, recurses := true, plainKeys := false, apart := false, narrowed := true }
def FnExactCommutatorOfUptoSaid : Prop := fnExactCommutatorOfUptoRow.holds Try.pinned (OpenSpec.upto fnExactCommutatorOfSpec)

/-- 'laws.FnExactPowerOfMilnor', WHERE WHAT IT READS IS OF BULK AT MOST 1048576: true; the input reads as it did. -/
def fnExactPowerOfMilnorUptoRow : OpenClaim := { program := "ytfgkpkdoemnnmaa", sum := "5987dd144bdb311273dc2caeabbc5f94e54cadb9e9bcb88b4aee2cc03934cf47", func := "loop.example/g01154/laws.FnExactPowerOfMilnor", spec := "fnExactPowerOfMilnor", unfollowed := true, recurses := true, plainKeys := false, apart := false, narrowed := true }
def FnExactPowerOfMilnorUptoSaid : Prop := fnExactPowerOfMilnorUptoRow.holds Try.pinned (OpenSpec.upto fnExactPowerOfMilnorSpec)

/-- 'laws.FnExactMilnorOfWord', WHERE WHAT IT READS IS OF BULK AT MOST 1048576: true; the input reads as it did. -/
def fnExactMilnorOfWordUptoRow : OpenClaim := { program := "ytfgkpkdoemnnmaa", sum := "5987dd144bdb311273dc2caeabbc5f94e54cadb9e9bcb88b4aee2cc03934cf47", func := "loop.example/g01154/laws.FnExactMilnorOfWord", spec := "fnExactMilnorOfWord", unfollowed := true, recurses := true, plainKeys := false, apart := false, narrowed := true }
def FnExactMilnorOfWordUptoSaid : Prop := fnExactMilnorOfWordUptoRow.holds Try.pinned (OpenSpec.upto fnExactMilnorOfWordSpec)

/-- 'laws.FnExactMilnorOfSquares', WHERE WHAT IT READS IS OF BULK AT MOST 1048576: true; the input reads as it did. -/
def fnExactMilnorOfSquaresUptoRow : OpenClaim := { program := "ytfgkpkdoemnnmaa", sum := "5987dd144bdb311273dc2caeabbc5f94e54cadb9e9bcb88b4aee2cc03934cf47", func := "loop.example/g01154/laws.FnExactMilnorOfSquares", spec := "fnExactMilnorOfSquares", unfollowed := true, recurses := true, plainKeys := false, apart := false, narrowed := true }
def FnExactMilnorOfSquaresUptoSaid : Prop := fnExactMilnorOfSquaresUptoRow.holds Try.pinned (OpenSpec.upto fnExactMilnorOfSquaresSpec)

/-- 'laws.FnExactElementP', WHERE WHAT IT READS IS OF BULK AT MOST 1048576: true; the input reads as it did. -/
def fnExactElementPUptoRow : OpenClaim := { program := "ytfgkpkdoemnnmaa", sum := "5987dd144bdb311273dc2caeabbc5f94e54cadb9e9bcb88b4aee2cc03934cf47", func := "loop.example/g01154/laws.FnExactElementP", spec := "fnExactElementP", plainKeys := false, apart := false, narrowed := true }
def FnExactElementPUptoSaid : Prop := fnExactElementPUptoRow.holds Try.pinned (OpenSpec.upto fnExactElementPSpec)

/-- 'laws.FnExactElementQ', WHERE WHAT IT READS IS OF BULK AT MOST 1048576: true; the input reads as it did. -/
def fnExactElementQUptoRow : OpenClaim := { program := "ytfgkpkdoemnnmaa", sum := "5987dd144bdb311273dc2caeabbc5f94e54cadb9e9bcb88b4aee2cc03934cf47", func := "loop.example/g01154/laws.FnExactElementQ", spec := "fnExactElementQ", plainKeys := false, apart := false, narrowed := true }
def FnExactElementQUptoSaid : Prop := fnExactElementQUptoRow.holds Try.pinned (OpenSpec.upto fnExactElementQSpec)

/-- 'laws.FnExactExcessOfMilnor', WHERE WHAT IT READS IS OF BULK AT MOST 1048576: true; the input reads as it did. -/
def fnExactExcessOfMilnorUptoRow : OpenClaim := { program := "ytfgkpkdoemnnmaa", sum := "5987dd144bdb311273dc2caeabbc5f94e54cadb9e9bcb88b4aee2cc03934cf47", func := "loop.example/g01154/laws.FnExactExcessOfMilnor", spec := "fnExactExcessOfMilnor", plainKeys := false, apart := false, narrowed := true }
def FnExactExcessOfMilnorUptoSaid : Prop := fnExactExcessOfMilnorUptoRow.holds Try.pinned (OpenSpec.upto fnExactExcessOfMilnorSpec)

/-- 'laws.FnExactIsDecomposable', WHERE WHAT IT READS IS OF BULK AT MOST 1048576: true; the input reads as it did. -/
def fnExactIsDecomposableUptoRow : OpenClaim := { program := "ytfgkpkdoemnnmaa", sum := "5987dd144bdb311273dc2caeabbc5f94e54cadb9e9bcb88b4aee2cc03934cf47", func := "loop.example/g01154/laws.FnExactIsDecomposable", spec := "fnExactIsDecomposable", unfollowed := true, recurses := true, plainKeys := false, apart := false, narrowed := true }
def FnExactIsDecomposableUptoSaid : Prop := fnExactIsDecomposableUptoRow.holds Try.pinned (OpenSpec.upto fnExactIsDecomposableSpec)

/-- 'laws.FnExactNilpotenceOf', WHERE WHAT IT READS IS OF BULK AT MOST 1048576: true; the input reads as it did. -/
def fnExactNilpotenceOfUptoRow : OpenClaim := { program := "ytfgkpkdoemnnmaa", sum := "5987dd144bdb311273dc2caeabbc5f94e54cadb9e9bcb88b4aee2cc03934cf47", func := "loop.example/g01154/laws.FnExactNilpotenceOf", spec := "fnExactNilpotenceOf", unfollowed := true, recurses := true, plainKeys := false, apart := false, narrowed := true }
def FnExactNilpotenceOfUptoSaid : Prop := fnExactNilpotenceOfUptoRow.holds Try.pinned (OpenSpec.upto fnExactNilpotenceOfSpec)

end Rows
end Go.Proofs.Ytfgkpkdoemnnmaa
