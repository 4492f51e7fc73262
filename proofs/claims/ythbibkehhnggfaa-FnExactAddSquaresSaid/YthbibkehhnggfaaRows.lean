/-
  No cell of these rows narrows 'for every input' (looked for: loops, veiled, ifaces, maps, wideKeys, modest, calm, conditions, laid).
  DERIVED. THE GIVEN ROWS OF THIS SEAT. 3 by the template 'for every input the law returns true; each argument reads behind the call as it read before'; 0 by the template 'total and deterministic' (their statements: YthbibkehhnggfaaTotals.lean).
  GIVEN WITH THE SEED: the statements are not yours to turn. If you find one false, say at which input.
  Laid BY PROGRAM, IN A SANDBOX (cutbox-rows.mjs): the forced cells as the released guide's own fill.sh prints them over the translation ca0aef27b815ff7a… (all of the seat's roots in one cut). By AI agents, Wed Nov 11 2026. No macro, syntax, notation, axiom, sorry.
-/
import Derived.Test.YthbibkehhnggfaaChecked
import GoSem.Claim
import GoSem.ClaimJoined
import GoSem.ClaimMapViews
import Derived.JoinedTies
import Derived.KernelRfl
namespace Go.Proofs.Ythbibkehhnggfaa
/- THE CELL 'sum', in the pinned program and in every row, IS THE sha256 OF THE DUMP (.gsa) THAT YthbibkehhnggfaaProg.lean LOADS. Nothing in Lean hashes anything: it is a label: what it is worth is what the hold of that sum in a sandbox is worth. -/
noncomputable def Try.pinned : Pinned := { name := "ythbibkehhnggfaa", sum := "ca0aef27b815ff7a3a2412cc1e95299ed818f8f4cfe31fe8628dd5e1848161b5", checked := Try.checked }
namespace Rows
def none {H : Type} : Left H := { results := [], args := [] }

/-- 'laws.FnExactSumOfTermLists': WHATEVER THE INPUT: true; the input reads as it did. -/
def fnExactSumOfTermListsSpec : ChangeSpec := { name := "fnExactSumOfTermLists", fn := fun _ => fun
  | [d1, d2] => { results := [.lit (.bool true)], args := [d1, d2] }
  | _ => none }
def fnExactSumOfTermListsRow : OpenClaim := { program := "ythbibkehhnggfaa", sum := "ca0aef27b815ff7a3a2412cc1e95299ed818f8f4cfe31fe8628dd5e1848161b5", func := "loop.example/g01154/laws.FnExactSumOfTermLists", spec := "fnExactSumOfTermLists", unfollowed := true, recurses := true, plainKeys := false, apart := false }
def FnExactSumOfTermListsSaid : Prop := fnExactSumOfTermListsRow.holds Try.pinned (OpenSpec.ofChange fnExactSumOfTermListsSpec)

/-- ITS FALSE NEIGHBOUR: 'it returns false'. Refute it at one input. -/
def fnExactSumOfTermListsWrong : ChangeSpec := { name := "fnExactSumOfTermLists", fn := fun _ => fun
  | [d1, d2] => { results := [.lit (.bool false)], args := [d1, d2] }
  | _ => none }
def FnExactSumOfTermListsWrongFalsely : Prop := fnExactSumOfTermListsRow.holds Try.pinned (OpenSpec.ofChange fnExactSumOfTermListsWrong)

/-- 'laws.FnExactAdemRelation': WHATEVER THE INPUT: true; the input reads as it did. -/
def fnExactAdemRelationSpec : ChangeSpec := { name := "fnExactAdemRelation", fn := fun _ => fun
  | [d1, d2] => { results := [.lit (.bool true)], args := [d1, d2] }
  | _ => none }
def fnExactAdemRelationRow : OpenClaim := { program := "ythbibkehhnggfaa", sum := "ca0aef27b815ff7a3a2412cc1e95299ed818f8f4cfe31fe8628dd5e1848161b5", func := "loop.example/g01154/laws.FnExactAdemRelation", spec := "fnExactAdemRelation", unfollowed := true, recurses := true, plainKeys := false, apart := false }
def FnExactAdemRelationSaid : Prop := fnExactAdemRelationRow.holds Try.pinned (OpenSpec.ofChange fnExactAdemRelationSpec)

/-- ITS FALSE NEIGHBOUR: 'it returns false'. Refute it at one input. -/
def fnExactAdemRelationWrong : ChangeSpec := { name := "fnExactAdemRelation", fn := fun _ => fun
  | [d1, d2] => { results := [.lit (.bool false)], args := [d1, d2] }
  | _ => none }
def FnExactAdemRelationWrongFalsely : Prop := fnExactAdemRelationRow.holds Try.pinned (OpenSpec.ofChange fnExactAdemRelationWrong)

/-- 'laws.FnExactAddSquares': WHATEVER THE INPUT: true; the input reads as it did. -/
def fnExactAddSquaresSpec : ChangeSpec := { name := "fnExactAddSquares", fn := fun _ => fun
  | [d1, d2] => { results := [.lit (.bool true)], args := [d1, d2] }
  | _ => none }
def fnExactAddSquaresRow : OpenClaim := { program := "ythbibkehhnggfaa", sum := "ca0aef27b815ff7a3a2412cc1e95299ed818f8f4cfe31fe8628dd5e1848161b5", func := "loop.example/g01154/laws.FnExactAddSquares", spec := "fnExactAddSquares", unfollowed := true, recurses := true, plainKeys := false, apart := false }
def FnExactAddSquaresSaid : Prop := fnExactAddSquaresRow.holds Try.pinned (OpenSpec.ofChange fnExactAddSquaresSpec)

/-- ITS FALSE NEIGHBOUR: 'it returns false'. Refute it at one input. -/
def fnExactAddSquaresWrong : ChangeSpec := { name := "fnExactAddSquares", fn := fun _ => fun
  | [d1, d2] => { results := [.lit (.bool false)], args := [d1, d2] }
  | _ => none }
def FnExactAddSquaresWrongFalsely : Prop := fnExactAddSquaresRow.holds Try.pinned (OpenSpec.ofChange fnExactAddSquaresWrong)

/- THE SECOND FORM. 'bulk': how many values and letters a reading holds, each counted each time it is reached (what is shared counts as often as it is met; a slice's spare places count too). A statement '..UptoSaid' is the law's where the arguments, and the package variables that the reading takes, are together of bulk at most 1048576: NARROWER than '..Said'. Prove '..Said' where nothing that the law and all that it calls make is longer than what came in: it says more and counts as full. Else prove '..UptoSaid'. A law counts once. -/
mutual
def uptoBulk {H : Type} : DataW H → Nat
  | .lit (.string bytes) => bytes.length + 1
  | .lit _ => 1
  | .nil => 1
  | .ptr d => uptoBulk d + 1
  | .slice elems spare => uptoBulkAll elems + uptoBulkAll spare + 1
  | .agg parts => uptoBulkAll parts + 1
  | .iface _ d => uptoBulk d + 1
  | .map entries => uptoBulkEntries entries + 1
  | .held _ => 1
def uptoBulkAll {H : Type} : List (DataW H) → Nat
  | [] => 0
  | d :: r => uptoBulk d + uptoBulkAll r
def uptoBulkEntries {H : Type} : List (Lit × DataW H) → Nat
  | [] => 0
  | x :: r => uptoBulkEntry x + uptoBulkEntries r
def uptoBulkEntry {H : Type} : Lit × DataW H → Nat
  | (.string bytes, d) => bytes.length + uptoBulk d + 1
  | (_, d) => uptoBulk d + 1
 end
def uptoSmall : (H : Type) → List (DataW H) → Bool := fun _ ds => decide (uptoBulkAll ds ≤ 1048576)
def OpenSpec.upto (s : _root_.Go.ChangeSpec) : _root_.Go.OpenSpec := { _root_.Go.OpenSpec.ofChange s with cond := some uptoSmall }

/-- 'laws.FnExactSumOfTermLists', WHERE WHAT IT READS IS OF BULK AT MOST 1048576: true; the input reads as it did. -/
def fnExactSumOfTermListsUptoRow : OpenClaim := { program := "ythbibkehhnggfaa", sum := "ca0aef27b815ff7a3a2412cc1e95299ed818f8f4cfe31fe8628dd5e1848161b5", func := "loop.example/g01154/laws.FnExactSumOfTermLists", spec := "fnExactSumOfTermLists", unfollowed := true, recurses := true, plainKeys := false, apart := false, narrowed := true }
def FnExactSumOfTermListsUptoSaid : Prop := fnExactSumOfTermListsUptoRow.holds Try.pinned (OpenSpec.upto fnExactSumOfTermListsSpec)

/-- 'laws.FnExactAdemRelation', WHERE WHAT IT READS IS OF BULK AT MOST 1048576: true; the input reads as it did. -/
def fnExactAdemRelationUptoRow : OpenClaim := { program := "ythbibkehhnggfaa", sum := "ca0aef27b815ff7a3a2412cc1e95299ed818f8f4cfe31fe8628dd5e1848161b5", func := "loop.example/g01154/laws.FnExactAdemRelation", spec := "fnExactAdemRelation", unfollowed := true, recurses := true, plainKeys := false, apart := false, narrowed := true }
def FnExactAdemRelationUptoSaid : Prop := fnExactAdemRelationUptoRow.holds Try.pinned (OpenSpec.upto fnExactAdemRelationSpec)

/-- 'laws.FnExactAddSquares', WHERE WHAT IT READS IS OF BULK AT MOST 1048576: true; the input reads as it did. -/
def fnExactAddSquaresUptoRow : OpenClaim := { program := "ythbibkehhnggfaa", sum := "ca0aef27b815ff7a3a2412cc1e95299ed818f8f4cfe31fe8628dd5e1848161b5", func := "loop.example/g01154/laws.FnExactAddSquares", spec := "fnExactAddSquares", unfollowed := true, recurses := true, plainKeys := false, apart := false, narrowed := true }
def FnExactAddSquaresUptoSaid : Prop := fnExactAddSquaresUptoRow.holds Try.pinned (OpenSpec.upto fnExactAddSquaresSpec)

end Rows
end Go.Proofs.Ythbibkehhnggfaa
