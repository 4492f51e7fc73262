/-
  No cell of these rows narrows 'for every input' (looked for: loops, veiled, ifaces, maps, wideKeys, modest, calm, conditions, laid).
  DERIVED. THE GIVEN ROWS OF THIS SEAT. 6 by the template 'for every input the law returns true; each argument reads behind the call as it read before'; 0 by the template 'total and deterministic' (their statements: YtdojblmffmefgaaTotals.lean).
  GIVEN WITH THE SEED: the statements are not yours to turn. If you find one false, say at which input.
  Laid BY PROGRAM, IN A SANDBOX (cutbox-rows.mjs): the forced cells as the released guide's own fill.sh prints them over the translation 6b819bffedc7bfd7… (all of the seat's roots in one cut). By AI agents, Wed Nov 11 2026. No macro, syntax, notation, axiom, sorry.
-/
import Derived.Test.YtdojblmffmefgaaChecked
import GoSem.Claim
import GoSem.ClaimJoined
import GoSem.ClaimMapViews
import Derived.JoinedTies
import Derived.KernelRfl
namespace Go.Proofs.Ytdojblmffmefgaa
/- THE CELL 'sum', in the pinned program and in every row, IS THE sha256 OF THE DUMP (.gsa) THAT YtdojblmffmefgaaProg.lean LOADS. Nothing in Lean hashes anything: it is a label: what it is worth is what the hold of that sum in a sandbox is worth. -/
noncomputable def Try.pinned : Pinned := { name := "ytdojblmffmefgaa", sum := "6b819bffedc7bfd73686c88cedcda74c5361cd5cc7f1f56f1781649d00e64fc8", checked := Try.checked }
namespace Rows
def none {H : Type} : Left H := { results := [], args := [] }

/-- 'laws.FnExactIsMatrix': WHATEVER THE INPUT: true; the input reads as it did. -/
def fnExactIsMatrixSpec : ChangeSpec := { name := "fnExactIsMatrix", fn := fun _ => fun
  | [d] => { results := [.lit (.bool true)], args := [d] }
  | _ => none }
def fnExactIsMatrixRow : OpenClaim := { program := "ytdojblmffmefgaa", sum := "6b819bffedc7bfd73686c88cedcda74c5361cd5cc7f1f56f1781649d00e64fc8", func := "loop.example/g01154/laws.FnExactIsMatrix", spec := "fnExactIsMatrix", apart := false }
def FnExactIsMatrixSaid : Prop := fnExactIsMatrixRow.holds Try.pinned (OpenSpec.ofChange fnExactIsMatrixSpec)

/-- ITS FALSE NEIGHBOUR: 'it returns false'. Refute it at one input. -/
def fnExactIsMatrixWrong : ChangeSpec := { name := "fnExactIsMatrix", fn := fun _ => fun
  | [d] => { results := [.lit (.bool false)], args := [d] }
  | _ => none }
def FnExactIsMatrixWrongFalsely : Prop := fnExactIsMatrixRow.holds Try.pinned (OpenSpec.ofChange fnExactIsMatrixWrong)

/-- 'laws.FnExactMatrixOfLists': WHATEVER THE INPUT: true; the input reads as it did. -/
def fnExactMatrixOfListsSpec : ChangeSpec := { name := "fnExactMatrixOfLists", fn := fun _ => fun
  | [d1, d2] => { results := [.lit (.bool true)], args := [d1, d2] }
  | _ => none }
def fnExactMatrixOfListsRow : OpenClaim := { program := "ytdojblmffmefgaa", sum := "6b819bffedc7bfd73686c88cedcda74c5361cd5cc7f1f56f1781649d00e64fc8", func := "loop.example/g01154/laws.FnExactMatrixOfLists", spec := "fnExactMatrixOfLists", apart := false }
def FnExactMatrixOfListsSaid : Prop := fnExactMatrixOfListsRow.holds Try.pinned (OpenSpec.ofChange fnExactMatrixOfListsSpec)

/-- ITS FALSE NEIGHBOUR: 'it returns false'. Refute it at one input. -/
def fnExactMatrixOfListsWrong : ChangeSpec := { name := "fnExactMatrixOfLists", fn := fun _ => fun
  | [d1, d2] => { results := [.lit (.bool false)], args := [d1, d2] }
  | _ => none }
def FnExactMatrixOfListsWrongFalsely : Prop := fnExactMatrixOfListsRow.holds Try.pinned (OpenSpec.ofChange fnExactMatrixOfListsWrong)

/-- 'laws.FnExactListsOfMatrix': WHATEVER THE INPUT: true; the input reads as it did. -/
def fnExactListsOfMatrixSpec : ChangeSpec := { name := "fnExactListsOfMatrix", fn := fun _ => fun
  | [d] => { results := [.lit (.bool true)], args := [d] }
  | _ => none }
def fnExactListsOfMatrixRow : OpenClaim := { program := "ytdojblmffmefgaa", sum := "6b819bffedc7bfd73686c88cedcda74c5361cd5cc7f1f56f1781649d00e64fc8", func := "loop.example/g01154/laws.FnExactListsOfMatrix", spec := "fnExactListsOfMatrix", apart := false }
def FnExactListsOfMatrixSaid : Prop := fnExactListsOfMatrixRow.holds Try.pinned (OpenSpec.ofChange fnExactListsOfMatrixSpec)

/-- ITS FALSE NEIGHBOUR: 'it returns false'. Refute it at one input. -/
def fnExactListsOfMatrixWrong : ChangeSpec := { name := "fnExactListsOfMatrix", fn := fun _ => fun
  | [d] => { results := [.lit (.bool false)], args := [d] }
  | _ => none }
def FnExactListsOfMatrixWrongFalsely : Prop := fnExactListsOfMatrixRow.holds Try.pinned (OpenSpec.ofChange fnExactListsOfMatrixWrong)

/-- 'laws.FnExactTimesRow': WHATEVER THE INPUT: true; the input reads as it did. -/
def fnExactTimesRowSpec : ChangeSpec := { name := "fnExactTimesRow", fn := fun _ => fun
  | [d1, d2] => { results := [.lit (.bool true)], args := [d1, d2] }
  | _ => none }
def fnExactTimesRowRow : OpenClaim := { program := "ytdojblmffmefgaa", sum := "6b819bffedc7bfd73686c88cedcda74c5361cd5cc7f1f56f1781649d00e64fc8", func := "loop.example/g01154/laws.FnExactTimesRow", spec := "fnExactTimesRow", apart := false }
def FnExactTimesRowSaid : Prop := fnExactTimesRowRow.holds Try.pinned (OpenSpec.ofChange fnExactTimesRowSpec)

/-- ITS FALSE NEIGHBOUR: 'it returns false'. Refute it at one input. -/
def fnExactTimesRowWrong : ChangeSpec := { name := "fnExactTimesRow", fn := fun _ => fun
  | [d1, d2] => { results := [.lit (.bool false)], args := [d1, d2] }
  | _ => none }
def FnExactTimesRowWrongFalsely : Prop := fnExactTimesRowRow.holds Try.pinned (OpenSpec.ofChange fnExactTimesRowWrong)

/-- 'laws.FnExactMultiplyMatrices': WHATEVER THE INPUT: true; the input reads as it did. -/
def fnExactMultiplyMatricesSpec : ChangeSpec := { name := "fnExactMultiplyMatrices", fn := fun _ => fun
  | [d1, d2] => { results := [.lit (.bool true)], args := [d1, d2] }
  | _ => none }
def fnExactMultiplyMatricesRow : OpenClaim := { program := "ytdojblmffmefgaa", sum := "6b819bffedc7bfd73686c88cedcda74c5361cd5cc7f1f56f1781649d00e64fc8", func := "loop.example/g01154/laws.FnExactMultiplyMatrices", spec := "fnExactMultiplyMatrices", apart := false }
def FnExactMultiplyMatricesSaid : Prop := fnExactMultiplyMatricesRow.holds Try.pinned (OpenSpec.ofChange fnExactMultiplyMatricesSpec)

/-- ITS FALSE NEIGHBOUR: 'it returns false'. Refute it at one input. -/
def fnExactMultiplyMatricesWrong : ChangeSpec := { name := "fnExactMultiplyMatrices", fn := fun _ => fun
  | [d1, d2] => { results := [.lit (.bool false)], args := [d1, d2] }
  | _ => none }
def FnExactMultiplyMatricesWrongFalsely : Prop := fnExactMultiplyMatricesRow.holds Try.pinned (OpenSpec.ofChange fnExactMultiplyMatricesWrong)

/-- 'laws.FnExactTransposeOf': WHATEVER THE INPUT: true; the input reads as it did. -/
def fnExactTransposeOfSpec : ChangeSpec := { name := "fnExactTransposeOf", fn := fun _ => fun
  | [d] => { results := [.lit (.bool true)], args := [d] }
  | _ => none }
def fnExactTransposeOfRow : OpenClaim := { program := "ytdojblmffmefgaa", sum := "6b819bffedc7bfd73686c88cedcda74c5361cd5cc7f1f56f1781649d00e64fc8", func := "loop.example/g01154/laws.FnExactTransposeOf", spec := "fnExactTransposeOf", apart := false }
def FnExactTransposeOfSaid : Prop := fnExactTransposeOfRow.holds Try.pinned (OpenSpec.ofChange fnExactTransposeOfSpec)

/-- ITS FALSE NEIGHBOUR: 'it returns false'. Refute it at one input. -/
def fnExactTransposeOfWrong : ChangeSpec := { name := "fnExactTransposeOf", fn := fun _ => fun
  | [d] => { results := [.lit (.bool false)], args := [d] }
  | _ => none }
def FnExactTransposeOfWrongFalsely : Prop := fnExactTransposeOfRow.holds Try.pinned (OpenSpec.ofChange fnExactTransposeOfWrong)

/- THE SECOND FORM. 'bulk': how many values and letters a reading holds, each counted each time it is reached (what is shared counts as often as it is met; a slice's spare places count too). A statement '..UptoSaid' is the law's where the arguments, and the package variables that the reading takes, are together of bulk at most 1048576: NARROWER than '..Said'. Prove '..Said' where nothing that the law and all that it calls make is longer than what came in: it says more and counts as full. Else prove '..UptoSaid'. A law counts once. -/
mutual
def uptoBulk {H : Type} : DataW H → Nat
  | .lit (.string bytes) => bytes.length + 1
  | .lit _ => 1
  | .nil => 1
  | .ptr d => uptoBulk d + 1
  | .slice elems spare => uptoBulkAll elems + uptoBulkAll spare + 1
  | .agg parts => uptoBulkAll parts + 1
  | .iface _ d => uptoBulk d + 1
  | .map entries => uptoBulkEntries entries + 1
  | .held _ => 1
def uptoBulkAll {H : Type} : List (DataW H) → Nat
  | [] => 0
  | d :: r => uptoBulk d + uptoBulkAll r
def uptoBulkEntries {H : Type} : List (Lit × DataW H) → Nat
  | [] => 0
  | x :: r => uptoBulkEntry x + uptoBulkEntries r
def uptoBulkEntry {H : Type} : Lit × DataW H → Nat
  | (.string bytes, d) => bytes.length + uptoBulk d + 1
  | (_, d) => uptoBulk d + 1
 end
def uptoSmall : (H : Type) → List (DataW H) → Bool := fun _ ds => decide (uptoBulkAll ds ≤ 1048576)
def OpenSpec.upto (s : _root_.Go.ChangeSpec) : _root_.Go.OpenSpec := { _root_.Go.OpenSpec.ofChange s with cond := some uptoSmall }

/-- 'laws.FnExactIsMatrix', WHERE WHAT IT READS IS OF BULK AT MOST 1048576: true; the input reads as it did. -/
def fnExactIsMatrixUptoRow : OpenClaim := { program := "ytdojblmffmefgaa", sum := "6b819bffedc7bfd73686c88cedcda74c5361cd5cc7f1f56f1781649d00e64fc8", func := "loop.example/g01154/laws.FnExactIsMatrix", spec := "fnExactIsMatrix", apart := false, narrowed := true }
def FnExactIsMatrixUptoSaid : Prop := fnExactIsMatrixUptoRow.holds Try.pinned (OpenSpec.upto fnExactIsMatrixSpec)

/-- 'laws.FnExactMatrixOfLists', WHERE WHAT IT READS IS OF BULK AT MOST 1048576: true; the input reads as it did. -/
def fnExactMatrixOfListsUptoRow : OpenClaim := { program := "ytdojblmffmefgaa", sum := "6b819bffedc7bfd73686c88cedcda74c5361cd5cc7f1f56f1781649d00e64fc8", func := "loop.example/g01154/laws.FnExactMatrixOfLists", spec := "fnExactMatrixOfLists", apart := false, narrowed := true }
def FnExactMatrixOfListsUptoSaid : Prop := fnExactMatrixOfListsUptoRow.holds Try.pinned (OpenSpec.upto fnExactMatrixOfListsSpec)

/-- 'laws.FnExactListsOfMatrix', WHERE WHAT IT READS IS OF BULK AT MOST 1048576: true; the input reads as it did. -/
def fnExactListsOfMatrixUptoRow : OpenClaim := { program := "ytdojblmffmefgaa", sum := "6b819bffedc7bfd73686c88cedcda74c5361cd5cc7f1f56f1781649d00e64fc8", func := "loop.example/g01154/laws.FnExactListsOfMatrix", spec := "fnExactListsOfMatrix", apart := false, narrowed := true }
def FnExactListsOfMatrixUptoSaid : Prop := fnExactListsOfMatrixUptoRow.holds Try.pinned (OpenSpec.upto fnExactListsOfMatrixSpec)

/-- 'laws.FnExactTimesRow', WHERE WHAT IT READS IS OF BULK AT MOST 1048576: true; the input reads as it did. -/
def fnExactTimesRowUptoRow : OpenClaim := { program := "ytdojblmffmefgaa", sum := "6b819bffedc7bfd73686c88cedcda74c5361cd5cc7f1f56f1781649d00e64fc8", func := "loop.example/g01154/laws.FnExactTimesRow", spec := "fnExactTimesRow", apart := false, narrowed := true }
def FnExactTimesRowUptoSaid : Prop := fnExactTimesRowUptoRow.holds Try.pinned (OpenSpec.upto fnExactTimesRowSpec)

/-- 'laws.FnExactMultiplyMatrices', WHERE WHAT IT READS IS OF BULK AT MOST 1048576: true; the input reads as it did. -/
def fnExactMultiplyMatricesUptoRow : OpenClaim := { program := "ytdojblmffmefgaa", sum := "6b819bffedc7bfd73686c88cedcda74c5361cd5cc7f1f56f1781649d00e64fc8", func := "loop.example/g01154/laws.FnExactMultiplyMatrices", spec := "fnExactMultiplyMatrices", apart := false, narrowed := true }
def FnExactMultiplyMatricesUptoSaid : Prop := fnExactMultiplyMatricesUptoRow.holds Try.pinned (OpenSpec.upto fnExactMultiplyMatricesSpec)

/-- 'laws.FnExactTransposeOf', WHERE WHAT IT READS IS OF BULK AT MOST 1048576: true; the input reads as it did. -/
def fnExactTransposeOfUptoRow : OpenClaim := { program := "ytdojblmffmefgaa", sum := "6b819bffedc7bfd73686c88cedcda74c5361cd5cc7f1f56f1781649d00e64fc8", func := "loop.example/g01154/laws.FnExactTransposeOf", spec := "fnExactTransposeOf", apart := false, narrowed := true }
def FnExactTransposeOfUptoSaid : Prop := fnExactTransposeOfUptoRow.holds Try.pinned (OpenSpec.upto fnExactTransposeOfSpec)

end Rows
end Go.Proofs.Ytdojblmffmefgaa
