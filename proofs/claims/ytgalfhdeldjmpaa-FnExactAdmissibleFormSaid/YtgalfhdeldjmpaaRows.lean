/-
  No cell of these rows narrows 'for every input' (looked for: loops, veiled, ifaces, maps, wideKeys, modest, calm, conditions, laid).
  DERIVED. THE GIVEN ROWS OF THIS SEAT. 4 by the template 'for every input the law returns true; each argument reads behind the call as it read before'; 0 by the template 'total and deterministic' (their statements: YtgalfhdeldjmpaaTotals.lean).
  GIVEN WITH THE SEED: the statements are not yours to turn. If you find one false, say at which input.
  Laid BY PROGRAM, IN A SANDBOX (cutbox-rows.mjs): the forced cells as the released guide's own fill.sh prints them over the translation ec9d32f11a80636d… (all of the seat's roots in one cut). By AI agents, Wed Nov 11 2026. No macro, syntax, notation, axiom, sorry.
-/
import Derived.Test.YtgalfhdeldjmpaaChecked
import GoSem.Claim
import GoSem.ClaimJoined
import GoSem.ClaimMapViews
import Derived.JoinedTies
import Derived.KernelRfl
namespace Go.Proofs.Ytgalfhdeldjmpaa
/- THE CELL 'sum', in the pinned program and in every row, IS THE sha256 OF THE DUMP (.gsa) THAT YtgalfhdeldjmpaaProg.lean LOADS. Nothing in Lean hashes anything: it is a label: what it is worth is what the hold of that sum in a sandbox is worth. -/
noncomputable def Try.pinned : Pinned := { name := "ytgalfhdeldjmpaa", sum := "ec9d32f11a80636d459b7b9c210b867801f3727853155fe1e632782412d46438", checked := Try.checked }
namespace Rows
def none {H : Type} : Left H := { results := [], args := [] }

/-- 'laws.FnExactAdemRelation': WHATEVER THE INPUT: true; the input reads as it did. -/
def fnExactAdemRelationSpec : ChangeSpec := { name := "fnExactAdemRelation", fn := fun _ => fun
  | [d1, d2] => { results := [.lit (.bool true)], args := [d1, d2] }
  | _ => none }
def fnExactAdemRelationRow : OpenClaim := { program := "ytgalfhdeldjmpaa", sum := "ec9d32f11a80636d459b7b9c210b867801f3727853155fe1e632782412d46438", func := "loop.example/g01154/laws.FnExactAdemRelation", spec := "fnExactAdemRelation", unfollowed := true, recurses := true, plainKeys := false, apart := false }
def FnExactAdemRelationSaid : Prop := fnExactAdemRelationRow.holds Try.pinned (OpenSpec.ofChange fnExactAdemRelationSpec)

/-- ITS FALSE NEIGHBOUR: 'it returns false'. Refute it at one input. -/
def fnExactAdemRelationWrong : ChangeSpec := { name := "fnExactAdemRelation", fn := fun _ => fun
  | [d1, d2] => { results := [.lit (.bool false)], args := [d1, d2] }
  | _ => none }
def FnExactAdemRelationWrongFalsely : Prop := fnExactAdemRelationRow.holds Try.pinned (OpenSpec.ofChange fnExactAdemRelationWrong)

/-- 'laws.FnExactAdmissibleForm': WHATEVER THE INPUT: true; the input reads as it did. -/
def fnExactAdmissibleFormSpec : ChangeSpec := { name := "fnExactAdmissibleForm", fn := fun _ => fun
  | [d] => { results := [.lit (.bool true)], args := [d] }
  | _ => none }
def fnExactAdmissibleFormRow : OpenClaim := { program := "ytgalfhdeldjmpaa", sum := "ec9d32f11a80636d459b7b9c210b867801f3727853155fe1e632782412d46438", func := "loop.example/g01154/laws.FnExactAdmissibleForm", spec := "fnExactAdmissibleForm", unfollowed := true, recurses := true, plainKeys := false, apart := false }
def FnExactAdmissibleFormSaid : Prop := fnExactAdmissibleFormRow.holds Try.pinned (OpenSpec.ofChange fnExactAdmissibleFormSpec)

/-- ITS FALSE NEIGHBOUR: 'it returns false'. Refute it at one input. -/
def fnExactAdmissibleFormWrong : ChangeSpec := { name := "fnExactAdmissibleForm", fn := fun _ => fun
  | [d] => { results := [.lit (.bool false)], args := [d] }
  | _ => none }
def FnExactAdmissibleFormWrongFalsely : Prop := fnExactAdmissibleFormRow.holds Try.pinned (OpenSpec.ofChange fnExactAdmissibleFormWrong)

/-- 'laws.FnExactMultiplySquares': WHATEVER THE INPUT: true; the input reads as it did. -/
def fnExactMultiplySquaresSpec : ChangeSpec := { name := "fnExactMultiplySquares", fn := fun _ => fun
  | [d1, d2] => { results := [.lit (.bool true)], args := [d1, d2] }
  | _ => none }
def fnExactMultiplySquaresRow : OpenClaim := { program := "ytgalfhdeldjmpaa", sum := "ec9d32f11a80636d459b7b9c210b867801f3727853155fe1e632782412d46438", func := "loop.example/g01154/laws.FnExactMultiplySquares", spec := "fnExactMultiplySquares", unfollowed := true, recurses := true, plainKeys := false, apart := false }
def FnExactMultiplySquaresSaid : Prop := fnExactMultiplySquaresRow.holds Try.pinned (OpenSpec.ofChange fnExactMultiplySquaresSpec)

/-- ITS FALSE NEIGHBOUR: 'it returns false'. Refute it at one input. -/
def fnExactMultiplySquaresWrong : ChangeSpec := { name := "fnExactMultiplySquares", fn := fun _ => fun
  | [d1, d2] => { results := [.lit (.bool false)], args := [d1, d2] }
  | _ => none }
def FnExactMultiplySquaresWrongFalsely : Prop := fnExactMultiplySquaresRow.holds Try.pinned (OpenSpec.ofChange fnExactMultiplySquaresWrong)

/-- 'laws.FnExactGeneratorForm': WHATEVER THE INPUT: true; the input reads as it did. -/
def fnExactGeneratorFormSpec : ChangeSpec := { name := "fnExactGeneratorForm", fn := fun _ => fun
  | [d] => { results := [.lit (.bool true)], args := [d] }
  | _ => none }
def fnExactGeneratorFormRow : OpenClaim := { program := "ytgalfhdeldjmpaa", sum := "ec9d32f11a80636d459b7b9c210b867801f3727853155fe1e632782412d46438", func := "loop.example/g01154/laws.FnExactGeneratorForm", spec := "fnExactGeneratorForm", unfollowed := true, recurses := true, plainKeys := false, apart := false }
def FnExactGeneratorFormSaid : Prop := fnExactGeneratorFormRow.holds Try.pinned (OpenSpec.ofChange fnExactGeneratorFormSpec)

/-- ITS FALSE NEIGHBOUR: 'it returns false'. Refute it at one input. -/
def fnExactGeneratorFormWrong : ChangeSpec := { name := "fnExactGeneratorForm", fn := fun _ => fun
  | [d] => { results := [.lit (.bool false)], args := [d] }
  | _ => none }
def FnExactGeneratorFormWrongFalsely : Prop := fnExactGeneratorFormRow.holds Try.pinned (OpenSpec.ofChange fnExactGeneratorFormWrong)

/- THE SECOND FORM. 'bulk': how many values and letters a reading holds, each counted each time it is reached (what is shared counts as often as it is met; a slice's spare places count too). A statement '..UptoSaid' is the law's where the arguments, and the package variables that the reading takes, are together of bulk at most 1048576: NARROWER than '..Said'. Prove '..Said' where nothing that the law and all that it calls make is longer than what came in: it says more and counts as full. Else prove '..UptoSaid'. A law counts once. -/
mutual
def uptoBulk {H : Type} : DataW H → Nat
  | .lit (.string bytes) => bytes.length + 1
  | .lit _ => 1
  | .nil => 1
  | .ptr d => uptoBulk d + 1
  | .slice elems spare => uptoBulkAll elems + uptoBulkAll spare + 1
  | .agg parts => uptoBulkAll parts + 1
  | .iface _ d => uptoBulk d + 1
  | .map entries => uptoBulkEntries entries + 1
  | .held _ => 1
def uptoBulkAll {H : Type} : List (DataW H) → Nat
  | [] => 0
  | d :: r => uptoBulk d + uptoBulkAll r
def uptoBulkEntries {H : Type} : List (Lit × DataW H) → Nat
  | [] => 0
  | x :: r => uptoBulkEntry x + uptoBulkEntries r
def uptoBulkEntry {H : Type} : Lit × DataW H → Nat
  | (.string bytes, d) => bytes.length + uptoBulk d + 1
  | (_, d) => uptoBulk d + 1
 end
def uptoSmall : (H : Type) → List (DataW H) → Bool := fun _ ds => decide (uptoBulkAll ds ≤ 1048576)
def OpenSpec.upto (s : _root_.Go.ChangeSpec) : _root_.Go.OpenSpec := { _root_.Go.OpenSpec.ofChange s with cond := some uptoSmall }

/-- 'laws.FnExactAdemRelation', WHERE WHAT IT READS IS OF BULK AT MOST 1048576: true; the input reads as it did. -/
def fnExactAdemRelationUptoRow : OpenClaim := { program := "ytgalfhdeldjmpaa", sum := "ec9d32f11a80636d459b7b9c210b867801f3727853155fe1e632782412d46438", func := "loop.example/g01154/laws.FnExactAdemRelation", spec := "fnExactAdemRelation", unfollowed := true, recurses := true, plainKeys := false, apart := false, narrowed := true }
def FnExactAdemRelationUptoSaid : Prop := fnExactAdemRelationUptoRow.holds Try.pinned (OpenSpec.upto fnExactAdemRelationSpec)

/-- 'laws.FnExactAdmissibleForm', WHERE WHAT IT READS IS OF BULK AT MOST 1048576: true; the input reads as it did. -/
def fnExactAdmissibleFormUptoRow : OpenClaim := { program := "ytgalfhdeldjmpaa", sum := "ec9d32f11a80636d459b7b9c210b867801f3727853155fe1e632782412d46438", func := "loop.example/g01154/laws.FnExactAdmissibleForm", spec := "fnExactAdmissibleForm", unfollowed := true, recurses := true, plainKeys := false, apart := false, narrowed := true }
def FnExactAdmissibleFormUptoSaid : Prop := fnExactAdmissibleFormUptoRow.holds Try.pinned (OpenSpec.upto fnExactAdmissibleFormSpec)

/-- 'laws.FnExactMultiplySquares', WHERE WHAT IT READS IS OF BULK AT MOST 1048576: true; the input reads as it did. -/
def fnExactMultiplySquaresUptoRow : OpenClaim := { program := "ytgalfhdeldjmpaa", sum := "ec9d32f11a80636d459b7b9c210b867801f3727853155fe1e632782412d46438", func := "loop.example/g01154/laws.FnExactMultiplySquares", spec := "fnExactMultiplySquares", unfollowed := true, recurses := true, plainKeys := false, apart := false, narrowed := true }
def FnExactMultiplySquaresUptoSaid : Prop := fnExactMultiplySquaresUptoRow.holds Try.pinned (OpenSpec.upto fnExactMultiplySquaresSpec)

/-- 'laws.FnExactGeneratorForm', WHERE WHAT IT READS IS OF BULK AT MOST 1048576: true; the input reads as it did. -/
def fnExactGeneratorFormUptoRow : OpenClaim := { program := "ytgalfhdeldjmpaa", sum := "ec9d32f11a80636d459b7b9c210b867801f3727853155fe1e632782412d46438", func := "loop.example/g01154/laws.FnExactGeneratorForm", spec := "fnExactGeneratorForm", unfollowed := true, recurses := true, plainKeys := false, apart := false, narrowed := true }
def FnExactGeneratorFormUptoSaid : Prop := fnExactGeneratorFormUptoRow.holds Try.pinned (OpenSpec.upto fnExactGeneratorFormSpec)

end Rows
end Go.Proofs.Ytgalfhdeldjmpaa
