/-
  No cell of these rows narrows 'for every input' (looked for: loops, veiled, ifaces, maps, wideKeys, modest, calm, conditions, laid).
  DERIVED. THE GIVEN ROWS OF THIS SEAT. 9 by the template 'for every input the law returns true; each argument reads behind the call as it read before'; 0 by the template 'total and deterministic' (their statements: YtggebkcmokpcmaaTotals.lean).
  GIVEN WITH THE SEED: the statements are not yours to turn. If you find one false, say at which input.
  Laid BY PROGRAM, IN A SANDBOX (cutbox-rows.mjs): the forced cells as the released guide's own fill.sh prints them over the translation d14caddcc6a5ec92… (all of the seat's roots in one cut). By AI agents, Wed Nov 11 2026. No macro, syntax, notation, axiom, sorry.
-/
import Derived.Test.YtggebkcmokpcmaaChecked
import GoSem.Claim
import GoSem.ClaimJoined
import GoSem.ClaimMapViews
import Derived.JoinedTies
import Derived.KernelRfl
namespace Go.Proofs.Ytggebkcmokpcmaa
/- THE CELL 'sum', in the pinned program and in every row, IS THE sha256 OF THE DUMP (.gsa) THAT YtggebkcmokpcmaaProg.lean LOADS. Nothing in Lean hashes anything: it is a label: what it is worth is what the hold of that sum in a sandbox is worth. -/
noncomputable def Try.pinned : Pinned := { name := "ytggebkcmokpcmaa", sum := "d14caddcc6a5ec9287d2bd9868c33ec1291ebd496b804b51a639450051f3e6bd", checked := Try.checked }
namespace Rows
def none {H : Type} : Left H := { results := [], args := [] }

/-- 'laws.FnExactHitDimension': WHATEVER THE INPUT: true; the input reads as it did. -/
def fnExactHitDimensionSpec : ChangeSpec := { name := "fnExactHitDimension", fn := fun _ => fun
  | [d1, d2] => { results := [.lit (.bool true)], args := [d1, d2] }
  | _ => none }
def fnExactHitDimensionRow : OpenClaim := { program := "ytggebkcmokpcmaa", sum := "d14caddcc6a5ec9287d2bd9868c33ec1291ebd496b804b51a639450051f3e6bd", func := "loop.example/g01154/laws.FnExactHitDimension", spec := "fnExactHitDimension", inPlace := ["slices.overlaps[loop.example/g01154/impl.packedPoly]"], unfollowed := true, recurses := true, apart := false }
def FnExactHitDimensionSaid : Prop := fnExactHitDimensionRow.holds Try.pinned (OpenSpec.ofChange fnExactHitDimensionSpec)

/-- ITS FALSE NEIGHBOUR: 'it returns false'. Refute it at one input. -/
def fnExactHitDimensionWrong : ChangeSpec := { name := "fnExactHitDimension", fn := fun _ => fun
  | [d1, d2] => { results := [.lit (.bool false)], args := [d1, d2] }
  | _ => none }
def FnExactHitDimensionWrongFalsely : Prop := fnExactHitDimensionRow.holds Try.pinned (OpenSpec.ofChange fnExactHitDimensionWrong)

/-- 'laws.FnExactCohitDimension': WHATEVER THE INPUT: true; the input reads as it did. -/
def fnExactCohitDimensionSpec : ChangeSpec := { name := "fnExactCohitDimension", fn := fun _ => fun
  | [d1, d2] => { results := [.lit (.bool true)], args := [d1, d2] }
  | _ => none }
def fnExactCohitDimensionRow : OpenClaim := { program := "ytggebkcmokpcmaa", sum := "d14caddcc6a5ec9287d2bd9868c33ec1291ebd496b804b51a639450051f3e6bd", func := "loop.example/g01154/laws.FnExactCohitDimension", spec := "fnExactCohitDimension", inPlace := ["slices.overlaps[loop.example/g01154/impl.packedPoly]"], unfollowed := true, recurses := true, apart := false }
def FnExactCohitDimensionSaid : Prop := fnExactCohitDimensionRow.holds Try.pinned (OpenSpec.ofChange fnExactCohitDimensionSpec)

/-- ITS FALSE NEIGHBOUR: 'it returns false'. Refute it at one input. -/
def fnExactCohitDimensionWrong : ChangeSpec := { name := "fnExactCohitDimension", fn := fun _ => fun
  | [d1, d2] => { results := [.lit (.bool false)], args := [d1, d2] }
  | _ => none }
def FnExactCohitDimensionWrongFalsely : Prop := fnExactCohitDimensionRow.holds Try.pinned (OpenSpec.ofChange fnExactCohitDimensionWrong)

/-- 'laws.FnExactIsHit': WHATEVER THE INPUT: true; the input reads as it did. -/
def fnExactIsHitSpec : ChangeSpec := { name := "fnExactIsHit", fn := fun _ => fun
  | [d] => { results := [.lit (.bool true)], args := [d] }
  | _ => none }
def fnExactIsHitRow : OpenClaim := { program := "ytggebkcmokpcmaa", sum := "d14caddcc6a5ec9287d2bd9868c33ec1291ebd496b804b51a639450051f3e6bd", func := "loop.example/g01154/laws.FnExactIsHit", spec := "fnExactIsHit", inPlace := ["slices.overlaps[loop.example/g01154/impl.packedPoly]"], unfollowed := true, recurses := true, apart := false }
def FnExactIsHitSaid : Prop := fnExactIsHitRow.holds Try.pinned (OpenSpec.ofChange fnExactIsHitSpec)

/-- ITS FALSE NEIGHBOUR: 'it returns false'. Refute it at one input. -/
def fnExactIsHitWrong : ChangeSpec := { name := "fnExactIsHit", fn := fun _ => fun
  | [d] => { results := [.lit (.bool false)], args := [d] }
  | _ => none }
def FnExactIsHitWrongFalsely : Prop := fnExactIsHitRow.holds Try.pinned (OpenSpec.ofChange fnExactIsHitWrong)

/-- 'laws.FnExactAdmissibleMonomials': WHATEVER THE INPUT: true; the input reads as it did. -/
def fnExactAdmissibleMonomialsSpec : ChangeSpec := { name := "fnExactAdmissibleMonomials", fn := fun _ => fun
  | [d1, d2] => { results := [.lit (.bool true)], args := [d1, d2] }
  | _ => none }
def fnExactAdmissibleMonomialsRow : OpenClaim := { program := "ytggebkcmokpcmaa", sum := "d14caddcc6a5ec9287d2bd9868c33ec1291ebd496b804b51a639450051f3e6bd", func := "loop.example/g01154/laws.FnExactAdmissibleMonomials", spec := "fnExactAdmissibleMonomials", inPlace := ["slices.overlaps[loop.example/g01154/impl.packedPoly]"], unfollowed := true, recurses := true, apart := false }
def FnExactAdmissibleMonomialsSaid : Prop := fnExactAdmissibleMonomialsRow.holds Try.pinned (OpenSpec.ofChange fnExactAdmissibleMonomialsSpec)

/-- ITS FALSE NEIGHBOUR: 'it returns false'. Refute it at one input. -/
def fnExactAdmissibleMonomialsWrong : ChangeSpec := { name := "fnExactAdmissibleMonomials", fn := fun _ => fun
  | [d1, d2] => { results := [.lit (.bool false)], args := [d1, d2] }
  | _ => none }
def FnExactAdmissibleMonomialsWrongFalsely : Prop := fnExactAdmissibleMonomialsRow.holds Try.pinned (OpenSpec.ofChange fnExactAdmissibleMonomialsWrong)

/-- 'laws.FnExactNormalForm': WHATEVER THE INPUT: true; the input reads as it did. -/
def fnExactNormalFormSpec : ChangeSpec := { name := "fnExactNormalForm", fn := fun _ => fun
  | [d] => { results := [.lit (.bool true)], args := [d] }
  | _ => none }
def fnExactNormalFormRow : OpenClaim := { program := "ytggebkcmokpcmaa", sum := "d14caddcc6a5ec9287d2bd9868c33ec1291ebd496b804b51a639450051f3e6bd", func := "loop.example/g01154/laws.FnExactNormalForm", spec := "fnExactNormalForm", inPlace := ["slices.overlaps[loop.example/g01154/impl.packedPoly]"], unfollowed := true, recurses := true, apart := false }
def FnExactNormalFormSaid : Prop := fnExactNormalFormRow.holds Try.pinned (OpenSpec.ofChange fnExactNormalFormSpec)

/-- ITS FALSE NEIGHBOUR: 'it returns false'. Refute it at one input. -/
def fnExactNormalFormWrong : ChangeSpec := { name := "fnExactNormalForm", fn := fun _ => fun
  | [d] => { results := [.lit (.bool false)], args := [d] }
  | _ => none }
def FnExactNormalFormWrongFalsely : Prop := fnExactNormalFormRow.holds Try.pinned (OpenSpec.ofChange fnExactNormalFormWrong)

/-- 'laws.FnExactSpikeMonomials': WHATEVER THE INPUT: true; the input reads as it did. -/
def fnExactSpikeMonomialsSpec : ChangeSpec := { name := "fnExactSpikeMonomials", fn := fun _ => fun
  | [d1, d2] => { results := [.lit (.bool true)], args := [d1, d2] }
  | _ => none }
def fnExactSpikeMonomialsRow : OpenClaim := { program := "ytggebkcmokpcmaa", sum := "d14caddcc6a5ec9287d2bd9868c33ec1291ebd496b804b51a639450051f3e6bd", func := "loop.example/g01154/laws.FnExactSpikeMonomials", spec := "fnExactSpikeMonomials", unfollowed := true, recurses := true, apart := false }
def FnExactSpikeMonomialsSaid : Prop := fnExactSpikeMonomialsRow.holds Try.pinned (OpenSpec.ofChange fnExactSpikeMonomialsSpec)

/-- ITS FALSE NEIGHBOUR: 'it returns false'. Refute it at one input. -/
def fnExactSpikeMonomialsWrong : ChangeSpec := { name := "fnExactSpikeMonomials", fn := fun _ => fun
  | [d1, d2] => { results := [.lit (.bool false)], args := [d1, d2] }
  | _ => none }
def FnExactSpikeMonomialsWrongFalsely : Prop := fnExactSpikeMonomialsRow.holds Try.pinned (OpenSpec.ofChange fnExactSpikeMonomialsWrong)

/-- 'laws.FnExactWeightsOf': WHATEVER THE INPUT: true; the input reads as it did. -/
def fnExactWeightsOfSpec : ChangeSpec := { name := "fnExactWeightsOf", fn := fun _ => fun
  | [d] => { results := [.lit (.bool true)], args := [d] }
  | _ => none }
def fnExactWeightsOfRow : OpenClaim := { program := "ytggebkcmokpcmaa", sum := "d14caddcc6a5ec9287d2bd9868c33ec1291ebd496b804b51a639450051f3e6bd", func := "loop.example/g01154/laws.FnExactWeightsOf", spec := "fnExactWeightsOf", apart := false }
def FnExactWeightsOfSaid : Prop := fnExactWeightsOfRow.holds Try.pinned (OpenSpec.ofChange fnExactWeightsOfSpec)

/-- ITS FALSE NEIGHBOUR: 'it returns false'. Refute it at one input. -/
def fnExactWeightsOfWrong : ChangeSpec := { name := "fnExactWeightsOf", fn := fun _ => fun
  | [d] => { results := [.lit (.bool false)], args := [d] }
  | _ => none }
def FnExactWeightsOfWrongFalsely : Prop := fnExactWeightsOfRow.holds Try.pinned (OpenSpec.ofChange fnExactWeightsOfWrong)

/-- 'laws.FnExactKamekoDown': WHATEVER THE INPUT: true; the input reads as it did. -/
def fnExactKamekoDownSpec : ChangeSpec := { name := "fnExactKamekoDown", fn := fun _ => fun
  | [d] => { results := [.lit (.bool true)], args := [d] }
  | _ => none }
def fnExactKamekoDownRow : OpenClaim := { program := "ytggebkcmokpcmaa", sum := "d14caddcc6a5ec9287d2bd9868c33ec1291ebd496b804b51a639450051f3e6bd", func := "loop.example/g01154/laws.FnExactKamekoDown", spec := "fnExactKamekoDown", apart := false }
def FnExactKamekoDownSaid : Prop := fnExactKamekoDownRow.holds Try.pinned (OpenSpec.ofChange fnExactKamekoDownSpec)

/-- ITS FALSE NEIGHBOUR: 'it returns false'. Refute it at one input. -/
def fnExactKamekoDownWrong : ChangeSpec := { name := "fnExactKamekoDown", fn := fun _ => fun
  | [d] => { results := [.lit (.bool false)], args := [d] }
  | _ => none }
def FnExactKamekoDownWrongFalsely : Prop := fnExactKamekoDownRow.holds Try.pinned (OpenSpec.ofChange fnExactKamekoDownWrong)

/-- 'laws.FnExactKamekoUp': WHATEVER THE INPUT: true; the input reads as it did. -/
def fnExactKamekoUpSpec : ChangeSpec := { name := "fnExactKamekoUp", fn := fun _ => fun
  | [d] => { results := [.lit (.bool true)], args := [d] }
  | _ => none }
def fnExactKamekoUpRow : OpenClaim := { program := "ytggebkcmokpcmaa", sum := "d14caddcc6a5ec9287d2bd9868c33ec1291ebd496b804b51a639450051f3e6bd", func := "loop.example/g01154/laws.FnExactKamekoUp", spec := "fnExactKamekoUp", apart := false }
def FnExactKamekoUpSaid : Prop := fnExactKamekoUpRow.holds Try.pinned (OpenSpec.ofChange fnExactKamekoUpSpec)

/-- ITS FALSE NEIGHBOUR: 'it returns false'. Refute it at one input. -/
def fnExactKamekoUpWrong : ChangeSpec := { name := "fnExactKamekoUp", fn := fun _ => fun
  | [d] => { results := [.lit (.bool false)], args := [d] }
  | _ => none }
def FnExactKamekoUpWrongFalsely : Prop := fnExactKamekoUpRow.holds Try.pinned (OpenSpec.ofChange fnExactKamekoUpWrong)

/- THE SECOND FORM. 'bulk': how many values and letters a reading holds, each counted each time it is reached (what is shared counts as often as it is met; a slice's spare places count too). A statement '..UptoSaid' is the law's where the arguments, and the package variables that the reading takes, are together of bulk at most 1048576: NARROWER than '..Said'. Prove '..Said' where nothing that the law and all that it calls make is longer than what came in: it says more and counts as full. Else prove '..UptoSaid'. A law counts once. -/
mutual
def uptoBulk {H : Type} : DataW H → Nat
  | .lit (.string bytes) => bytes.length + 1
  | .lit _ => 1
  | .nil => 1
  | .ptr d => uptoBulk d + 1
  | .slice elems spare => uptoBulkAll elems + uptoBulkAll spare + 1
  | .agg parts => uptoBulkAll parts + 1
  | .iface _ d => uptoBulk d + 1
  | .map entries => uptoBulkEntries entries + 1
  | .held _ => 1
def uptoBulkAll {H : Type} : List (DataW H) → Nat
  | [] => 0
  | d :: r => uptoBulk d + uptoBulkAll r
def uptoBulkEntries {H : Type} : List (Lit × DataW H) → Nat
  | [] => 0
  | x :: r => uptoBulkEntry x + uptoBulkEntries r
def uptoBulkEntry {H : Type} : Lit × DataW H → Nat
  | (.string bytes, d) => bytes.length + uptoBulk d + 1
  | (_, d) => uptoBulk d + 1
 end
def uptoSmall : (H : Type) → List (DataW H) → Bool := fun _ ds => decide (uptoBulkAll ds ≤ 1048576)
def OpenSpec.upto (s : _root_.Go.ChangeSpec) : _root_.Go.OpenSpec := { _root_.Go.OpenSpec.ofChange s with cond := some uptoSmall }

/-- 'laws.FnExactHitDimension', WHERE WHAT IT READS IS OF BULK AT MOST 1048576: true; the input reads as it did. -/
def fnExactHitDimensionUptoRow : OpenClaim := { program := "ytggebkcmokpcmaa", sum := "d14caddcc6a5ec9287d2bd9868c33ec1291ebd496b804b51a639450051f3e6bd", func := "loop.example/g01154/laws.FnExactHitDimension", spec := "fnExactHitDimension", inPlace := ["slices.overlaps[loop.example/g01154/impl.packedPoly]"], unfollowed := true, recurses := true, apart := false, narrowed := true }
def FnExactHitDimensionUptoSaid : Prop := fnExactHitDimensionUptoRow.holds Try.pinned (OpenSpec.upto fnExactHitDimensionSpec)

/-- 'laws.FnExactCohitDimension', WHERE WHAT IT READS IS OF BULK AT MOST 1048576: true; the input reads as it did. -/
def fnExactCohitDimensionUptoRow : OpenClaim := { program := "ytggebkcmokpcmaa", sum := "d14caddcc6a5ec9287d2bd9868c33ec1291ebd496b804b51a639450051f3e6bd", func := "loop.example/g01154/laws.FnExactCohitDimension", spec := "fnExactCohitDimension", inPlace := ["slices.overlaps[loop.example/g01154/impl.packedPoly]"], unfollowed := true, recurses := true, apart := false, narrowed := true }
def FnExactCohitDimensionUptoSaid : Prop := fnExactCohitDimensionUptoRow.holds Try.pinned (OpenSpec.upto fnExactCohitDimensionSpec)

/-- 'laws.FnExactIsHit', WHERE WHAT IT READS IS OF BULK AT MOST 1048576: true; the input reads as it did. -/
def fnExactIsHitUptoRow : OpenClaim := { program := "ytggebkcmokpcmaa", sum := "d14caddcc6a5ec9287d2bd9868c33ec1291ebd496b804b51a639450051f3e6bd", func := "loop.example/g01154/laws.FnExactIsHit", spec := "fnExactIsHit", inPlace := ["slices.overlaps[loop.example/g01154/impl.packedPoly]"], unfollowed := true, recurses := true, apart := false, narrowed := true }
def FnExactIsHitUptoSaid : Prop := fnExactIsHitUptoRow.holds Try.pinned (OpenSpec.upto fnExactIsHitSpec)

/-- 'laws.FnExactAdmissibleMonomials', WHERE WHAT IT READS IS OF BULK AT MOST 1048576: true; the input reads as it did. -/
def fnExactAdmissibleMonomialsUptoRow : OpenClaim := { program := "ytggebkcmokpcmaa", sum := "d14caddcc6a5ec9287d2bd9868c33ec1291ebd496b804b51a639450051f3e6bd", func := "loop.example/g01154/laws.FnExactAdmissibleMonomials", spec := "fnExactAdmissibleMonomials", inPlace := ["slices.overlaps[loop.example/g01154/impl.packedPoly]"], unfollowed := true, recurses := true, apart := false, narrowed := true }
def FnExactAdmissibleMonomialsUptoSaid : Prop := fnExactAdmissibleMonomialsUptoRow.holds Try.pinned (OpenSpec.upto fnExactAdmissibleMonomialsSpec)

/-- 'laws.FnExactNormalForm', WHERE WHAT IT READS IS OF BULK AT MOST 1048576: true; the input reads as it did. -/
def fnExactNormalFormUptoRow : OpenClaim := { program := "ytggebkcmokpcmaa", sum := "d14caddcc6a5ec9287d2bd9868c33ec1291ebd496b804b51a639450051f3e6bd", func := "loop.example/g01154/laws.FnExactNormalForm", spec := "fnExactNormalForm", inPlace := ["slices.overlaps[loop.example/g01154/impl.packedPoly]"], unfollowed := true, recurses := true, apart := false, narrowed := true }
def FnExactNormalFormUptoSaid : Prop := fnExactNormalFormUptoRow.holds Try.pinned (OpenSpec.upto fnExactNormalFormSpec)

/-- 'laws.FnExactSpikeMonomials', WHERE WHAT IT READS IS OF BULK AT MOST 1048576: true; the input reads as it did. -/
def fnExactSpikeMonomialsUptoRow : OpenClaim := { program := "ytggebkcmokpcmaa", sum := "d14caddcc6a5ec9287d2bd9868c33ec1291ebd496b804b51a639450051f3e6bd", func := "loop.example/g01154/laws.FnExactSpikeMonomials", spec := "fnExactSpikeMonomials", unfollowed := true, recurses := true, apart := false, narrowed := true }
def FnExactSpikeMonomialsUptoSaid : Prop := fnExactSpikeMonomialsUptoRow.holds Try.pinned (OpenSpec.upto fnExactSpikeMonomialsSpec)

/-- 'laws.FnExactWeightsOf', WHERE WHAT IT READS IS OF BULK AT MOST 1048576: true; the input reads as it did. -/
def fnExactWeightsOfUptoRow : OpenClaim := { program := "ytggebkcmokpcmaa", sum := "d14caddcc6a5ec9287d2bd9868c33ec1291ebd496b804b51a639450051f3e6bd", func := "loop.example/g01154/laws.FnExactWeightsOf", spec := "fnExactWeightsOf", apart := false, narrowed := true }
def FnExactWeightsOfUptoSaid : Prop := fnExactWeightsOfUptoRow.holds Try.pinned (OpenSpec.upto fnExactWeightsOfSpec)

/-- 'laws.FnExactKamekoDown', WHERE WHAT IT READS IS OF BULK AT MOST 1048576: true; the input reads as it did. -/
def fnExactKamekoDownUptoRow : OpenClaim := { program := "ytggebkcmokpcmaa", sum := "d14caddcc6a5ec9287d2bd9868c33ec1291ebd496b804b51a639450051f3e6bd", func := "loop.example/g01154/laws.FnExactKamekoDown", spec := "fnExactKamekoDown", apart := false, narrowed := true }
def FnExactKamekoDownUptoSaid : Prop := fnExactKamekoDownUptoRow.holds Try.pinned (OpenSpec.upto fnExactKamekoDownSpec)

/-- 'laws.FnExactKamekoUp', WHERE WHAT IT READS IS OF BULK AT MOST 1048576: true; the input reads as it did. -/
def fnExactKamekoUpUptoRow : OpenClaim := { program := "ytggebkcmokpcmaa", sum := "d14caddcc6a5ec9287d2bd9868c33ec1291ebd496b804b51a639450051f3e6bd", func := "loop.example/g01154/laws.FnExactKamekoUp", spec := "fnExactKamekoUp", apart := false, narrowed := true }
def FnExactKamekoUpUptoSaid : Prop := fnExactKamekoUpUptoRow.holds Try.pinned (OpenSpec.upto fnExactKamekoUpSpec)

end Rows
end Go.Proofs.Ytggebkcmokpcmaa
