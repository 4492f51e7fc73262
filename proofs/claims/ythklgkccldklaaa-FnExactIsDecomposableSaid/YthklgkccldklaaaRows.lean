/-
  No cell of these rows narrows 'for every input' (looked for: loops, veiled, ifaces, maps, wideKeys, modest, calm, conditions, laid).
  DERIVED. THE GIVEN ROWS OF THIS SEAT. 4 by the template 'for every input the law returns true; each argument reads behind the call as it read before'; 0 by the template 'total and deterministic' (their statements: YthklgkccldklaaaTotals.lean).
  GIVEN WITH THE SEED: the statements are not yours to turn. If you find one false, say at which input.
  Laid BY PROGRAM, IN A SANDBOX (cutbox-rows.mjs): the forced cells as the released guide's own fill.sh prints them over the translation a2ad570725fff217… (all of the seat's roots in one cut). By AI agents, Wed Nov 11 2026. No macro, syntax, notation, axiom, sorry.
-/
import Derived.Test.YthklgkccldklaaaChecked
import GoSem.Claim
import GoSem.ClaimJoined
import GoSem.ClaimMapViews
import Derived.JoinedTies
import Derived.KernelRfl
namespace Go.Proofs.Ythklgkccldklaaa
/- THE CELL 'sum', in the pinned program and in every row, IS THE sha256 OF THE DUMP (.gsa) THAT YthklgkccldklaaaProg.lean LOADS. Nothing in Lean hashes anything: it is a label: what it is worth is what the hold of that sum in a sandbox is worth. -/
noncomputable def Try.pinned : Pinned := { name := "ythklgkccldklaaa", sum := "a2ad570725fff2178faae34e45e34efbac876aa5c5be7e32f035a5f3d77e55af", checked := Try.checked }
namespace Rows
def none {H : Type} : Left H := { results := [], args := [] }

/-- 'laws.FnExactElementP': WHATEVER THE INPUT: true; the input reads as it did. -/
def fnExactElementPSpec : ChangeSpec := { name := "fnExactElementP", fn := fun _ => fun
  | [d1, d2] => { results := [.lit (.bool true)], args := [d1, d2] }
  | _ => none }
def fnExactElementPRow : OpenClaim := { program := "ythklgkccldklaaa", sum := "a2ad570725fff2178faae34e45e34efbac876aa5c5be7e32f035a5f3d77e55af", func := "loop.example/g01154/laws.FnExactElementP", spec := "fnExactElementP", apart := false }
def FnExactElementPSaid : Prop := fnExactElementPRow.holds Try.pinned (OpenSpec.ofChange fnExactElementPSpec)

/-- ITS FALSE NEIGHBOUR: 'it returns false'. Refute it at one input. -/
def fnExactElementPWrong : ChangeSpec := { name := "fnExactElementP", fn := fun _ => fun
  | [d1, d2] => { results := [.lit (.bool false)], args := [d1, d2] }
  | _ => none }
def FnExactElementPWrongFalsely : Prop := fnExactElementPRow.holds Try.pinned (OpenSpec.ofChange fnExactElementPWrong)

/-- 'laws.FnExactElementQ': WHATEVER THE INPUT: true; the input reads as it did. -/
def fnExactElementQSpec : ChangeSpec := { name := "fnExactElementQ", fn := fun _ => fun
  | [d] => { results := [.lit (.bool true)], args := [d] }
  | _ => none }
def fnExactElementQRow : OpenClaim := { program := "ythklgkccldklaaa", sum := "a2ad570725fff2178faae34e45e34efbac876aa5c5be7e32f035a5f3d77e55af", func := "loop.example/g01154/laws.FnExactElementQ", spec := "fnExactElementQ", apart := false }
def FnExactElementQSaid : Prop := fnExactElementQRow.holds Try.pinned (OpenSpec.ofChange fnExactElementQSpec)

/-- ITS FALSE NEIGHBOUR: 'it returns false'. Refute it at one input. -/
def fnExactElementQWrong : ChangeSpec := { name := "fnExactElementQ", fn := fun _ => fun
  | [d] => { results := [.lit (.bool false)], args := [d] }
  | _ => none }
def FnExactElementQWrongFalsely : Prop := fnExactElementQRow.holds Try.pinned (OpenSpec.ofChange fnExactElementQWrong)

/-- 'laws.FnExactExcessOfMilnor': WHATEVER THE INPUT: true; the input reads as it did. -/
def fnExactExcessOfMilnorSpec : ChangeSpec := { name := "fnExactExcessOfMilnor", fn := fun _ => fun
  | [d] => { results := [.lit (.bool true)], args := [d] }
  | _ => none }
def fnExactExcessOfMilnorRow : OpenClaim := { program := "ythklgkccldklaaa", sum := "a2ad570725fff2178faae34e45e34efbac876aa5c5be7e32f035a5f3d77e55af", func := "loop.example/g01154/laws.FnExactExcessOfMilnor", spec := "fnExactExcessOfMilnor", apart := false }
def FnExactExcessOfMilnorSaid : Prop := fnExactExcessOfMilnorRow.holds Try.pinned (OpenSpec.ofChange fnExactExcessOfMilnorSpec)

/-- ITS FALSE NEIGHBOUR: 'it returns false'. Refute it at one input. -/
def fnExactExcessOfMilnorWrong : ChangeSpec := { name := "fnExactExcessOfMilnor", fn := fun _ => fun
  | [d] => { results := [.lit (.bool false)], args := [d] }
  | _ => none }
def FnExactExcessOfMilnorWrongFalsely : Prop := fnExactExcessOfMilnorRow.holds Try.pinned (OpenSpec.ofChange fnExactExcessOfMilnorWrong)

/-- 'laws.FnExactIsDecomposable': WHATEVER THE INPUT: true; the input reads as it did. -/
def fnExactIsDecomposableSpec : ChangeSpec := { name := "fnExactIsDecomposable", fn := fun _ => fun
  | [d] => { results := [.lit (.bool true)], args := [d] }
  | _ => none }
def fnExactIsDecomposableRow : OpenClaim := { program := "ythklgkccldklaaa", sum := "a2ad570725fff2178faae34e45e34efbac876aa5c5be7e32f035a5f3d77e55af", func := "loop.example/g01154/laws.FnExactIsDecomposable", spec := "fnExactIsDecomposable", unfollowed := true, recurses := true, apart := false }
def FnExactIsDecomposableSaid : Prop := fnExactIsDecomposableRow.holds Try.pinned (OpenSpec.ofChange fnExactIsDecomposableSpec)

/-- ITS FALSE NEIGHBOUR: 'it returns false'. Refute it at one input. -/
def fnExactIsDecomposableWrong : ChangeSpec := { name := "fnExactIsDecomposable", fn := fun _ => fun
  | [d] => { results := [.lit (.bool false)], args := [d] }
  | _ => none }
def FnExactIsDecomposableWrongFalsely : Prop := fnExactIsDecomposableRow.holds Try.pinned (OpenSpec.ofChange fnExactIsDecomposableWrong)

/- THE SECOND FORM. 'bulk': how many values and letters a reading holds, each counted each time it is reached (what is shared counts as often as it is met; a slice's spare places count too). A statement '..UptoSaid' is the law's where the arguments, and the package variables that the reading takes, are together of bulk at most 1048576: NARROWER than '..Said'. Prove '..Said' where nothing that the law and all that it calls make is longer than what came in: it says more and counts as full. Else prove '..UptoSaid'. A law counts once. -/
mutual
def uptoBulk {H : Type} : DataW H → Nat
  | .lit (.string bytes) => bytes.length + 1
  | .lit _ => 1
  | .nil => 1
  | .ptr d => uptoBulk d + 1
  | .slice elems spare => uptoBulkAll elems + uptoBulkAll spare + 1
  | .agg parts => uptoBulkAll parts + 1
  | .iface _ d => uptoBulk d + 1
  | .map entries => uptoBulkEntries entries + 1
  | .held _ => 1
def uptoBulkAll {H : Type} : List (DataW H) → Nat
  | [] => 0
  | d :: r => uptoBulk d + uptoBulkAll r
def uptoBulkEntries {H : Type} : List (Lit × DataW H) → Nat
  | [] => 0
  | x :: r => uptoBulkEntry x + uptoBulkEntries r
def uptoBulkEntry {H : Type} : Lit × DataW H → Nat
  | (.string bytes, d) => bytes.length + uptoBulk d + 1
  | (_, d) => uptoBulk d + 1
 end
def uptoSmall : (H : Type) → List (DataW H) → Bool := fun _ ds => decide (uptoBulkAll ds ≤ 1048576)
def OpenSpec.upto (s : _root_.Go.ChangeSpec) : _root_.Go.OpenSpec := { _root_.Go.OpenSpec.ofChange s with cond := some uptoSmall }

/-- 'laws.FnExactElementP', WHERE WHAT IT READS IS OF BULK AT MOST 1048576: true; the input reads as it did. -/
def fnExactElementPUptoRow : OpenClaim := { program := "ythklgkccldklaaa", sum := "a2ad570725fff2178faae34e45e34efbac876aa5c5be7e32f035a5f3d77e55af", func := "loop.example/g01154/laws.FnExactElementP", spec := "fnExactElementP", apart := false, narrowed := true }
def FnExactElementPUptoSaid : Prop := fnExactElementPUptoRow.holds Try.pinned (OpenSpec.upto fnExactElementPSpec)

/-- 'laws.FnExactElementQ', WHERE WHAT IT READS IS OF BULK AT MOST 1048576: true; the input reads as it did. -/
def fnExactElementQUptoRow : OpenClaim := { program := "ythklgkccldklaaa", sum := "a2ad570725fff2178faae34e45e34efbac876aa5c5be7e32f035a5f3d77e55af", func := "loop.example/g01154/laws.FnExactElementQ", spec := "fnExactElementQ", apart := false, narrowed := true }
def FnExactElementQUptoSaid : Prop := fnExactElementQUptoRow.holds Try.pinned (OpenSpec.upto fnExactElementQSpec)

/-- 'laws.FnExactExcessOfMilnor', WHERE WHAT IT READS IS OF BULK AT MOST 1048576: true; the input reads as it did. -/
def fnExactExcessOfMilnorUptoRow : OpenClaim := { program := "ythklgkccldklaaa", sum := "a2ad570725fff2178faae34e45e34efbac876aa5c5be7e32f035a5f3d77e55af", func := "loop.example/g01154/laws.FnExactExcessOfMilnor", spec := "fnExactExcessOfMilnor", apart := false, narrowed := true }
def FnExactExcessOfMilnorUptoSaid : Prop := fnExactExcessOfMilnorUptoRow.holds Try.pinned (OpenSpec.upto fnExactExcessOfMilnorSpec)

/-- 'laws.FnExactIsDecomposable', WHERE WHAT IT READS IS OF BULK AT MOST 1048576: true; the input reads as it did. -/
def fnExactIsDecomposableUptoRow : OpenClaim := { program := "ythklgkccldklaaa", sum := "a2ad570725fff2178faae34e45e34efbac876aa5c5be7e32f035a5f3d77e55af", func := "loop.example/g01154/laws.FnExactIsDecomposable", spec := "fnExactIsDecomposable", unfollowed := true, recurses := true, apart := false, narrowed := true }
def FnExactIsDecomposableUptoSaid : Prop := fnExactIsDecomposableUptoRow.holds Try.pinned (OpenSpec.upto fnExactIsDecomposableSpec)

end Rows
end Go.Proofs.Ythklgkccldklaaa
