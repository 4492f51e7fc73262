/-
  No cell of these rows narrows 'for every input' (looked for: loops, veiled, ifaces, maps, wideKeys, modest, calm, conditions, laid).
  DERIVED. THE GIVEN ROWS OF THIS SEAT. 8 by the template 'for every input the law returns true; each argument reads behind the call as it read before'; 0 by the template 'total and deterministic' (their statements: YtnmilkehggjpfaaTotals.lean).
  GIVEN WITH THE SEED: the statements are not yours to turn. If you find one false, say at which input.
  Laid BY PROGRAM, IN A SANDBOX (cutbox-rows.mjs): the forced cells as the released guide's own fill.sh prints them over the translation 729cd3613cb4201c… (all of the seat's roots in one cut). By AI agents, Wed Nov 11 2026. No macro, syntax, notation, axiom, sorry.
-/
import Derived.Test.YtnmilkehggjpfaaChecked
import GoSem.Claim
import GoSem.ClaimJoined
import GoSem.ClaimMapViews
import Derived.JoinedTies
import Derived.KernelRfl
namespace Go.Proofs.Ytnmilkehggjpfaa
/- THE CELL 'sum', in the pinned program and in every row, IS THE sha256 OF THE DUMP (.gsa) THAT YtnmilkehggjpfaaProg.lean LOADS. Nothing in Lean hashes anything: it is a label: what it is worth is what the hold of that sum in a sandbox is worth. -/
noncomputable def Try.pinned : Pinned := { name := "ytnmilkehggjpfaa", sum := "729cd3613cb4201ca16e98f01f4fea7e3b553d7454327b635d34759c05461a9d", checked := Try.checked }
namespace Rows
def none {H : Type} : Left H := { results := [], args := [] }

/-- 'laws.FnExactIsDual': WHATEVER THE INPUT: true; the input reads as it did. -/
def fnExactIsDualSpec : ChangeSpec := { name := "fnExactIsDual", fn := fun _ => fun
  | [d] => { results := [.lit (.bool true)], args := [d] }
  | _ => none }
def fnExactIsDualRow : OpenClaim := { program := "ytnmilkehggjpfaa", sum := "729cd3613cb4201ca16e98f01f4fea7e3b553d7454327b635d34759c05461a9d", func := "loop.example/g01154/laws.FnExactIsDual", spec := "fnExactIsDual", plainKeys := false, apart := false }
def FnExactIsDualSaid : Prop := fnExactIsDualRow.holds Try.pinned (OpenSpec.ofChange fnExactIsDualSpec)

/-- ITS FALSE NEIGHBOUR: 'it returns false'. Refute it at one input. -/
def fnExactIsDualWrong : ChangeSpec := { name := "fnExactIsDual", fn := fun _ => fun
  | [d] => { results := [.lit (.bool false)], args := [d] }
  | _ => none }
def FnExactIsDualWrongFalsely : Prop := fnExactIsDualRow.holds Try.pinned (OpenSpec.ofChange fnExactIsDualWrong)

/-- 'laws.FnExactAddDual': WHATEVER THE INPUT: true; the input reads as it did. -/
def fnExactAddDualSpec : ChangeSpec := { name := "fnExactAddDual", fn := fun _ => fun
  | [d1, d2] => { results := [.lit (.bool true)], args := [d1, d2] }
  | _ => none }
def fnExactAddDualRow : OpenClaim := { program := "ytnmilkehggjpfaa", sum := "729cd3613cb4201ca16e98f01f4fea7e3b553d7454327b635d34759c05461a9d", func := "loop.example/g01154/laws.FnExactAddDual", spec := "fnExactAddDual", unfollowed := true, recurses := true, plainKeys := false, apart := false }
def FnExactAddDualSaid : Prop := fnExactAddDualRow.holds Try.pinned (OpenSpec.ofChange fnExactAddDualSpec)

/-- ITS FALSE NEIGHBOUR: 'it returns false'. Refute it at one input. -/
def fnExactAddDualWrong : ChangeSpec := { name := "fnExactAddDual", fn := fun _ => fun
  | [d1, d2] => { results := [.lit (.bool false)], args := [d1, d2] }
  | _ => none }
def FnExactAddDualWrongFalsely : Prop := fnExactAddDualRow.holds Try.pinned (OpenSpec.ofChange fnExactAddDualWrong)

/-- 'laws.FnExactDualBasis': WHATEVER THE INPUT: true; the input reads as it did. -/
def fnExactDualBasisSpec : ChangeSpec := { name := "fnExactDualBasis", fn := fun _ => fun
  | [d] => { results := [.lit (.bool true)], args := [d] }
  | _ => none }
def fnExactDualBasisRow : OpenClaim := { program := "ytnmilkehggjpfaa", sum := "729cd3613cb4201ca16e98f01f4fea7e3b553d7454327b635d34759c05461a9d", func := "loop.example/g01154/laws.FnExactDualBasis", spec := "fnExactDualBasis", recurses := true, plainKeys := false, apart := false }
def FnExactDualBasisSaid : Prop := fnExactDualBasisRow.holds Try.pinned (OpenSpec.ofChange fnExactDualBasisSpec)

/-- ITS FALSE NEIGHBOUR: 'it returns false'. Refute it at one input. -/
def fnExactDualBasisWrong : ChangeSpec := { name := "fnExactDualBasis", fn := fun _ => fun
  | [d] => { results := [.lit (.bool false)], args := [d] }
  | _ => none }
def FnExactDualBasisWrongFalsely : Prop := fnExactDualBasisRow.holds Try.pinned (OpenSpec.ofChange fnExactDualBasisWrong)

/-- 'laws.FnExactPairingOf': WHATEVER THE INPUT: true; the input reads as it did. -/
def fnExactPairingOfSpec : ChangeSpec := { name := "fnExactPairingOf", fn := fun _ => fun
  | [d1, d2] => { results := [.lit (.bool true)], args := [d1, d2] }
  | _ => none }
def fnExactPairingOfRow : OpenClaim := { program := "ytnmilkehggjpfaa", sum := "729cd3613cb4201ca16e98f01f4fea7e3b553d7454327b635d34759c05461a9d", func := "loop.example/g01154/laws.FnExactPairingOf", spec := "fnExactPairingOf", unfollowed := true, recurses := true, plainKeys := false, apart := false }
def FnExactPairingOfSaid : Prop := fnExactPairingOfRow.holds Try.pinned (OpenSpec.ofChange fnExactPairingOfSpec)

/-- ITS FALSE NEIGHBOUR: 'it returns false'. Refute it at one input. -/
def fnExactPairingOfWrong : ChangeSpec := { name := "fnExactPairingOf", fn := fun _ => fun
  | [d1, d2] => { results := [.lit (.bool false)], args := [d1, d2] }
  | _ => none }
def FnExactPairingOfWrongFalsely : Prop := fnExactPairingOfRow.holds Try.pinned (OpenSpec.ofChange fnExactPairingOfWrong)

/-- 'laws.FnExactMultiplyDual': WHATEVER THE INPUT: true; the input reads as it did. -/
def fnExactMultiplyDualSpec : ChangeSpec := { name := "fnExactMultiplyDual", fn := fun _ => fun
  | [d1, d2] => { results := [.lit (.bool true)], args := [d1, d2] }
  | _ => none }
def fnExactMultiplyDualRow : OpenClaim := { program := "ytnmilkehggjpfaa", sum := "729cd3613cb4201ca16e98f01f4fea7e3b553d7454327b635d34759c05461a9d", func := "loop.example/g01154/laws.FnExactMultiplyDual", spec := "fnExactMultiplyDual", unfollowed := true, recurses := true, plainKeys := false, apart := false }
def FnExactMultiplyDualSaid : Prop := fnExactMultiplyDualRow.holds Try.pinned (OpenSpec.ofChange fnExactMultiplyDualSpec)

/-- ITS FALSE NEIGHBOUR: 'it returns false'. Refute it at one input. -/
def fnExactMultiplyDualWrong : ChangeSpec := { name := "fnExactMultiplyDual", fn := fun _ => fun
  | [d1, d2] => { results := [.lit (.bool false)], args := [d1, d2] }
  | _ => none }
def FnExactMultiplyDualWrongFalsely : Prop := fnExactMultiplyDualRow.holds Try.pinned (OpenSpec.ofChange fnExactMultiplyDualWrong)

/-- 'laws.FnExactCartanPairs': WHATEVER THE INPUT: true; the input reads as it did. -/
def fnExactCartanPairsSpec : ChangeSpec := { name := "fnExactCartanPairs", fn := fun _ => fun
  | [d] => { results := [.lit (.bool true)], args := [d] }
  | _ => none }
def fnExactCartanPairsRow : OpenClaim := { program := "ytnmilkehggjpfaa", sum := "729cd3613cb4201ca16e98f01f4fea7e3b553d7454327b635d34759c05461a9d", func := "loop.example/g01154/laws.FnExactCartanPairs", spec := "fnExactCartanPairs", unfollowed := true, recurses := true, plainKeys := false, apart := false }
def FnExactCartanPairsSaid : Prop := fnExactCartanPairsRow.holds Try.pinned (OpenSpec.ofChange fnExactCartanPairsSpec)

/-- ITS FALSE NEIGHBOUR: 'it returns false'. Refute it at one input. -/
def fnExactCartanPairsWrong : ChangeSpec := { name := "fnExactCartanPairs", fn := fun _ => fun
  | [d] => { results := [.lit (.bool false)], args := [d] }
  | _ => none }
def FnExactCartanPairsWrongFalsely : Prop := fnExactCartanPairsRow.holds Try.pinned (OpenSpec.ofChange fnExactCartanPairsWrong)

/-- 'laws.FnExactMilnorOfSquares': WHATEVER THE INPUT: true; the input reads as it did. -/
def fnExactMilnorOfSquaresSpec : ChangeSpec := { name := "fnExactMilnorOfSquares", fn := fun _ => fun
  | [d] => { results := [.lit (.bool true)], args := [d] }
  | _ => none }
def fnExactMilnorOfSquaresRow : OpenClaim := { program := "ytnmilkehggjpfaa", sum := "729cd3613cb4201ca16e98f01f4fea7e3b553d7454327b635d34759c05461a9d", func := "loop.example/g01154/laws.FnExactMilnorOfSquares", spec := "fnExactMilnorOfSquares", unfollowed := true, recurses := true, plainKeys := false, apart := false }
def FnExactMilnorOfSquaresSaid : Prop := fnExactMilnorOfSquaresRow.holds Try.pinned (OpenSpec.ofChange fnExactMilnorOfSquaresSpec)

/-- ITS FALSE NEIGHBOUR: 'it returns false'. Refute it at one input. -/
def fnExactMilnorOfSquaresWrong : ChangeSpec := { name := "fnExactMilnorOfSquares", fn := fun _ => fun
  | [d] => { results := [.lit (.bool false)], args := [d] }
  | _ => none }
def FnExactMilnorOfSquaresWrongFalsely : Prop := fnExactMilnorOfSquaresRow.holds Try.pinned (OpenSpec.ofChange fnExactMilnorOfSquaresWrong)

/-- 'laws.FnExactMilnorOfWord': WHATEVER THE INPUT: true; the input reads as it did. -/
def fnExactMilnorOfWordSpec : ChangeSpec := { name := "fnExactMilnorOfWord", fn := fun _ => fun
  | [d] => { results := [.lit (.bool true)], args := [d] }
  | _ => none }
def fnExactMilnorOfWordRow : OpenClaim := { program := "ytnmilkehggjpfaa", sum := "729cd3613cb4201ca16e98f01f4fea7e3b553d7454327b635d34759c05461a9d", func := "loop.example/g01154/laws.FnExactMilnorOfWord", spec := "fnExactMilnorOfWord", unfollowed := true, recurses := true, plainKeys := false, apart := false }
def FnExactMilnorOfWordSaid : Prop := fnExactMilnorOfWordRow.holds Try.pinned (OpenSpec.ofChange fnExactMilnorOfWordSpec)

/-- ITS FALSE NEIGHBOUR: 'it returns false'. Refute it at one input. -/
def fnExactMilnorOfWordWrong : ChangeSpec := { name := "fnExactMilnorOfWord", fn := fun _ => fun
  | [d] => { results := [.lit (.bool false)], args := [d] }
  | _ => none }
def FnExactMilnorOfWordWrongFalsely : Prop := fnExactMilnorOfWordRow.holds Try.pinned (OpenSpec.ofChange fnExactMilnorOfWordWrong)

/- THE SECOND FORM. 'bulk': how many values and letters a reading holds, each counted each time it is reached (what is shared counts as often as it is met; a slice's spare places count too). A statement '..UptoSaid' is the law's where the arguments, and the package variables that the reading takes, are together of bulk at most 1048576: NARROWER than '..Said'. Prove '..Said' where nothing that the law and all that it calls make is longer than what came in: it says more and counts as full. Else prove '..UptoSaid'. A law counts once. -/
mutual
def uptoBulk {H : Type} : DataW H → Nat
  | .lit (.string bytes) => bytes.length + 1
  | .lit _ => 1
  | .nil => 1
  | .ptr d => uptoBulk d + 1
  | .slice elems spare => uptoBulkAll elems + uptoBulkAll spare + 1
  | .agg parts => uptoBulkAll parts + 1
  | .iface _ d => uptoBulk d + 1
  | .map entries => uptoBulkEntries entries + 1
  | .held _ => 1
def uptoBulkAll {H : Type} : List (DataW H) → Nat
  | [] => 0
  | d :: r => uptoBulk d + uptoBulkAll r
def uptoBulkEntries {H : Type} : List (Lit × DataW H) → Nat
  | [] => 0
  | x :: r => uptoBulkEntry x + uptoBulkEntries r
def uptoBulkEntry {H : Type} : Lit × DataW H → Nat
  | (.string bytes, d) => bytes.length + uptoBulk d + 1
  | (_, d) => uptoBulk d + 1
 end
def uptoSmall : (H : Type) → List (DataW H) → Bool := fun _ ds => decide (uptoBulkAll ds ≤ 1048576)
def OpenSpec.upto (s : _root_.Go.ChangeSpec) : _root_.Go.OpenSpec := { _root_.Go.OpenSpec.ofChange s with cond := some uptoSmall }

/-- 'laws.FnExactIsDual', WHERE WHAT IT READS IS OF BULK AT MOST 1048576: true; the input reads as it did. -/
def fnExactIsDualUptoRow : OpenClaim := { program := "ytnmilkehggjpfaa", sum := "729cd3613cb4201ca16e98f01f4fea7e3b553d7454327b635d34759c05461a9d", func := "loop.example/g01154/laws.FnExactIsDual", spec := "fnExactIsDual", plainKeys := false, apart := false, narrowed := true }
def FnExactIsDualUptoSaid : Prop := fnExactIsDualUptoRow.holds Try.pinned (OpenSpec.upto fnExactIsDualSpec)

/-- 'laws.FnExactAddDual', WHERE WHAT IT READS IS OF BULK AT MOST 1048576: true; the input reads as it did. -/
def fnExactAddDualUptoRow : OpenClaim := { program := "ytnmilkehggjpfaa", sum := "729cd3613cb4201ca16e98f01f4fea7e3b553d7454327b635d34759c05461a9d", func := "loop.example/g01154/laws.FnExactAddDual", spec := "fnExactAddDual", unfollowed := true, recurses := true, plainKeys := false, apart := false, narrowed := true }
def FnExactAddDualUptoSaid : Prop := fnExactAddDualUptoRow.holds Try.pinned (OpenSpec.upto fnExactAddDualSpec)

/-- 'laws.FnExactDualBasis', WHERE WHAT IT READS IS OF BULK AT MOST 1048576: true; the input reads as it did. -/
def fnExactDualBasisUptoRow : OpenClaim := { program := "ytnmilkehggjpfaa", sum := "729cd3613cb4201ca16e98f01f4fea7e3b553d7454327b635d34759c05461a9d", func := "loop.example/g01154/laws.FnExactDualBasis", spec := "fnExactDualBasis", recurses := true, plainKeys := false, apart := false, narrowed := true }
def FnExactDualBasisUptoSaid : Prop := fnExactDualBasisUptoRow.holds Try.pinned (OpenSpec.upto fnExactDualBasisSpec)

/-- 'laws.FnExactPairingOf', WHERE WHAT IT READS IS OF BULK AT MOST 1048576: true; the input reads as it did. -/
def fnExactPairingOfUptoRow : OpenClaim := { program := "ytnmilkehggjpfaa", sum := "729cd3613cb4201ca16e98f01f4fea7e3b553d7454327b635d34759c05461a9d", func := "loop.example/g01154/laws.FnExactPairingOf", spec := "fnExactPairingOf", unfollowed := true, recurses := true, plainKeys := false, apart := false, narrowed := true }
def FnExactPairingOfUptoSaid : Prop := fnExactPairingOfUptoRow.holds Try.pinned (OpenSpec.upto fnExactPairingOfSpec)

/-- 'laws.FnExactMultiplyDual', WHERE WHAT IT READS IS OF BULK AT MOST 1048576: true; the input reads as it did. -/
def fnExactMultiplyDualUptoRow : OpenClaim := { program := "ytnmilkehggjpfaa", sum := "729cd3613cb4201ca16e98f01f4fea7e3b553d7454327b635d34759c05461a9d", func := "loop.example/g01154/laws.FnExactMultiplyDual", spec := "fnExactMultiplyDual", unfollowed := true, recurses := true, plainKeys := false, apart := false, narrowed := true }
def FnExactMultiplyDualUptoSaid : Prop := fnExactMultiplyDualUptoRow.holds Try.pinned (OpenSpec.upto fnExactMultiplyDualSpec)

/-- 'laws.FnExactCartanPairs', WHERE WHAT IT READS IS OF BULK AT MOST 1048576: true; the input reads as it did. -/
def fnExactCartanPairsUptoRow : OpenClaim := { program := "ytnmilkehggjpfaa", sum := "729cd3613cb4201ca16e98f01f4fea7e3b553d7454327b635d34759c05461a9d", func := "loop.example/g01154/laws.FnExactCartanPairs", spec := "fnExactCartanPairs", unfollowed := true, recurses := true, plainKeys := false, apart := false, narrowed := true }
def FnExactCartanPairsUptoSaid : Prop := fnExactCartanPairsUptoRow.holds Try.pinned (OpenSpec.upto fnExactCartanPairsSpec)

/-- 'laws.FnExactMilnorOfSquares', WHERE WHAT IT READS IS OF BULK AT MOST 1048576: true; the input reads as it did. -/
def fnExactMilnorOfSquaresUptoRow : OpenClaim := { program := "ytnmilkehggjpfaa", sum := "729cd3613cb4201ca16e98f01f4fea7e3b553d7454327b635d34759c05461a9d", func := "loop.example/g01154/laws.FnExactMilnorOfSquares", spec := "fnExactMilnorOfSquares", unfollowed := true, recurses := true, plainKeys := false, apart := false, narrowed := true }
def FnExactMilnorOfSquaresUptoSaid : Prop := fnExactMilnorOfSquaresUptoRow.holds Try.pinned (OpenSpec.upto fnExactMilnorOfSquaresSpec)

/-- 'laws.FnExactMilnorOfWord', WHERE WHAT IT READS IS OF BULK AT MOST 1048576: true; the input reads as it did. -/
def fnExactMilnorOfWordUptoRow : OpenClaim := { program := "ytnmilkehggjpfaa", sum := "729cd3613cb4201ca16e98f01f4fea7e3b553d7454327b635d34759c05461a9d", func := "loop.example/g01154/laws.FnExactMilnorOfWord", spec := "fnExactMilnorOfWord", unfollowed := true, recurses := true, plainKeys := false, apart := false, narrowed := true }
def FnExactMilnorOfWordUptoSaid : Prop := fnExactMilnorOfWordUptoRow.holds Try.pinned (OpenSpec.upto fnExactMilnorOfWordSpec)

end Rows
end Go.Proofs.Ytnmilkehggjpfaa
