/-
  No cell of these rows narrows 'for every input' (looked for: loops, veiled, ifaces, maps, wideKeys, modest, calm, conditions, laid).
  DERIVED. THE GIVEN ROWS OF THIS SEAT. 13 by the template 'for every input the law returns true; each argument reads behind the call as it read before'; 0 by the template 'total and deterministic' (their statements: YtcbfcpngpnlodaaTotals.lean).
  GIVEN WITH THE SEED: the statements are not yours to turn. If you find one false, say at which input.
  Laid BY PROGRAM, IN A SANDBOX (cutbox-rows.mjs): the forced cells as the released guide's own fill.sh prints them over the translation fa1ec01fcbc8f26d… (all of the seat's roots in one cut). By AI agents, Wed Nov 11 2026. No macro, syntax, notation, axiom, sorry.
-/
import Derived.Test.YtcbfcpngpnlodaaChecked
import GoSem.Claim
import GoSem.ClaimJoined
import GoSem.ClaimMapViews
import Derived.JoinedTies
import Derived.KernelRfl
namespace Go.Proofs.Ytcbfcpngpnlodaa
/- THE CELL 'sum', in the pinned program and in every row, IS THE sha256 OF THE DUMP (.gsa) THAT YtcbfcpngpnlodaaProg.lean LOADS. Nothing in Lean hashes anything: it is a label: what it is worth is what the hold of that sum in a sandbox is worth. -/
noncomputable def Try.pinned : Pinned := { name := "ytcbfcpngpnlodaa", sum := "fa1ec01fcbc8f26df8e846a26f495b050fea3105381b45787dc7bc1ab46131c2", checked := Try.checked }
namespace Rows
def none {H : Type} : Left H := { results := [], args := [] }

/-- 'laws.FnExactIsProfile': WHATEVER THE INPUT: true; the input reads as it did. -/
def fnExactIsProfileSpec : ChangeSpec := { name := "fnExactIsProfile", fn := fun _ => fun
  | [d] => { results := [.lit (.bool true)], args := [d] }
  | _ => none }
def fnExactIsProfileRow : OpenClaim := { program := "ytcbfcpngpnlodaa", sum := "fa1ec01fcbc8f26df8e846a26f495b050fea3105381b45787dc7bc1ab46131c2", func := "loop.example/g01154/laws.FnExactIsProfile", spec := "fnExactIsProfile", plainKeys := false, apart := false }
def FnExactIsProfileSaid : Prop := fnExactIsProfileRow.holds Try.pinned (OpenSpec.ofChange fnExactIsProfileSpec)

/-- ITS FALSE NEIGHBOUR: 'it returns false'. Refute it at one input. -/
def fnExactIsProfileWrong : ChangeSpec := { name := "fnExactIsProfile", fn := fun _ => fun
  | [d] => { results := [.lit (.bool false)], args := [d] }
  | _ => none }
def FnExactIsProfileWrongFalsely : Prop := fnExactIsProfileRow.holds Try.pinned (OpenSpec.ofChange fnExactIsProfileWrong)

/-- 'laws.FnExactIsClosedProfile': WHATEVER THE INPUT: true; the input reads as it did. -/
def fnExactIsClosedProfileSpec : ChangeSpec := { name := "fnExactIsClosedProfile", fn := fun _ => fun
  | [d] => { results := [.lit (.bool true)], args := [d] }
  | _ => none }
def fnExactIsClosedProfileRow : OpenClaim := { program := "ytcbfcpngpnlodaa", sum := "fa1ec01fcbc8f26df8e846a26f495b050fea3105381b45787dc7bc1ab46131c2", func := "loop.example/g01154/laws.FnExactIsClosedProfile", spec := "fnExactIsClosedProfile", plainKeys := false, apart := false }
def FnExactIsClosedProfileSaid : Prop := fnExactIsClosedProfileRow.holds Try.pinned (OpenSpec.ofChange fnExactIsClosedProfileSpec)

/-- ITS FALSE NEIGHBOUR: 'it returns false'. Refute it at one input. -/
def fnExactIsClosedProfileWrong : ChangeSpec := { name := "fnExactIsClosedProfile", fn := fun _ => fun
  | [d] => { results := [.lit (.bool false)], args := [d] }
  | _ => none }
def FnExactIsClosedProfileWrongFalsely : Prop := fnExactIsClosedProfileRow.holds Try.pinned (OpenSpec.ofChange fnExactIsClosedProfileWrong)

/-- 'laws.FnExactProfileOfA': WHATEVER THE INPUT: true; the input reads as it did. -/
def fnExactProfileOfASpec : ChangeSpec := { name := "fnExactProfileOfA", fn := fun _ => fun
  | [d] => { results := [.lit (.bool true)], args := [d] }
  | _ => none }
def fnExactProfileOfARow : OpenClaim := { program := "ytcbfcpngpnlodaa", sum := "fa1ec01fcbc8f26df8e846a26f495b050fea3105381b45787dc7bc1ab46131c2", func := "loop.example/g01154/laws.FnExactProfileOfA", spec := "fnExactProfileOfA", plainKeys := false, apart := false }
def FnExactProfileOfASaid : Prop := fnExactProfileOfARow.holds Try.pinned (OpenSpec.ofChange fnExactProfileOfASpec)

/-- ITS FALSE NEIGHBOUR: 'it returns false'. Refute it at one input. -/
def fnExactProfileOfAWrong : ChangeSpec := { name := "fnExactProfileOfA", fn := fun _ => fun
  | [d] => { results := [.lit (.bool false)], args := [d] }
  | _ => none }
def FnExactProfileOfAWrongFalsely : Prop := fnExactProfileOfARow.holds Try.pinned (OpenSpec.ofChange fnExactProfileOfAWrong)

/-- 'laws.FnExactClosureOfProfile': WHATEVER THE INPUT: true; the input reads as it did. -/
def fnExactClosureOfProfileSpec : ChangeSpec := { name := "fnExactClosureOfProfile", fn := fun _ => fun
  | [d] => { results := [.lit (.bool true)], args := [d] }
  | _ => none }
def fnExactClosureOfProfileRow : OpenClaim := { program := "ytcbfcpngpnlodaa", sum := "fa1ec01fcbc8f26df8e846a26f495b050fea3105381b45787dc7bc1ab46131c2", func := "loop.example/g01154/laws.FnExactClosureOfProfile", spec := "fnExactClosureOfProfile", plainKeys := false, apart := false }
def FnExactClosureOfProfileSaid : Prop := fnExactClosureOfProfileRow.holds Try.pinned (OpenSpec.ofChange fnExactClosureOfProfileSpec)

/-- ITS FALSE NEIGHBOUR: 'it returns false'. Refute it at one input. -/
def fnExactClosureOfProfileWrong : ChangeSpec := { name := "fnExactClosureOfProfile", fn := fun _ => fun
  | [d] => { results := [.lit (.bool false)], args := [d] }
  | _ => none }
def FnExactClosureOfProfileWrongFalsely : Prop := fnExactClosureOfProfileRow.holds Try.pinned (OpenSpec.ofChange fnExactClosureOfProfileWrong)

/-- 'laws.FnExactMeetOfProfiles': WHATEVER THE INPUT: true; the input reads as it did. -/
def fnExactMeetOfProfilesSpec : ChangeSpec := { name := "fnExactMeetOfProfiles", fn := fun _ => fun
  | [d1, d2] => { results := [.lit (.bool true)], args := [d1, d2] }
  | _ => none }
def fnExactMeetOfProfilesRow : OpenClaim := { program := "ytcbfcpngpnlodaa", sum := "fa1ec01fcbc8f26df8e846a26f495b050fea3105381b45787dc7bc1ab46131c2", func := "loop.example/g01154/laws.FnExactMeetOfProfiles", spec := "fnExactMeetOfProfiles", plainKeys := false, apart := false }
def FnExactMeetOfProfilesSaid : Prop := fnExactMeetOfProfilesRow.holds Try.pinned (OpenSpec.ofChange fnExactMeetOfProfilesSpec)

/-- ITS FALSE NEIGHBOUR: 'it returns false'. Refute it at one input. -/
def fnExactMeetOfProfilesWrong : ChangeSpec := { name := "fnExactMeetOfProfiles", fn := fun _ => fun
  | [d1, d2] => { results := [.lit (.bool false)], args := [d1, d2] }
  | _ => none }
def FnExactMeetOfProfilesWrongFalsely : Prop := fnExactMeetOfProfilesRow.holds Try.pinned (OpenSpec.ofChange fnExactMeetOfProfilesWrong)

/-- 'laws.FnExactIsContainedProfile': WHATEVER THE INPUT: true; the input reads as it did. -/
def fnExactIsContainedProfileSpec : ChangeSpec := { name := "fnExactIsContainedProfile", fn := fun _ => fun
  | [d1, d2] => { results := [.lit (.bool true)], args := [d1, d2] }
  | _ => none }
def fnExactIsContainedProfileRow : OpenClaim := { program := "ytcbfcpngpnlodaa", sum := "fa1ec01fcbc8f26df8e846a26f495b050fea3105381b45787dc7bc1ab46131c2", func := "loop.example/g01154/laws.FnExactIsContainedProfile", spec := "fnExactIsContainedProfile", plainKeys := false, apart := false }
def FnExactIsContainedProfileSaid : Prop := fnExactIsContainedProfileRow.holds Try.pinned (OpenSpec.ofChange fnExactIsContainedProfileSpec)

/-- ITS FALSE NEIGHBOUR: 'it returns false'. Refute it at one input. -/
def fnExactIsContainedProfileWrong : ChangeSpec := { name := "fnExactIsContainedProfile", fn := fun _ => fun
  | [d1, d2] => { results := [.lit (.bool false)], args := [d1, d2] }
  | _ => none }
def FnExactIsContainedProfileWrongFalsely : Prop := fnExactIsContainedProfileRow.holds Try.pinned (OpenSpec.ofChange fnExactIsContainedProfileWrong)

/-- 'laws.FnExactIsInPart': WHATEVER THE INPUT: true; the input reads as it did. -/
def fnExactIsInPartSpec : ChangeSpec := { name := "fnExactIsInPart", fn := fun _ => fun
  | [d1, d2] => { results := [.lit (.bool true)], args := [d1, d2] }
  | _ => none }
def fnExactIsInPartRow : OpenClaim := { program := "ytcbfcpngpnlodaa", sum := "fa1ec01fcbc8f26df8e846a26f495b050fea3105381b45787dc7bc1ab46131c2", func := "loop.example/g01154/laws.FnExactIsInPart", spec := "fnExactIsInPart", plainKeys := false, apart := false }
def FnExactIsInPartSaid : Prop := fnExactIsInPartRow.holds Try.pinned (OpenSpec.ofChange fnExactIsInPartSpec)

/-- ITS FALSE NEIGHBOUR: 'it returns false'. Refute it at one input. -/
def fnExactIsInPartWrong : ChangeSpec := { name := "fnExactIsInPart", fn := fun _ => fun
  | [d1, d2] => { results := [.lit (.bool false)], args := [d1, d2] }
  | _ => none }
def FnExactIsInPartWrongFalsely : Prop := fnExactIsInPartRow.holds Try.pinned (OpenSpec.ofChange fnExactIsInPartWrong)

/-- 'laws.FnExactBasisOfProfile': WHATEVER THE INPUT: true; the input reads as it did. -/
def fnExactBasisOfProfileSpec : ChangeSpec := { name := "fnExactBasisOfProfile", fn := fun _ => fun
  | [d1, d2] => { results := [.lit (.bool true)], args := [d1, d2] }
  | _ => none }
def fnExactBasisOfProfileRow : OpenClaim := { program := "ytcbfcpngpnlodaa", sum := "fa1ec01fcbc8f26df8e846a26f495b050fea3105381b45787dc7bc1ab46131c2", func := "loop.example/g01154/laws.FnExactBasisOfProfile", spec := "fnExactBasisOfProfile", unfollowed := true, recurses := true, plainKeys := false, apart := false }
def FnExactBasisOfProfileSaid : Prop := fnExactBasisOfProfileRow.holds Try.pinned (OpenSpec.ofChange fnExactBasisOfProfileSpec)

/-- ITS FALSE NEIGHBOUR: 'it returns false'. Refute it at one input. -/
def fnExactBasisOfProfileWrong : ChangeSpec := { name := "fnExactBasisOfProfile", fn := fun _ => fun
  | [d1, d2] => { results := [.lit (.bool false)], args := [d1, d2] }
  | _ => none }
def FnExactBasisOfProfileWrongFalsely : Prop := fnExactBasisOfProfileRow.holds Try.pinned (OpenSpec.ofChange fnExactBasisOfProfileWrong)

/-- 'laws.FnExactDimensionOfProfile': WHATEVER THE INPUT: true; the input reads as it did. -/
def fnExactDimensionOfProfileSpec : ChangeSpec := { name := "fnExactDimensionOfProfile", fn := fun _ => fun
  | [d] => { results := [.lit (.bool true)], args := [d] }
  | _ => none }
def fnExactDimensionOfProfileRow : OpenClaim := { program := "ytcbfcpngpnlodaa", sum := "fa1ec01fcbc8f26df8e846a26f495b050fea3105381b45787dc7bc1ab46131c2", func := "loop.example/g01154/laws.FnExactDimensionOfProfile", spec := "fnExactDimensionOfProfile", plainKeys := false, apart := false }
def FnExactDimensionOfProfileSaid : Prop := fnExactDimensionOfProfileRow.holds Try.pinned (OpenSpec.ofChange fnExactDimensionOfProfileSpec)

/-- ITS FALSE NEIGHBOUR: 'it returns false'. Refute it at one input. -/
def fnExactDimensionOfProfileWrong : ChangeSpec := { name := "fnExactDimensionOfProfile", fn := fun _ => fun
  | [d] => { results := [.lit (.bool false)], args := [d] }
  | _ => none }
def FnExactDimensionOfProfileWrongFalsely : Prop := fnExactDimensionOfProfileRow.holds Try.pinned (OpenSpec.ofChange fnExactDimensionOfProfileWrong)

/-- 'laws.FnExactTopOfProfile': WHATEVER THE INPUT: true; the input reads as it did. -/
def fnExactTopOfProfileSpec : ChangeSpec := { name := "fnExactTopOfProfile", fn := fun _ => fun
  | [d] => { results := [.lit (.bool true)], args := [d] }
  | _ => none }
def fnExactTopOfProfileRow : OpenClaim := { program := "ytcbfcpngpnlodaa", sum := "fa1ec01fcbc8f26df8e846a26f495b050fea3105381b45787dc7bc1ab46131c2", func := "loop.example/g01154/laws.FnExactTopOfProfile", spec := "fnExactTopOfProfile", plainKeys := false, apart := false }
def FnExactTopOfProfileSaid : Prop := fnExactTopOfProfileRow.holds Try.pinned (OpenSpec.ofChange fnExactTopOfProfileSpec)

/-- ITS FALSE NEIGHBOUR: 'it returns false'. Refute it at one input. -/
def fnExactTopOfProfileWrong : ChangeSpec := { name := "fnExactTopOfProfile", fn := fun _ => fun
  | [d] => { results := [.lit (.bool false)], args := [d] }
  | _ => none }
def FnExactTopOfProfileWrongFalsely : Prop := fnExactTopOfProfileRow.holds Try.pinned (OpenSpec.ofChange fnExactTopOfProfileWrong)

/-- 'laws.FnExactSeriesOfProfile': WHATEVER THE INPUT: true; the input reads as it did. -/
def fnExactSeriesOfProfileSpec : ChangeSpec := { name := "fnExactSeriesOfProfile", fn := fun _ => fun
  | [d1, d2] => { results := [.lit (.bool true)], args := [d1, d2] }
  | _ => none }
def fnExactSeriesOfProfileRow : OpenClaim := { program := "ytcbfcpngpnlodaa", sum := "fa1ec01fcbc8f26df8e846a26f495b050fea3105381b45787dc7bc1ab46131c2", func := "loop.example/g01154/laws.FnExactSeriesOfProfile", spec := "fnExactSeriesOfProfile", plainKeys := false, apart := false }
def FnExactSeriesOfProfileSaid : Prop := fnExactSeriesOfProfileRow.holds Try.pinned (OpenSpec.ofChange fnExactSeriesOfProfileSpec)

/-- ITS FALSE NEIGHBOUR: 'it returns false'. Refute it at one input. -/
def fnExactSeriesOfProfileWrong : ChangeSpec := { name := "fnExactSeriesOfProfile", fn := fun _ => fun
  | [d1, d2] => { results := [.lit (.bool false)], args := [d1, d2] }
  | _ => none }
def FnExactSeriesOfProfileWrongFalsely : Prop := fnExactSeriesOfProfileRow.holds Try.pinned (OpenSpec.ofChange fnExactSeriesOfProfileWrong)

/-- 'laws.FnExactQuotientSeries': WHATEVER THE INPUT: true; the input reads as it did. -/
def fnExactQuotientSeriesSpec : ChangeSpec := { name := "fnExactQuotientSeries", fn := fun _ => fun
  | [d1, d2] => { results := [.lit (.bool true)], args := [d1, d2] }
  | _ => none }
def fnExactQuotientSeriesRow : OpenClaim := { program := "ytcbfcpngpnlodaa", sum := "fa1ec01fcbc8f26df8e846a26f495b050fea3105381b45787dc7bc1ab46131c2", func := "loop.example/g01154/laws.FnExactQuotientSeries", spec := "fnExactQuotientSeries", plainKeys := false, apart := false }
def FnExactQuotientSeriesSaid : Prop := fnExactQuotientSeriesRow.holds Try.pinned (OpenSpec.ofChange fnExactQuotientSeriesSpec)

/-- ITS FALSE NEIGHBOUR: 'it returns false'. Refute it at one input. -/
def fnExactQuotientSeriesWrong : ChangeSpec := { name := "fnExactQuotientSeries", fn := fun _ => fun
  | [d1, d2] => { results := [.lit (.bool false)], args := [d1, d2] }
  | _ => none }
def FnExactQuotientSeriesWrongFalsely : Prop := fnExactQuotientSeriesRow.holds Try.pinned (OpenSpec.ofChange fnExactQuotientSeriesWrong)

/-- 'laws.FnExactProfileOfElement': WHATEVER THE INPUT: true; the input reads as it did. -/
def fnExactProfileOfElementSpec : ChangeSpec := { name := "fnExactProfileOfElement", fn := fun _ => fun
  | [d] => { results := [.lit (.bool true)], args := [d] }
  | _ => none }
def fnExactProfileOfElementRow : OpenClaim := { program := "ytcbfcpngpnlodaa", sum := "fa1ec01fcbc8f26df8e846a26f495b050fea3105381b45787dc7bc1ab46131c2", func := "loop.example/g01154/laws.FnExactProfileOfElement", spec := "fnExactProfileOfElement", plainKeys := false, apart := false }
def FnExactProfileOfElementSaid : Prop := fnExactProfileOfElementRow.holds Try.pinned (OpenSpec.ofChange fnExactProfileOfElementSpec)

/-- ITS FALSE NEIGHBOUR: 'it returns false'. Refute it at one input. -/
def fnExactProfileOfElementWrong : ChangeSpec := { name := "fnExactProfileOfElement", fn := fun _ => fun
  | [d] => { results := [.lit (.bool false)], args := [d] }
  | _ => none }
def FnExactProfileOfElementWrongFalsely : Prop := fnExactProfileOfElementRow.holds Try.pinned (OpenSpec.ofChange fnExactProfileOfElementWrong)

/- THE SECOND FORM. 'bulk': how many values and letters a reading holds, each counted each time it is reached (what is shared counts as often as it is met; a slice's spare places count too). A statement '..UptoSaid' is the law's where the arguments, and the package variables that the reading takes, are together of bulk at most 1048576: NARROWER than '..Said'. Prove '..Said' where nothing that the law and all that it calls make is longer than what came in: it says more and counts as full. Else prove '..UptoSaid'. A law counts once. -/
mutual
def uptoBulk {H : Type} : DataW H → Nat
  | .lit (.string bytes) => bytes.length + 1
  | .lit _ => 1
  | .nil => 1
  | .ptr d => uptoBulk d + 1
  | .slice elems spare => uptoBulkAll elems + uptoBulkAll spare + 1
  | .agg parts => uptoBulkAll parts + 1
  | .iface _ d => uptoBulk d + 1
  | .map entries => uptoBulkEntries entries + 1
  | .held _ => 1
def uptoBulkAll {H : Type} : List (DataW H) → Nat
  | [] => 0
  | d :: r => uptoBulk d + uptoBulkAll r
def uptoBulkEntries {H : Type} : List (Lit × DataW H) → Nat
  | [] => 0
  | x :: r => uptoBulkEntry x + uptoBulkEntries r
def uptoBulkEntry {H : Type} : Lit × DataW H → Nat
  | (.string bytes, d) => bytes.length + uptoBulk d + 1
  | (_, d) => uptoBulk d + 1
 end
def uptoSmall : (H : Type) → List (DataW H) → Bool := fun _ ds => decide (uptoBulkAll ds ≤ 1048576)
def OpenSpec.upto (s : _root_.Go.ChangeSpec) : _root_.Go.OpenSpec := { _root_.Go.OpenSpec.ofChange s with cond := some uptoSmall }

/-- 'laws.FnExactIsProfile', WHERE WHAT IT READS IS OF BULK AT MOST 1048576: true; the input reads as it did. -/
def fnExactIsProfileUptoRow : OpenClaim := { program := "ytcbfcpngpnlodaa", sum := "fa1ec01fcbc8f26df8e846a26f495b050fea3105381b45787dc7bc1ab46131c2", func := "loop.example/g01154/laws.FnExactIsProfile", spec := "fnExactIsProfile", plainKeys := false, apart := false, narrowed := true }
def FnExactIsProfileUptoSaid : Prop := fnExactIsProfileUptoRow.holds Try.pinned (OpenSpec.upto fnExactIsProfileSpec)

/-- 'laws.FnExactIsClosedProfile', WHERE WHAT IT READS IS OF BULK AT MOST 1048576: true; the input reads as it did. -/
def fnExactIsClosedProfileUptoRow : OpenClaim := { program := "ytcbfcpngpnlodaa", sum := "fa1ec01fcbc8f26df8e846a26f495b050fea3105381b45787dc7bc1ab46131c2", func := "loop.example/g01154/laws.FnExactIsClosedProfile", spec := "fnExactIsClosedProfile", plainKeys := false, apart := false, narrowed := true }
def FnExactIsClosedProfileUptoSaid : Prop := fnExactIsClosedProfileUptoRow.holds Try.pinned (OpenSpec.upto fnExactIsClosedProfileSpec)

/-- 'laws.FnExactProfileOfA', WHERE WHAT IT READS IS OF BULK AT MOST 1048576: true; the input reads as it did. -/
def fnExactProfileOfAUptoRow : OpenClaim := { program := "ytcbfcpngpnlodaa", sum := "fa1ec01fcbc8f26df8e846a26f495b050fea3105381b45787dc7bc1ab46131c2", func := "loop.example/g01154/laws.FnExactProfileOfA", spec := "fnExactProfileOfA", plainKeys := false, apart := false, narrowed := true }
def FnExactProfileOfAUptoSaid : Prop := fnExactProfileOfAUptoRow.holds Try.pinned (OpenSpec.upto fnExactProfileOfASpec)

/-- 'laws.FnExactClosureOfProfile', WHERE WHAT IT READS IS OF BULK AT MOST 1048576: true; the input reads as it did. -/
def fnExactClosureOfProfileUptoRow : OpenClaim := { program := "ytcbfcpngpnlodaa", sum := "fa1ec01fcbc8f26df8e846a26f495b050fea3105381b45787dc7bc1ab46131c2", func := "loop.example/g01154/laws.FnExactClosureOfProfile", spec := "fnExactClosureOfProfile", plainKeys := false, apart := false, narrowed := true }
def FnExactClosureOfProfileUptoSaid : Prop := fnExactClosureOfProfileUptoRow.holds Try.pinned (OpenSpec.upto fnExactClosureOfProfileSpec)

/-- 'laws.FnExactMeetOfProfiles', WHERE WHAT IT READS IS OF BULK AT MOST 1048576: true; the input reads as it did. -/
def fnExactMeetOfProfilesUptoRow : OpenClaim := { program := "ytcbfcpngpnlodaa", sum := "fa1ec01fcbc8f26df8e846a26f495b050fea3105381b45787dc7bc1ab46131c2", func := "loop.example/g01154/laws.FnExactMeetOfProfiles", spec := "fnExactMeetOfProfiles", plainKeys := false, apart := false, narrowed := true }
def FnExactMeetOfProfilesUptoSaid : Prop := fnExactMeetOfProfilesUptoRow.holds Try.pinned (OpenSpec.upto fnExactMeetOfProfilesSpec)

/-- 'laws.FnExactIsContainedProfile', WHERE WHAT IT READS IS OF BULK AT MOST 1048576: true; the input reads as it did. -/
def fnExactIsContainedProfileUptoRow : OpenClaim := { program := "ytcbfcpngpnlodaa", sum := "fa1ec01fcbc8f26df8e846a26f495b050fea3105381b45787dc7bc1ab46131c2", func := "loop.example/g01154/laws.FnExactIsContainedProfile", spec := "fnExactIsContainedProfile", plainKeys := false, apart := false, narrowed := true }
def FnExactIsContainedProfileUptoSaid : Prop := fnExactIsContainedProfileUptoRow.holds Try.pinned (OpenSpec.upto fnExactIsContainedProfileSpec)

/-- 'laws.FnExactIsInPart', WHERE WHAT IT READS IS OF BULK AT MOST 1048576: true; the input reads as it did. -/
def fnExactIsInPartUptoRow : OpenClaim := { program := "ytcbfcpngpnlodaa", sum := "fa1ec01fcbc8f26df8e846a26f495b050fea3105381b45787dc7bc1ab46131c2", func := "loop.example/g01154/laws.FnExactIsInPart", spec := "fnExactIsInPart", plainKeys := false, apart := false, narrowed := true }
def FnExactIsInPartUptoSaid : Prop := fnExactIsInPartUptoRow.holds Try.pinned (OpenSpec.upto fnExactIsInPartSpec)

/-- 'laws.FnExactBasisOfProfile', WHERE WHAT IT READS IS OF BULK AT MOST 1048576: true; the input reads as it did. -/
def fnExactBasisOfProfileUptoRow : OpenClaim := { program := "ytcbfcpngpnlodaa", sum := "fa1ec01fcbc8f26df8e846a26f495b050fea3105381b45787dc7bc1ab46131c2", func := "loop.example/g01154/laws.FnExactBasisOfProfile", spec := "fnExactBasisOfProfile", unfollowed := true, recurses := true, plainKeys := false, apart := false, narrowed := true }
def FnExactBasisOfProfileUptoSaid : Prop := fnExactBasisOfProfileUptoRow.holds Try.pinned (OpenSpec.upto fnExactBasisOfProfileSpec)

/-- 'laws.FnExactDimensionOfProfile', WHERE WHAT IT READS IS OF BULK AT MOST 1048576: true; the input reads as it did. -/
def fnExactDimensionOfProfileUptoRow : OpenClaim := { program := "ytcbfcpngpnlodaa", sum := "fa1ec01fcbc8f26df8e846a26f495b050fea3105381b45787dc7bc1ab46131c2", func := "loop.example/g01154/laws.FnExactDimensionOfProfile", spec := "fnExactDimensionOfProfile", plainKeys := false, apart := false, narrowed := true }
def FnExactDimensionOfProfileUptoSaid : Prop := fnExactDimensionOfProfileUptoRow.holds Try.pinned (OpenSpec.upto fnExactDimensionOfProfileSpec)

/-- 'laws.FnExactTopOfProfile', WHERE WHAT IT READS IS OF BULK AT MOST 1048576: true; the input reads as it did. -/
def fnExactTopOfProfileUptoRow : OpenClaim := { program := "ytcbfcpngpnlodaa", sum := "fa1ec01fcbc8f26df8e846a26f495b050fea3105381b45787dc7bc1ab46131c2", func := "loop.example/g01154/laws.FnExactTopOfProfile", spec := "fnExactTopOfProfile", plainKeys := false, apart := false, narrowed := true }
def FnExactTopOfProfileUptoSaid : Prop := fnExactTopOfProfileUptoRow.holds Try.pinned (OpenSpec.upto fnExactTopOfProfileSpec)

/-- 'laws.FnExactSeriesOfProfile', WHERE WHAT IT READS IS OF BULK AT MOST 1048576: true; the input reads as it did. -/
def fnExactSeriesOfProfileUptoRow : OpenClaim := { program := "ytcbfcpngpnlodaa", sum := "fa1ec01fcbc8f26df8e846a26f495b050fea3105381b45787dc7bc1ab46131c2", func := "loop.example/g01154/laws.FnExactSeriesOfProfile", spec := "fnExactSeriesOfProfile", plainKeys := false, apart := false, narrowed := true }
def FnExactSeriesOfProfileUptoSaid : Prop := fnExactSeriesOfProfileUptoRow.holds Try.pinned (OpenSpec.upto fnExactSeriesOfProfileSpec)

/-- 'laws.FnExactQuotientSeries', WHERE WHAT IT READS IS OF BULK AT MOST 1048576: true; the input reads as it did. -/
def fnExactQuotientSeriesUptoRow : OpenClaim := { program := "ytcbfcpngpnlodaa", sum := "fa1ec01fcbc8f26df8e846a26f495b050fea3105381b45787dc7bc1ab46131c2", func := "loop.example/g01154/laws.FnExactQuotientSeries", spec := "fnExactQuotientSeries", plainKeys := false, apart := false, narrowed := true }
def FnExactQuotientSeriesUptoSaid : Prop := fnExactQuotientSeriesUptoRow.holds Try.pinned (OpenSpec.upto fnExactQuotientSeriesSpec)

/-- 'laws.FnExactProfileOfElement', WHERE WHAT IT READS IS OF BULK AT MOST 1048576: true; the input reads as it did. -/
def fnExactProfileOfElementUptoRow : OpenClaim := { program := "ytcbfcpngpnlodaa", sum := "fa1ec01fcbc8f26df8e846a26f495b050fea3105381b45787dc7bc1ab46131c2", func := "loop.example/g01154/laws.FnExactProfileOfElement", spec := "fnExactProfileOfElement", plainKeys := false, apart := false, narrowed := true }
def FnExactProfileOfElementUptoSaid : Prop := fnExactProfileOfElementUptoRow.holds Try.pinned (OpenSpec.upto fnExactProfileOfElementSpec)

end Rows
end Go.Proofs.Ytcbfcpngpnlodaa
