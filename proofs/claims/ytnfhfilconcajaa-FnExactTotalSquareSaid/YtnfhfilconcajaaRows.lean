/-
  No cell of these rows narrows 'for every input' (looked for: loops, veiled, ifaces, maps, wideKeys, modest, calm, conditions, laid).
  DERIVED. THE GIVEN ROWS OF THIS SEAT. 9 by the template 'for every input the law returns true; each argument reads behind the call as it read before'; 0 by the template 'total and deterministic' (their statements: YtnfhfilconcajaaTotals.lean).
  GIVEN WITH THE SEED: the statements are not yours to turn. If you find one false, say at which input.
  Laid BY PROGRAM, IN A SANDBOX (cutbox-rows.mjs): the forced cells as the released guide's own fill.sh prints them over the translation 221a79a77161b604… (all of the seat's roots in one cut). By AI agents, Wed Nov 11 2026. No macro, syntax, notation, axiom, sorry.
-/
import Derived.Test.YtnfhfilconcajaaChecked
import GoSem.Claim
import GoSem.ClaimJoined
import GoSem.ClaimMapViews
import Derived.JoinedTies
import Derived.KernelRfl
namespace Go.Proofs.Ytnfhfilconcajaa
/- THE CELL 'sum', in the pinned program and in every row, IS THE sha256 OF THE DUMP (.gsa) THAT YtnfhfilconcajaaProg.lean LOADS. Nothing in Lean hashes anything: it is a label: what it is worth is what the hold of that sum in a sandbox is worth. -/
noncomputable def Try.pinned : Pinned := { name := "ytnfhfilconcajaa", sum := "221a79a77161b6046c78dada0bd077febd935ae49579279353d614f3a5c74d38", checked := Try.checked }
namespace Rows
def none {H : Type} : Left H := { results := [], args := [] }

/-- 'laws.FnExactIsPoly': WHATEVER THE INPUT: true; the input reads as it did. -/
def fnExactIsPolySpec : ChangeSpec := { name := "fnExactIsPoly", fn := fun _ => fun
  | [d] => { results := [.lit (.bool true)], args := [d] }
  | _ => none }
def fnExactIsPolyRow : OpenClaim := { program := "ytnfhfilconcajaa", sum := "221a79a77161b6046c78dada0bd077febd935ae49579279353d614f3a5c74d38", func := "loop.example/g01154/laws.FnExactIsPoly", spec := "fnExactIsPoly", apart := false }
def FnExactIsPolySaid : Prop := fnExactIsPolyRow.holds Try.pinned (OpenSpec.ofChange fnExactIsPolySpec)

/-- ITS FALSE NEIGHBOUR: 'it returns false'. Refute it at one input. -/
def fnExactIsPolyWrong : ChangeSpec := { name := "fnExactIsPoly", fn := fun _ => fun
  | [d] => { results := [.lit (.bool false)], args := [d] }
  | _ => none }
def FnExactIsPolyWrongFalsely : Prop := fnExactIsPolyRow.holds Try.pinned (OpenSpec.ofChange fnExactIsPolyWrong)

/-- 'laws.FnExactAddPolys': WHATEVER THE INPUT: true; the input reads as it did. -/
def fnExactAddPolysSpec : ChangeSpec := { name := "fnExactAddPolys", fn := fun _ => fun
  | [d1, d2] => { results := [.lit (.bool true)], args := [d1, d2] }
  | _ => none }
def fnExactAddPolysRow : OpenClaim := { program := "ytnfhfilconcajaa", sum := "221a79a77161b6046c78dada0bd077febd935ae49579279353d614f3a5c74d38", func := "loop.example/g01154/laws.FnExactAddPolys", spec := "fnExactAddPolys", apart := false }
def FnExactAddPolysSaid : Prop := fnExactAddPolysRow.holds Try.pinned (OpenSpec.ofChange fnExactAddPolysSpec)

/-- ITS FALSE NEIGHBOUR: 'it returns false'. Refute it at one input. -/
def fnExactAddPolysWrong : ChangeSpec := { name := "fnExactAddPolys", fn := fun _ => fun
  | [d1, d2] => { results := [.lit (.bool false)], args := [d1, d2] }
  | _ => none }
def FnExactAddPolysWrongFalsely : Prop := fnExactAddPolysRow.holds Try.pinned (OpenSpec.ofChange fnExactAddPolysWrong)

/-- 'laws.FnExactMultiplyPolys': WHATEVER THE INPUT: true; the input reads as it did. -/
def fnExactMultiplyPolysSpec : ChangeSpec := { name := "fnExactMultiplyPolys", fn := fun _ => fun
  | [d1, d2] => { results := [.lit (.bool true)], args := [d1, d2] }
  | _ => none }
def fnExactMultiplyPolysRow : OpenClaim := { program := "ytnfhfilconcajaa", sum := "221a79a77161b6046c78dada0bd077febd935ae49579279353d614f3a5c74d38", func := "loop.example/g01154/laws.FnExactMultiplyPolys", spec := "fnExactMultiplyPolys", apart := false }
def FnExactMultiplyPolysSaid : Prop := fnExactMultiplyPolysRow.holds Try.pinned (OpenSpec.ofChange fnExactMultiplyPolysSpec)

/-- ITS FALSE NEIGHBOUR: 'it returns false'. Refute it at one input. -/
def fnExactMultiplyPolysWrong : ChangeSpec := { name := "fnExactMultiplyPolys", fn := fun _ => fun
  | [d1, d2] => { results := [.lit (.bool false)], args := [d1, d2] }
  | _ => none }
def FnExactMultiplyPolysWrongFalsely : Prop := fnExactMultiplyPolysRow.holds Try.pinned (OpenSpec.ofChange fnExactMultiplyPolysWrong)

/-- 'laws.FnExactDegreeOfPoly': WHATEVER THE INPUT: true; the input reads as it did. -/
def fnExactDegreeOfPolySpec : ChangeSpec := { name := "fnExactDegreeOfPoly", fn := fun _ => fun
  | [d] => { results := [.lit (.bool true)], args := [d] }
  | _ => none }
def fnExactDegreeOfPolyRow : OpenClaim := { program := "ytnfhfilconcajaa", sum := "221a79a77161b6046c78dada0bd077febd935ae49579279353d614f3a5c74d38", func := "loop.example/g01154/laws.FnExactDegreeOfPoly", spec := "fnExactDegreeOfPoly", apart := false }
def FnExactDegreeOfPolySaid : Prop := fnExactDegreeOfPolyRow.holds Try.pinned (OpenSpec.ofChange fnExactDegreeOfPolySpec)

/-- ITS FALSE NEIGHBOUR: 'it returns false'. Refute it at one input. -/
def fnExactDegreeOfPolyWrong : ChangeSpec := { name := "fnExactDegreeOfPoly", fn := fun _ => fun
  | [d] => { results := [.lit (.bool false)], args := [d] }
  | _ => none }
def FnExactDegreeOfPolyWrongFalsely : Prop := fnExactDegreeOfPolyRow.holds Try.pinned (OpenSpec.ofChange fnExactDegreeOfPolyWrong)

/-- 'laws.FnExactSquareOn': WHATEVER THE INPUT: true; the input reads as it did. -/
def fnExactSquareOnSpec : ChangeSpec := { name := "fnExactSquareOn", fn := fun _ => fun
  | [d1, d2] => { results := [.lit (.bool true)], args := [d1, d2] }
  | _ => none }
def fnExactSquareOnRow : OpenClaim := { program := "ytnfhfilconcajaa", sum := "221a79a77161b6046c78dada0bd077febd935ae49579279353d614f3a5c74d38", func := "loop.example/g01154/laws.FnExactSquareOn", spec := "fnExactSquareOn", recurses := true, apart := false }
def FnExactSquareOnSaid : Prop := fnExactSquareOnRow.holds Try.pinned (OpenSpec.ofChange fnExactSquareOnSpec)

/-- ITS FALSE NEIGHBOUR: 'it returns false'. Refute it at one input. -/
def fnExactSquareOnWrong : ChangeSpec := { name := "fnExactSquareOn", fn := fun _ => fun
  | [d1, d2] => { results := [.lit (.bool false)], args := [d1, d2] }
  | _ => none }
def FnExactSquareOnWrongFalsely : Prop := fnExactSquareOnRow.holds Try.pinned (OpenSpec.ofChange fnExactSquareOnWrong)

/-- 'laws.FnExactTotalSquare': WHATEVER THE INPUT: true; the input reads as it did. -/
def fnExactTotalSquareSpec : ChangeSpec := { name := "fnExactTotalSquare", fn := fun _ => fun
  | [d] => { results := [.lit (.bool true)], args := [d] }
  | _ => none }
def fnExactTotalSquareRow : OpenClaim := { program := "ytnfhfilconcajaa", sum := "221a79a77161b6046c78dada0bd077febd935ae49579279353d614f3a5c74d38", func := "loop.example/g01154/laws.FnExactTotalSquare", spec := "fnExactTotalSquare", recurses := true, apart := false }
def FnExactTotalSquareSaid : Prop := fnExactTotalSquareRow.holds Try.pinned (OpenSpec.ofChange fnExactTotalSquareSpec)

/-- ITS FALSE NEIGHBOUR: 'it returns false'. Refute it at one input. -/
def fnExactTotalSquareWrong : ChangeSpec := { name := "fnExactTotalSquare", fn := fun _ => fun
  | [d] => { results := [.lit (.bool false)], args := [d] }
  | _ => none }
def FnExactTotalSquareWrongFalsely : Prop := fnExactTotalSquareRow.holds Try.pinned (OpenSpec.ofChange fnExactTotalSquareWrong)

/-- 'laws.FnExactActMilnor': WHATEVER THE INPUT: true; the input reads as it did. -/
def fnExactActMilnorSpec : ChangeSpec := { name := "fnExactActMilnor", fn := fun _ => fun
  | [d1, d2] => { results := [.lit (.bool true)], args := [d1, d2] }
  | _ => none }
def fnExactActMilnorRow : OpenClaim := { program := "ytnfhfilconcajaa", sum := "221a79a77161b6046c78dada0bd077febd935ae49579279353d614f3a5c74d38", func := "loop.example/g01154/laws.FnExactActMilnor", spec := "fnExactActMilnor", unfollowed := true, recurses := true, apart := false }
def FnExactActMilnorSaid : Prop := fnExactActMilnorRow.holds Try.pinned (OpenSpec.ofChange fnExactActMilnorSpec)

/-- ITS FALSE NEIGHBOUR: 'it returns false'. Refute it at one input. -/
def fnExactActMilnorWrong : ChangeSpec := { name := "fnExactActMilnor", fn := fun _ => fun
  | [d1, d2] => { results := [.lit (.bool false)], args := [d1, d2] }
  | _ => none }
def FnExactActMilnorWrongFalsely : Prop := fnExactActMilnorRow.holds Try.pinned (OpenSpec.ofChange fnExactActMilnorWrong)

/-- 'laws.FnExactSubstituteForms': WHATEVER THE INPUT: true; the input reads as it did. -/
def fnExactSubstituteFormsSpec : ChangeSpec := { name := "fnExactSubstituteForms", fn := fun _ => fun
  | [d1, d2] => { results := [.lit (.bool true)], args := [d1, d2] }
  | _ => none }
def fnExactSubstituteFormsRow : OpenClaim := { program := "ytnfhfilconcajaa", sum := "221a79a77161b6046c78dada0bd077febd935ae49579279353d614f3a5c74d38", func := "loop.example/g01154/laws.FnExactSubstituteForms", spec := "fnExactSubstituteForms", unfollowed := true, recurses := true, apart := false }
def FnExactSubstituteFormsSaid : Prop := fnExactSubstituteFormsRow.holds Try.pinned (OpenSpec.ofChange fnExactSubstituteFormsSpec)

/-- ITS FALSE NEIGHBOUR: 'it returns false'. Refute it at one input. -/
def fnExactSubstituteFormsWrong : ChangeSpec := { name := "fnExactSubstituteForms", fn := fun _ => fun
  | [d1, d2] => { results := [.lit (.bool false)], args := [d1, d2] }
  | _ => none }
def FnExactSubstituteFormsWrongFalsely : Prop := fnExactSubstituteFormsRow.holds Try.pinned (OpenSpec.ofChange fnExactSubstituteFormsWrong)

/-- 'laws.FnExactMonomialsOf': WHATEVER THE INPUT: true; the input reads as it did. -/
def fnExactMonomialsOfSpec : ChangeSpec := { name := "fnExactMonomialsOf", fn := fun _ => fun
  | [d1, d2] => { results := [.lit (.bool true)], args := [d1, d2] }
  | _ => none }
def fnExactMonomialsOfRow : OpenClaim := { program := "ytnfhfilconcajaa", sum := "221a79a77161b6046c78dada0bd077febd935ae49579279353d614f3a5c74d38", func := "loop.example/g01154/laws.FnExactMonomialsOf", spec := "fnExactMonomialsOf", recurses := true, apart := false }
def FnExactMonomialsOfSaid : Prop := fnExactMonomialsOfRow.holds Try.pinned (OpenSpec.ofChange fnExactMonomialsOfSpec)

/-- ITS FALSE NEIGHBOUR: 'it returns false'. Refute it at one input. -/
def fnExactMonomialsOfWrong : ChangeSpec := { name := "fnExactMonomialsOf", fn := fun _ => fun
  | [d1, d2] => { results := [.lit (.bool false)], args := [d1, d2] }
  | _ => none }
def FnExactMonomialsOfWrongFalsely : Prop := fnExactMonomialsOfRow.holds Try.pinned (OpenSpec.ofChange fnExactMonomialsOfWrong)

/- THE SECOND FORM. 'bulk': how many values and letters a reading holds, each counted each time it is reached (what is shared counts as often as it is met; a slice's spare places count too). A statement '..UptoSaid' is the law's where the arguments, and the package variables that the reading takes, are together of bulk at most 1048576: NARROWER than '..Said'. Prove '..Said' where nothing that the law and all that it calls make is longer than what came in: it says more and counts as full. Else prove '..UptoSaid'. A law counts once. -/
mutual
def uptoBulk {H : Type} : DataW H → Nat
  | .lit (.string bytes) => bytes.length + 1
  | .lit _ => 1
  | .nil => 1
  | .ptr d => uptoBulk d + 1
  | .slice elems spare => uptoBulkAll elems + uptoBulkAll spare + 1
  | .agg parts => uptoBulkAll parts + 1
  | .iface _ d => uptoBulk d + 1
  | .map entries => uptoBulkEntries entries + 1
  | .held _ => 1
def uptoBulkAll {H : Type} : List (DataW H) → Nat
  | [] => 0
  | d :: r => uptoBulk d + uptoBulkAll r
def uptoBulkEntries {H : Type} : List (Lit × DataW H) → Nat
  | [] => 0
  | x :: r => uptoBulkEntry x + uptoBulkEntries r
def uptoBulkEntry {H : Type} : Lit × DataW H → Nat
  | (.string bytes, d) => bytes.length + uptoBulk d + 1
  | (_, d) => uptoBulk d + 1
 end
def uptoSmall : (H : Type) → List (DataW H) → Bool := fun _ ds => decide (uptoBulkAll ds ≤ 1048576)
def OpenSpec.upto (s : _root_.Go.ChangeSpec) : _root_.Go.OpenSpec := { _root_.Go.OpenSpec.ofChange s with cond := some uptoSmall }

/-- 'laws.FnExactIsPoly', WHERE WHAT IT READS IS OF BULK AT MOST 1048576: true; the input reads as it did. -/
def fnExactIsPolyUptoRow : OpenClaim := { program := "ytnfhfilconcajaa", sum := "221a79a77161b6046c78dada0bd077febd935ae49579279353d614f3a5c74d38", func := "loop.example/g01154/laws.FnExactIsPoly", spec := "fnExactIsPoly", apart := false, narrowed := true }
def FnExactIsPolyUptoSaid : Prop := fnExactIsPolyUptoRow.holds Try.pinned (OpenSpec.upto fnExactIsPolySpec)

/-- 'laws.FnExactAddPolys', WHERE WHAT IT READS IS OF BULK AT MOST 1048576: true; the input reads as it did. -/
def fnExactAddPolysUptoRow : OpenClaim := { program := "ytnfhfilconcajaa", sum := "221a79a77161b6046c78dada0bd077febd935ae49579279353d614f3a5c74d38", func := "loop.example/g01154/laws.FnExactAddPolys", spec := "fnExactAddPolys", apart := false, narrowed := true }
def FnExactAddPolysUptoSaid : Prop := fnExactAddPolysUptoRow.holds Try.pinned (OpenSpec.upto fnExactAddPolysSpec)

/-- 'laws.FnExactMultiplyPolys', WHERE WHAT IT READS IS OF BULK AT MOST 1048576: true; the input reads as it did. -/
def fnExactMultiplyPolysUptoRow : OpenClaim := { program := "ytnfhfilconcajaa", sum := "221a79a77161b6046c78dada0bd077febd935ae49579279353d614f3a5c74d38", func := "loop.example/g01154/laws.FnExactMultiplyPolys", spec := "fnExactMultiplyPolys", apart := false, narrowed := true }
def FnExactMultiplyPolysUptoSaid : Prop := fnExactMultiplyPolysUptoRow.holds Try.pinned (OpenSpec.upto fnExactMultiplyPolysSpec)

/-- 'laws.FnExactDegreeOfPoly', WHERE WHAT IT READS IS OF BULK AT MOST 1048576: true; the input reads as it did. -/
def fnExactDegreeOfPolyUptoRow : OpenClaim := { program := "ytnfhfilconcajaa", sum := "221a79a77161b6046c78dada0bd077febd935ae49579279353d614f3a5c74d38", func := "loop.example/g01154/laws.FnExactDegreeOfPoly", spec := "fnExactDegreeOfPoly", apart := false, narrowed := true }
def FnExactDegreeOfPolyUptoSaid : Prop := fnExactDegreeOfPolyUptoRow.holds Try.pinned (OpenSpec.upto fnExactDegreeOfPolySpec)

/-- 'laws.FnExactSquareOn', WHERE WHAT IT READS IS OF BULK AT MOST 1048576: true; the input reads as it did. -/
def fnExactSquareOnUptoRow : OpenClaim := { program := "ytnfhfilconcajaa", sum := "221a79a77161b6046c78dada0bd077febd935ae49579279353d614f3a5c74d38", func := "loop.example/g01154/laws.FnExactSquareOn", spec := "fnExactSquareOn", recurses := true, apart := false, narrowed := true }
def FnExactSquareOnUptoSaid : Prop := fnExactSquareOnUptoRow.holds Try.pinned (OpenSpec.upto fnExactSquareOnSpec)

/-- 'laws.FnExactTotalSquare', WHERE WHAT IT READS IS OF BULK AT MOST 1048576: true; the input reads as it did. -/
def fnExactTotalSquareUptoRow : OpenClaim := { program := "ytnfhfilconcajaa", sum := "221a79a77161b6046c78dada0bd077febd935ae49579279353d614f3a5c74d38", func := "loop.example/g01154/laws.FnExactTotalSquare", spec := "fnExactTotalSquare", recurses := true, apart := false, narrowed := true }
def FnExactTotalSquareUptoSaid : Prop := fnExactTotalSquareUptoRow.holds Try.pinned (OpenSpec.upto fnExactTotalSquareSpec)

/-- 'laws.FnExactActMilnor', WHERE WHAT IT READS IS OF BULK AT MOST 1048576: true; the input reads as it did. -/
def fnExactActMilnorUptoRow : OpenClaim := { program := "ytnfhfilconcajaa", sum := "221a79a77161b6046c78dada0bd077febd935ae49579279353d614f3a5c74d38", func := "loop.example/g01154/laws.FnExactActMilnor", spec := "fnExactActMilnor", unfollowed := true, recurses := true, apart := false, narrowed := true }
def FnExactActMilnorUptoSaid : Prop := fnExactActMilnorUptoRow.holds Try.pinned (OpenSpec.upto fnExactActMilnorSpec)

/-- 'laws.FnExactSubstituteForms', WHERE WHAT IT READS IS OF BULK AT MOST 1048576: true; the input reads as it did. -/
def fnExactSubstituteFormsUptoRow : OpenClaim := { program := "ytnfhfilconcajaa", sum := "221a79a77161b6046c78dada0bd077febd935ae49579279353d614f3a5c74d38", func := "loop.example/g01154/laws.FnExactSubstituteForms", spec := "fnExactSubstituteForms", unfollowed := true, recurses := true, apart := false, narrowed := true }
def FnExactSubstituteFormsUptoSaid : Prop := fnExactSubstituteFormsUptoRow.holds Try.pinned (OpenSpec.upto fnExactSubstituteFormsSpec)

/-- 'laws.FnExactMonomialsOf', WHERE WHAT IT READS IS OF BULK AT MOST 1048576: true; the input reads as it did. -/
def fnExactMonomialsOfUptoRow : OpenClaim := { program := "ytnfhfilconcajaa", sum := "221a79a77161b6046c78dada0bd077febd935ae49579279353d614f3a5c74d38", func := "loop.example/g01154/laws.FnExactMonomialsOf", spec := "fnExactMonomialsOf", recurses := true, apart := false, narrowed := true }
def FnExactMonomialsOfUptoSaid : Prop := fnExactMonomialsOfUptoRow.holds Try.pinned (OpenSpec.upto fnExactMonomialsOfSpec)

end Rows
end Go.Proofs.Ytnfhfilconcajaa
