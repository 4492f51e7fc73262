/-
  DERIVED. GIVEN WITH THE SEED: THE CARDS: each row of YtpneknipmdgbmaaDoorRows.lean that lists a variable, with what it lists TIED to the program's text (the seventh form; the later family's looks); each row that meets fmt, with fmt's text TOLD by the authors' own Lean function (tested against real Go, not proved from fmt's source: count such statements apart). THE CARD IS WHAT COUNTS. Prove the row's statement (the work); the ties are given (YtpneknipmdgbmaaDoorTie.lean); close each card by the builder's one call (the guide's Derived/Test/ToyasCard.lean, 'card_holds'). Laid BY PROGRAM, IN A SANDBOX (cutbox-door.mjs). By AI agents, Wed Nov 11 2026. No macro, syntax, notation, axiom, sorry.
-/
import Derived.Test.YtpneknipmdgbmaaDoorRows
import GoSem.ClaimSeven
namespace Go.Proofs.YtpneknipmdgbmaaDoor
namespace Rows

/-- THE TIED CARD OF 'laws.FnExactMilnorText'. -/
def fnExactMilnorTextCard : Claim7 := { stood := { row := fnExactMilnorTextRow, standIns := [], harness := (true, "595fbdaa7b306b1e7b8505961e3914aab1bec5a5dba816a0c133e9229b003063"), looks := true }, kinds := [], alts := [], laidByText := true, laidKinds := [.data, .data, .data], laidTests := true, laidLooks := .later }
def FnExactMilnorTextCardSaid : Prop := Claim7.holds Tryd.pinned (.plain (OpenSpec.ofChange fnExactMilnorTextSpec)) fnExactMilnorTextCard

/-- THE TIED CARD OF 'laws.FnExactParseMilnor'. -/
def fnExactParseMilnorCard : Claim7 := { stood := { row := fnExactParseMilnorRow, standIns := [], harness := (true, "595fbdaa7b306b1e7b8505961e3914aab1bec5a5dba816a0c133e9229b003063"), looks := true }, kinds := [], alts := [], laidByText := true, laidKinds := [.data, .data, .data, .data, .sentinel, .sentinel, .pinned], laidTests := true, laidLooks := .later }
def FnExactParseMilnorCardSaid : Prop := Claim7.holds Tryd.pinned (.plain (OpenSpec.ofChange fnExactParseMilnorSpec)) fnExactParseMilnorCard

/-- THE TIED CARD OF 'laws.FnExactParseSquares'. -/
def fnExactParseSquaresCard : Claim7 := { stood := { row := fnExactParseSquaresRow, standIns := [], harness := (true, "595fbdaa7b306b1e7b8505961e3914aab1bec5a5dba816a0c133e9229b003063"), looks := true }, kinds := [], alts := [], laidByText := true, laidKinds := [.data, .data, .data, .data, .sentinel, .sentinel, .pinned], laidTests := true, laidLooks := .later }
def FnExactParseSquaresCardSaid : Prop := Claim7.holds Tryd.pinned (.plain (OpenSpec.ofChange fnExactParseSquaresSpec)) fnExactParseSquaresCard

/-- THE SECOND FORM's CARD OF 'laws.FnExactMilnorText'. -/
def fnExactMilnorTextUptoCard : Claim7 := { stood := { row := fnExactMilnorTextUptoRow, standIns := [], harness := (true, "595fbdaa7b306b1e7b8505961e3914aab1bec5a5dba816a0c133e9229b003063"), looks := true }, kinds := [], alts := [], laidByText := true, laidKinds := [.data, .data, .data], laidTests := true, laidLooks := .later }
def FnExactMilnorTextUptoCardSaid : Prop := Claim7.holds Tryd.pinned (.plain (OpenSpec.upto fnExactMilnorTextSpec)) fnExactMilnorTextUptoCard

/-- THE SECOND FORM's CARD OF 'laws.FnExactParseMilnor'. -/
def fnExactParseMilnorUptoCard : Claim7 := { stood := { row := fnExactParseMilnorUptoRow, standIns := [], harness := (true, "595fbdaa7b306b1e7b8505961e3914aab1bec5a5dba816a0c133e9229b003063"), looks := true }, kinds := [], alts := [], laidByText := true, laidKinds := [.data, .data, .data, .data, .sentinel, .sentinel, .pinned], laidTests := true, laidLooks := .later }
def FnExactParseMilnorUptoCardSaid : Prop := Claim7.holds Tryd.pinned (.plain (OpenSpec.upto fnExactParseMilnorSpec)) fnExactParseMilnorUptoCard

/-- THE SECOND FORM's CARD OF 'laws.FnExactParseSquares'. -/
def fnExactParseSquaresUptoCard : Claim7 := { stood := { row := fnExactParseSquaresUptoRow, standIns := [], harness := (true, "595fbdaa7b306b1e7b8505961e3914aab1bec5a5dba816a0c133e9229b003063"), looks := true }, kinds := [], alts := [], laidByText := true, laidKinds := [.data, .data, .data, .data, .sentinel, .sentinel, .pinned], laidTests := true, laidLooks := .later }
def FnExactParseSquaresUptoCardSaid : Prop := Claim7.holds Tryd.pinned (.plain (OpenSpec.upto fnExactParseSquaresSpec)) fnExactParseSquaresUptoCard
end Rows
end Go.Proofs.YtpneknipmdgbmaaDoor
