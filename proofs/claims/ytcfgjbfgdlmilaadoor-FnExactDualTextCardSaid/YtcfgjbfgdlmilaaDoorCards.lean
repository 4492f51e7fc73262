/-
  DERIVED. GIVEN WITH THE SEED: THE CARDS: each row of YtcfgjbfgdlmilaaDoorRows.lean that lists a variable, with what it lists TIED to the program's text (the seventh form; the later family's looks); each row that meets fmt, with fmt's text TOLD by the authors' own Lean function (tested against real Go, not proved from fmt's source: count such statements apart). THE CARD IS WHAT COUNTS. Prove the row's statement (the work); the ties are given (YtcfgjbfgdlmilaaDoorTie.lean); close each card by the builder's one call (the guide's Derived/Test/ToyasCard.lean, 'card_holds'). Laid BY PROGRAM, IN A SANDBOX (cutbox-door.mjs). By AI agents, Wed Nov 11 2026. No macro, syntax, notation, axiom, sorry.
-/
import Derived.Test.YtcfgjbfgdlmilaaDoorRows
import GoSem.ClaimSeven
namespace Go.Proofs.YtcfgjbfgdlmilaaDoor
namespace Rows

/-- THE TIED CARD OF 'laws.FnExactDualText'. -/
def fnExactDualTextCard : Claim7 := { stood := { row := fnExactDualTextRow, standIns := [], harness := (true, "fd0c78c918b84d721ee7da235ebb6189a43debc43459aadb6b0ade57bcc21fa5"), looks := false }, kinds := [], alts := [], laidByText := true, laidKinds := [.data, .data, .data], laidTests := true, laidLooks := .later }
def FnExactDualTextCardSaid : Prop := Claim7.holds Tryd.pinned (.plain (OpenSpec.ofChange fnExactDualTextSpec)) fnExactDualTextCard

/-- THE SECOND FORM's CARD OF 'laws.FnExactDualText'. -/
def fnExactDualTextUptoCard : Claim7 := { stood := { row := fnExactDualTextUptoRow, standIns := [], harness := (true, "fd0c78c918b84d721ee7da235ebb6189a43debc43459aadb6b0ade57bcc21fa5"), looks := false }, kinds := [], alts := [], laidByText := true, laidKinds := [.data, .data, .data], laidTests := true, laidLooks := .later }
def FnExactDualTextUptoCardSaid : Prop := Claim7.holds Tryd.pinned (.plain (OpenSpec.upto fnExactDualTextSpec)) fnExactDualTextUptoCard
end Rows
end Go.Proofs.YtcfgjbfgdlmilaaDoor
