/-
  DERIVED. GIVEN WITH THE SEED: THE CARDS: each row of YtdojblmffmefgaaDoorRows.lean that lists a variable, with what it lists TIED to the program's text (the seventh form; the later family's looks); each row that meets fmt, with fmt's text TOLD by the authors' own Lean function (tested against real Go, not proved from fmt's source: count such statements apart). THE CARD IS WHAT COUNTS. Prove the row's statement (the work); the ties are given (YtdojblmffmefgaaDoorTie.lean); close each card by the builder's one call (the guide's Derived/Test/ToyasCard.lean, 'card_holds'). Laid BY PROGRAM, IN A SANDBOX (cutbox-door.mjs). By AI agents, Wed Nov 11 2026. No macro, syntax, notation, axiom, sorry.
-/
import Derived.Test.YtdojblmffmefgaaDoorRows
import GoSem.ClaimSeven
namespace Go.Proofs.YtdojblmffmefgaaDoor
namespace Rows

/-- THE TIED CARD OF 'laws.FnMatrices'. -/
def fnMatricesCard : Claim7 := { stood := { row := fnMatricesRow, standIns := [], harness := (true, "71fbc22d76e0b546a5df969f0fc6d2fe45f7110ccc7ceeeb6f20d82e41aa9236"), looks := false }, kinds := [], alts := [], laidByText := true, laidKinds := [.data], laidTests := true, laidLooks := .later }
def FnMatricesCardSaid : Prop := Claim7.holds Tryd.pinned (.plain (OpenSpec.ofChange fnMatricesSpec)) fnMatricesCard

/-- THE TIED CARD OF 'laws.FnRanks'. -/
def fnRanksCard : Claim7 := { stood := { row := fnRanksRow, standIns := [], harness := (true, "71fbc22d76e0b546a5df969f0fc6d2fe45f7110ccc7ceeeb6f20d82e41aa9236"), looks := false }, kinds := [], alts := [], laidByText := true, laidKinds := [.data], laidTests := true, laidLooks := .later }
def FnRanksCardSaid : Prop := Claim7.holds Tryd.pinned (.plain (OpenSpec.ofChange fnRanksSpec)) fnRanksCard

/-- THE TIED CARD OF 'laws.FnSpaces'. -/
def fnSpacesCard : Claim7 := { stood := { row := fnSpacesRow, standIns := [], harness := (true, "71fbc22d76e0b546a5df969f0fc6d2fe45f7110ccc7ceeeb6f20d82e41aa9236"), looks := false }, kinds := [], alts := [], laidByText := true, laidKinds := [.data], laidTests := true, laidLooks := .later }
def FnSpacesCardSaid : Prop := Claim7.holds Tryd.pinned (.plain (OpenSpec.ofChange fnSpacesSpec)) fnSpacesCard

/-- THE TIED CARD OF 'laws.FnExactReducedForm'. -/
def fnExactReducedFormCard : Claim7 := { stood := { row := fnExactReducedFormRow, standIns := [], harness := (true, "71fbc22d76e0b546a5df969f0fc6d2fe45f7110ccc7ceeeb6f20d82e41aa9236"), looks := false }, kinds := [], alts := [], laidByText := true, laidKinds := [.data], laidTests := true, laidLooks := .later }
def FnExactReducedFormCardSaid : Prop := Claim7.holds Tryd.pinned (.plain (OpenSpec.ofChange fnExactReducedFormSpec)) fnExactReducedFormCard

/-- THE TIED CARD OF 'laws.FnExactRankOf'. -/
def fnExactRankOfCard : Claim7 := { stood := { row := fnExactRankOfRow, standIns := [], harness := (true, "71fbc22d76e0b546a5df969f0fc6d2fe45f7110ccc7ceeeb6f20d82e41aa9236"), looks := false }, kinds := [], alts := [], laidByText := true, laidKinds := [.data], laidTests := true, laidLooks := .later }
def FnExactRankOfCardSaid : Prop := Claim7.holds Tryd.pinned (.plain (OpenSpec.ofChange fnExactRankOfSpec)) fnExactRankOfCard

/-- THE TIED CARD OF 'laws.FnExactKernelOf'. -/
def fnExactKernelOfCard : Claim7 := { stood := { row := fnExactKernelOfRow, standIns := [], harness := (true, "71fbc22d76e0b546a5df969f0fc6d2fe45f7110ccc7ceeeb6f20d82e41aa9236"), looks := false }, kinds := [], alts := [], laidByText := true, laidKinds := [.data], laidTests := true, laidLooks := .later }
def FnExactKernelOfCardSaid : Prop := Claim7.holds Tryd.pinned (.plain (OpenSpec.ofChange fnExactKernelOfSpec)) fnExactKernelOfCard

/-- THE TIED CARD OF 'laws.FnExactHasMask'. -/
def fnExactHasMaskCard : Claim7 := { stood := { row := fnExactHasMaskRow, standIns := [], harness := (true, "71fbc22d76e0b546a5df969f0fc6d2fe45f7110ccc7ceeeb6f20d82e41aa9236"), looks := false }, kinds := [], alts := [], laidByText := true, laidKinds := [.data], laidTests := true, laidLooks := .later }
def FnExactHasMaskCardSaid : Prop := Claim7.holds Tryd.pinned (.plain (OpenSpec.ofChange fnExactHasMaskSpec)) fnExactHasMaskCard

/-- THE TIED CARD OF 'laws.FnExactSolveRows'. -/
def fnExactSolveRowsCard : Claim7 := { stood := { row := fnExactSolveRowsRow, standIns := [], harness := (true, "71fbc22d76e0b546a5df969f0fc6d2fe45f7110ccc7ceeeb6f20d82e41aa9236"), looks := false }, kinds := [], alts := [], laidByText := true, laidKinds := [.data], laidTests := true, laidLooks := .later }
def FnExactSolveRowsCardSaid : Prop := Claim7.holds Tryd.pinned (.plain (OpenSpec.ofChange fnExactSolveRowsSpec)) fnExactSolveRowsCard

/-- THE TIED CARD OF 'laws.FnExactInverseMatrix'. -/
def fnExactInverseMatrixCard : Claim7 := { stood := { row := fnExactInverseMatrixRow, standIns := [], harness := (true, "71fbc22d76e0b546a5df969f0fc6d2fe45f7110ccc7ceeeb6f20d82e41aa9236"), looks := false }, kinds := [], alts := [], laidByText := true, laidKinds := [.data], laidTests := true, laidLooks := .later }
def FnExactInverseMatrixCardSaid : Prop := Claim7.holds Tryd.pinned (.plain (OpenSpec.ofChange fnExactInverseMatrixSpec)) fnExactInverseMatrixCard

/-- THE TIED CARD OF 'laws.FnExactSumOfSpaces'. -/
def fnExactSumOfSpacesCard : Claim7 := { stood := { row := fnExactSumOfSpacesRow, standIns := [], harness := (true, "71fbc22d76e0b546a5df969f0fc6d2fe45f7110ccc7ceeeb6f20d82e41aa9236"), looks := false }, kinds := [], alts := [], laidByText := true, laidKinds := [.data], laidTests := true, laidLooks := .later }
def FnExactSumOfSpacesCardSaid : Prop := Claim7.holds Tryd.pinned (.plain (OpenSpec.ofChange fnExactSumOfSpacesSpec)) fnExactSumOfSpacesCard

/-- THE TIED CARD OF 'laws.FnExactMeetOfSpaces'. -/
def fnExactMeetOfSpacesCard : Claim7 := { stood := { row := fnExactMeetOfSpacesRow, standIns := [], harness := (true, "71fbc22d76e0b546a5df969f0fc6d2fe45f7110ccc7ceeeb6f20d82e41aa9236"), looks := false }, kinds := [], alts := [], laidByText := true, laidKinds := [.data], laidTests := true, laidLooks := .later }
def FnExactMeetOfSpacesCardSaid : Prop := Claim7.holds Tryd.pinned (.plain (OpenSpec.ofChange fnExactMeetOfSpacesSpec)) fnExactMeetOfSpacesCard

/-- THE TIED CARD OF 'laws.FnExactComplementRows'. -/
def fnExactComplementRowsCard : Claim7 := { stood := { row := fnExactComplementRowsRow, standIns := [], harness := (true, "71fbc22d76e0b546a5df969f0fc6d2fe45f7110ccc7ceeeb6f20d82e41aa9236"), looks := false }, kinds := [], alts := [], laidByText := true, laidKinds := [.data], laidTests := true, laidLooks := .later }
def FnExactComplementRowsCardSaid : Prop := Claim7.holds Tryd.pinned (.plain (OpenSpec.ofChange fnExactComplementRowsSpec)) fnExactComplementRowsCard

/-- THE SECOND FORM's CARD OF 'laws.FnMatrices'. -/
def fnMatricesUptoCard : Claim7 := { stood := { row := fnMatricesUptoRow, standIns := [], harness := (true, "71fbc22d76e0b546a5df969f0fc6d2fe45f7110ccc7ceeeb6f20d82e41aa9236"), looks := false }, kinds := [], alts := [], laidByText := true, laidKinds := [.data], laidTests := true, laidLooks := .later }
def FnMatricesUptoCardSaid : Prop := Claim7.holds Tryd.pinned (.plain (OpenSpec.upto fnMatricesSpec)) fnMatricesUptoCard

/-- THE SECOND FORM's CARD OF 'laws.FnRanks'. -/
def fnRanksUptoCard : Claim7 := { stood := { row := fnRanksUptoRow, standIns := [], harness := (true, "71fbc22d76e0b546a5df969f0fc6d2fe45f7110ccc7ceeeb6f20d82e41aa9236"), looks := false }, kinds := [], alts := [], laidByText := true, laidKinds := [.data], laidTests := true, laidLooks := .later }
def FnRanksUptoCardSaid : Prop := Claim7.holds Tryd.pinned (.plain (OpenSpec.upto fnRanksSpec)) fnRanksUptoCard

/-- THE SECOND FORM's CARD OF 'laws.FnSpaces'. -/
def fnSpacesUptoCard : Claim7 := { stood := { row := fnSpacesUptoRow, standIns := [], harness := (true, "71fbc22d76e0b546a5df969f0fc6d2fe45f7110ccc7ceeeb6f20d82e41aa9236"), looks := false }, kinds := [], alts := [], laidByText := true, laidKinds := [.data], laidTests := true, laidLooks := .later }
def FnSpacesUptoCardSaid : Prop := Claim7.holds Tryd.pinned (.plain (OpenSpec.upto fnSpacesSpec)) fnSpacesUptoCard

/-- THE SECOND FORM's CARD OF 'laws.FnExactReducedForm'. -/
def fnExactReducedFormUptoCard : Claim7 := { stood := { row := fnExactReducedFormUptoRow, standIns := [], harness := (true, "71fbc22d76e0b546a5df969f0fc6d2fe45f7110ccc7ceeeb6f20d82e41aa9236"), looks := false }, kinds := [], alts := [], laidByText := true, laidKinds := [.data], laidTests := true, laidLooks := .later }
def FnExactReducedFormUptoCardSaid : Prop := Claim7.holds Tryd.pinned (.plain (OpenSpec.upto fnExactReducedFormSpec)) fnExactReducedFormUptoCard

/-- THE SECOND FORM's CARD OF 'laws.FnExactRankOf'. -/
def fnExactRankOfUptoCard : Claim7 := { stood := { row := fnExactRankOfUptoRow, standIns := [], harness := (true, "71fbc22d76e0b546a5df969f0fc6d2fe45f7110ccc7ceeeb6f20d82e41aa9236"), looks := false }, kinds := [], alts := [], laidByText := true, laidKinds := [.data], laidTests := true, laidLooks := .later }
def FnExactRankOfUptoCardSaid : Prop := Claim7.holds Tryd.pinned (.plain (OpenSpec.upto fnExactRankOfSpec)) fnExactRankOfUptoCard

/-- THE SECOND FORM's CARD OF 'laws.FnExactKernelOf'. -/
def fnExactKernelOfUptoCard : Claim7 := { stood := { row := fnExactKernelOfUptoRow, standIns := [], harness := (true, "71fbc22d76e0b546a5df969f0fc6d2fe45f7110ccc7ceeeb6f20d82e41aa9236"), looks := false }, kinds := [], alts := [], laidByText := true, laidKinds := [.data], laidTests := true, laidLooks := .later }
def FnExactKernelOfUptoCardSaid : Prop := Claim7.holds Tryd.pinned (.plain (OpenSpec.upto fnExactKernelOfSpec)) fnExactKernelOfUptoCard

/-- THE SECOND FORM's CARD OF 'laws.FnExactHasMask'. -/
def fnExactHasMaskUptoCard : Claim7 := { stood := { row := fnExactHasMaskUptoRow, standIns := [], harness := (true, "71fbc22d76e0b546a5df969f0fc6d2fe45f7110ccc7ceeeb6f20d82e41aa9236"), looks := false }, kinds := [], alts := [], laidByText := true, laidKinds := [.data], laidTests := true, laidLooks := .later }
def FnExactHasMaskUptoCardSaid : Prop := Claim7.holds Tryd.pinned (.plain (OpenSpec.upto fnExactHasMaskSpec)) fnExactHasMaskUptoCard

/-- THE SECOND FORM's CARD OF 'laws.FnExactSolveRows'. -/
def fnExactSolveRowsUptoCard : Claim7 := { stood := { row := fnExactSolveRowsUptoRow, standIns := [], harness := (true, "71fbc22d76e0b546a5df969f0fc6d2fe45f7110ccc7ceeeb6f20d82e41aa9236"), looks := false }, kinds := [], alts := [], laidByText := true, laidKinds := [.data], laidTests := true, laidLooks := .later }
def FnExactSolveRowsUptoCardSaid : Prop := Claim7.holds Tryd.pinned (.plain (OpenSpec.upto fnExactSolveRowsSpec)) fnExactSolveRowsUptoCard

/-- THE SECOND FORM's CARD OF 'laws.FnExactInverseMatrix'. -/
def fnExactInverseMatrixUptoCard : Claim7 := { stood := { row := fnExactInverseMatrixUptoRow, standIns := [], harness := (true, "71fbc22d76e0b546a5df969f0fc6d2fe45f7110ccc7ceeeb6f20d82e41aa9236"), looks := false }, kinds := [], alts := [], laidByText := true, laidKinds := [.data], laidTests := true, laidLooks := .later }
def FnExactInverseMatrixUptoCardSaid : Prop := Claim7.holds Tryd.pinned (.plain (OpenSpec.upto fnExactInverseMatrixSpec)) fnExactInverseMatrixUptoCard

/-- THE SECOND FORM's CARD OF 'laws.FnExactSumOfSpaces'. -/
def fnExactSumOfSpacesUptoCard : Claim7 := { stood := { row := fnExactSumOfSpacesUptoRow, standIns := [], harness := (true, "71fbc22d76e0b546a5df969f0fc6d2fe45f7110ccc7ceeeb6f20d82e41aa9236"), looks := false }, kinds := [], alts := [], laidByText := true, laidKinds := [.data], laidTests := true, laidLooks := .later }
def FnExactSumOfSpacesUptoCardSaid : Prop := Claim7.holds Tryd.pinned (.plain (OpenSpec.upto fnExactSumOfSpacesSpec)) fnExactSumOfSpacesUptoCard

/-- THE SECOND FORM's CARD OF 'laws.FnExactMeetOfSpaces'. -/
def fnExactMeetOfSpacesUptoCard : Claim7 := { stood := { row := fnExactMeetOfSpacesUptoRow, standIns := [], harness := (true, "71fbc22d76e0b546a5df969f0fc6d2fe45f7110ccc7ceeeb6f20d82e41aa9236"), looks := false }, kinds := [], alts := [], laidByText := true, laidKinds := [.data], laidTests := true, laidLooks := .later }
def FnExactMeetOfSpacesUptoCardSaid : Prop := Claim7.holds Tryd.pinned (.plain (OpenSpec.upto fnExactMeetOfSpacesSpec)) fnExactMeetOfSpacesUptoCard

/-- THE SECOND FORM's CARD OF 'laws.FnExactComplementRows'. -/
def fnExactComplementRowsUptoCard : Claim7 := { stood := { row := fnExactComplementRowsUptoRow, standIns := [], harness := (true, "71fbc22d76e0b546a5df969f0fc6d2fe45f7110ccc7ceeeb6f20d82e41aa9236"), looks := false }, kinds := [], alts := [], laidByText := true, laidKinds := [.data], laidTests := true, laidLooks := .later }
def FnExactComplementRowsUptoCardSaid : Prop := Claim7.holds Tryd.pinned (.plain (OpenSpec.upto fnExactComplementRowsSpec)) fnExactComplementRowsUptoCard
end Rows
end Go.Proofs.YtdojblmffmefgaaDoor
