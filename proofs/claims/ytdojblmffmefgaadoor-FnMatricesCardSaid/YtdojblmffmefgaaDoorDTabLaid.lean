/-
  From the row's condition (the table is laid) to the fact that the walks ask; and that the door's own run meets it.
-/
import Derived.Test.YtdojblmffmefgaaDoorRows
import Derived.Test.YtdojblmffmefgaaDoorDTz
import Derived.ProofKit
import Derived.LaidMore
import Derived.OpenShut
import Derived.Lib.LaidTab
import Derived.SevenTiedAt
namespace Go.Proofs.YtdojblmffmefgaaDoor
open Go.ChangeShapes Go.WideShapes Go.ChangeAt Go.RowKit
set_option maxRecDepth 100000

def laid1 : List (String × DataW Unit) := [("math/bits.deBruijn64tab", Rows.laid_math_bits_deBruijn64tab)]
theorem gTab : Tryd.prog.globalNamed "math/bits.deBruijn64tab" = some 0 := by kernel_rfl
theorem tTab : (Tryd.prog.globals[0]?).map (·.type) = some 111 := by kernel_rfl
theorem cTab : Tryd.prog.cellsOf 111 = 64 := by kernel_rfl
theorem cU8 : Tryd.prog.cellsOf 5 = 1 := by kernel_rfl
theorem door_met (os : Os) (args : Array Value) : laidMetH Tryd.prog laid1 ((World.doorLaid Tryd.prog 400 os).forCall (fun _ _ => 0) ⟨#[], args, []⟩).memory :=
  laidMetH_of_parts3 (fuel := 8) (laidMet_of_run' 8 (by kernel_rfl) (by kernel_rfl)) (by kernel_rfl) (by kernel_rfl)
def tabZ : List Int := (List.range 64).map fun j => ((Lib.deBruijn64tab.getD j 0 : Nat) : Int)
theorem laid1_tab : laid1 = [("math/bits.deBruijn64tab", Lib.tabData .u8 tabZ)] := by kernel_rfl
theorem of_laid {W : World} (h : laidMetH Tryd.prog laid1 W) : T0 W := by
  rw [MakeChecks.laidMetH_plain _ _ _ (by kernel_rfl), laid1_tab] at h
  have T := Lib.tabIs_of_head gTab tTab Tryd.underlying111 Tryd.underlying5 cU8 cTab h
  intro j hj
  rw [T.cell gTab j (by simpa [tabZ] using hj)]
  simp [tabZ, hj]
end Go.Proofs.YtdojblmffmefgaaDoor
