/-
  The walk of laws.FnExactMonomialsOf.
-/
import Derived.Test.YtnfhfilconcajaaYMonB
namespace Go.Proofs.Ytnfhfilconcajaa
open Go.RowKit
set_option maxRecDepth 100000
set_option linter.unusedVariables false

theorem walk_FnExactMonomialsOf (a0 a1 : Int) (w : World) (w0 : (Lit.int .i64 a0).wf = true) (w1 : (Lit.int .i64 a1).wf = true) :
    Calls Try.prog 11 #[.int .i64 a0, .int .i64 a1] w fun e w' => e = .returned (.bool true) ∧ Below w.heap.size w w' := by
  clear w0 w1
  have hoff := moOf_off a0 a1
  have SP := fun (wx : World) => specMonomialsOf_all a0 a1 wx
  have IM := fun (wx : World) => implMonomialsOf_all a0 a1 wx
  generalize moOf a0 a1 = xss at hoff SP IM
  generalize mcOf a0 a1 = cd at SP IM
  have hge : ¬ off 1 (fun i => (rowsOf xss i).length) xss.length < 0 := by
    have := off_low 1 (fun i => (rowsOf xss i).length) xss.length
    omega
  have HOFF := Lib.hid hoff
  have SP := Lib.hid SP
  have IM := Lib.hid IM
  clear hoff
  go_enter Try.func11, Try.ntmps11
  go_wp2_with fail
  refine (SP.out _).mono ?_
  rintro e w1 ⟨Vw, VSw, rfl, fw1, b1⟩
  go_wp2_with fail
  refine (IM.out _).mono ?_
  rintro e w2 ⟨Vg, VSg, rfl, fg2, b2, sg⟩
  have FW2 := Lib.hid (fw1.below b2)
  have FW1 := Lib.hid fw1
  have FG2 := Lib.hid fg2
  have SG := Lib.hid sg
  have b02 := b1.trans (b2.mono b1.size)
  have hs1 := b1.size
  have hs2 := b2.size
  clear fw1 fg2 sg
  go_wp2_with fail
  refine (eqInt64SS_same Vg Vw xss.length _ _ VSg VSw _ _ FG2.out FW2.out).mono ?_
  rintro e w3 ⟨rfl, q, rfl⟩
  go_wp2_with fail
  refine (markInt64SS_own Vg xss.length _ VSg _ _ (FG2.out.drewN q) SG.out HOFF.out).mono ?_
  rintro e w4 ⟨rfl, fg4, b4⟩
  have b24 : Below w1.heap.size w2 w4 := ((below_drewN (Below.refl w1.heap.size w2) q)).trans b4
  have FW4 := Lib.hid (FW1.out.low b24 FW2.out)
  have FG4 := Lib.hid fg4
  have b04 : Below w.heap.size w w4 := b02.trans (b24.mono hs1)
  have hs4 := b24.size
  clear fg4 b4 b24 b02 b1 b2
  go_wp2_with fail
  refine (heldInt64SS_own Vg xss.length _ VSg _ _ FG4.out HOFF.out).mono ?_
  rintro e w5 ⟨rfl, rfl⟩
  go_wp2_with fail
  refine (IM.out _).mono ?_
  rintro e w6 ⟨Vh, VSh, rfl, fh6, b6, _⟩
  have FW6 := Lib.hid (FW4.out.below b6)
  have FG6 := Lib.hid (FG4.out.below b6)
  have FH6 := Lib.hid fh6
  have b06 := b04.trans (b6.mono b04.size)
  clear fh6 b6 b04
  go_wp2_with fail
  refine (eqInt64SS_same Vh Vw xss.length _ _ VSh VSw _ _ FH6.out FW6.out).mono ?_
  rintro e w7 ⟨rfl, q', rfl⟩
  go_wp2_with fail
  refine (heldInt64SS_own Vg xss.length _ VSg _ _ (FG6.out.drewN q') HOFF.out).mono ?_
  rintro e w8 ⟨rfl, rfl⟩
  go_wp2_with fail
  go_ret
  exact ⟨rfl, below_drewN b06 q'⟩
end Go.Proofs.Ytnfhfilconcajaa
