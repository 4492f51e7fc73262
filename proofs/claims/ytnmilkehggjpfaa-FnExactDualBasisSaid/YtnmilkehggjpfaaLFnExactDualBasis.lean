/-
  The walk of laws.FnExactDualBasis.
-/
import Derived.Test.YtnmilkehggjpfaaEBas
namespace Go.Proofs.Ytnmilkehggjpfaa.Dl
open Go.RowKit
set_option linter.unusedVariables false
set_option maxRecDepth 100000

theorem offB_bound (L : List (List Int)) (hL : ∀ i, (rowsOf L i).length ≤ 6) (m : Nat) : offM 1 (fun _ => 1) (fun i _ => rowsOf L i) m ≤ 1 + 6 * (m : Int) := by
  induction m with
  | zero => simp [offM]
  | succ m ih =>
    have h := hL m
    have e : offM 1 (fun _ => 1) (fun i _ => rowsOf L i) (m + 1) = offM 1 (fun _ => 1) (fun i _ => rowsOf L i) m + ((rowsOf L m).length : Int) := rfl
    omega
theorem sepB {m : Nat} {VS : Nat → Value} (h : Sep m VS) : SepM m (fun _ => 1) (fun i _ => VS i) :=
  ⟨fun i hi a b ha hb hab => absurd (show a = b by have h1 : a < 1 := ha; have h2 : b < 1 := hb; omega) hab, fun i j hi hj hij _ _ _ _ => h i j hi hj hij⟩

theorem walk_FnExactDualBasis (a0 : Int) (w : World) (w0 : (Lit.int .i64 a0).wf = true) :
    Calls Try.prog 5 #[.int .i64 a0] w fun e w' => e = .returned (.bool true) ∧ Below w.heap.size w w' := by
  clear w0
  obtain ⟨L, cd, hl, h6, SP, IM⟩ := DualBasis_both a0
  have hoff : offM 1 (fun _ => 1) (fun i _ => rowsOf L i) L.length ≤ 1152921504606846976 := by have := offB_bound L h6 L.length; omega
  have hge : ¬ offM 1 (fun _ => 1) (fun i _ => rowsOf L i) L.length < 0 := by have := offM_low 1 (fun _ => 1) (fun i _ => rowsOf L i) L.length; omega
  have HOFF := Lib.hid hoff
  have SP := Lib.hid SP
  have IM := Lib.hid IM
  clear hoff hl h6
  obtain ⟨kl, hkl⟩ : ∃ kl, offM 1 (fun _ => 1) (fun i _ => rowsOf L i) L.length = kl := ⟨_, rfl⟩
  rw [hkl] at hge
  have HKL := Lib.hid hkl
  clear hkl
  go_enter Try.func5, Try.ntmps5
  go_wp2_with fail
  refine (SP.out _).mono ?_
  rintro e w1 ⟨Vw, USw, VSw, rfl, fw1, b1⟩
  go_wp2_with fail
  refine (IM.out _).mono ?_
  rintro e w2 ⟨Vg, USg, VSg, rfl, fg2, b2, sg⟩
  have FW1 := Lib.hid fw1
  have FW2 := Lib.hid (fw1.below b2)
  have FG2 := Lib.hid fg2
  have SG := Lib.hid (sepB sg)
  have b02 := b1.trans (b2.mono b1.size)
  have hs1 := b1.size
  have hs2 := b2.size
  clear fw1 fg2 sg
  go_wp2_with fail
  refine (eqDualS_same Vg Vw L.length _ _ USg USw _ _ _ _ _ FG2.out FW2.out).mono ?_
  rintro e w3 ⟨rfl, b3⟩
  have FW3 := Lib.hid (FW2.out.below b3)
  have FG3 := Lib.hid (FG2.out.below b3)
  have b03 := b02.trans (b3.mono b02.size)
  have hs3 := b3.size
  clear FW2 FG2 b02
  go_wp2_with fail
  refine (markDualS_own 1 (by omega) Vg L.length _ USg _ _ _ w3 FG3.out SG.out (by omega) HOFF.out).mono ?_
  rintro e w4 ⟨rfl, fg4, b4⟩
  have FW4 := Lib.hid (FW1.out.low b4 FW3.out)
  have FG4 := Lib.hid fg4
  have b04 : Below w.heap.size w w4 := b03.trans (b4.mono hs1)
  have hs4 := b4.size
  rw [HKL.out]
  clear fg4 b4 b03 b3 b1 b2 FW3 FG3
  go_wp2_with fail
  refine (heldDualS_own Vg L.length _ USg _ _ _ w4 FG4.out HOFF.out).mono ?_
  rintro e w5 ⟨rfl, rfl⟩
  rw [HKL.out]
  go_wp2_with fail
  refine (IM.out _).mono ?_
  rintro e w6 ⟨Vh, USh, VSh, rfl, fh6, b6, _⟩
  have FW6 := Lib.hid (FW4.out.below b6)
  have FG6 := Lib.hid (FG4.out.below b6)
  have FH6 := Lib.hid fh6
  have b06 := b04.trans (b6.mono b04.size)
  clear fh6 b6 b04 FW4 FG4
  go_wp2_with fail
  refine (eqDualS_same Vh Vw L.length _ _ USh USw _ _ _ _ _ FH6.out FW6.out).mono ?_
  rintro e w7 ⟨rfl, b7⟩
  have FG7 := Lib.hid (FG6.out.below b7)
  have b07 := b06.trans (b7.mono b06.size)
  clear b7 b06 FG6 FH6 FW6
  go_wp2_with fail
  refine (heldDualS_own Vg L.length _ USg _ _ _ w7 FG7.out HOFF.out).mono ?_
  rintro e w8 ⟨rfl, rfl⟩
  rw [HKL.out]
  go_wp2_with fail
  go_ret
  exact ⟨rfl, b07⟩
end Go.Proofs.Ytnmilkehggjpfaa.Dl
