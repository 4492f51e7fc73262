/-
  Contracts of spec.SpikesOf and impl.SpikesOf, and the walk of laws.FnExactSpikesOf.
-/
import Derived.Test.YtfhfnjcfkpcmnaaWImplSpk
namespace Go.Proofs.Ytfhfnjcfkpcmnaa
open Go.RowKit
set_option linter.unusedVariables false

/-- What SpikesOf returns. -/
def skOf (a : Int) : List (List Int) := if 0 ≤ a ∧ a ≤ 40 then spk 40 [] a.toNat a.toNat else []
theorem skOf_len (a : Int) : (skOf a).length ≤ 1099511627776 ∧ ∀ x ∈ skOf a, x.length ≤ 40 := by
  unfold skOf
  split
  · rename_i h
    constructor
    · refine Nat.le_trans (spk_len 40 [] a.toNat a.toNat) ?_
      have : 2 ^ a.toNat ≤ 2 ^ 40 := Nat.pow_le_pow_right (by decide) (by omega)
      exact this
    · intro x hx
      have := spk_row 40 [] _ _ x hx
      rw [List.length_nil] at this
      omega
  · exact ⟨Nat.zero_le _, fun x hx => by cases hx⟩

theorem skOf_off (a : Int) : off 1 (fun i => (rowsOf (skOf a) i).length) (skOf a).length ≤ 1152921504606846976 := by
  have h1 := skOf_len a
  have h2 := off_bound (fun i => (rowsOf (skOf a) i).length) 40 (skOf a).length (fun i hi => rowsOf_len _ 40 h1.2 i hi)
  have h3 := h1.1
  omega

theorem pow40 (n : Nat) (h : n ≤ 40) : 0 + 2 ^ n ≤ 2199023255552 := by
  have h1 : 2 ^ n ≤ 2 ^ 40 := Nat.pow_le_pow_right (by decide) h
  have h2 : 2 ^ 40 = 1099511627776 := by decide
  rw [h2] at h1
  omega

theorem specSpikesOf_all (a : Int) (w : World) :
    Calls Try.prog 43 #[.int .i64 a] w (SpecRes w (pcOf a) (skOf a)) := by
  by_cases h : 0 ≤ a ∧ a ≤ 40
  · obtain ⟨n, rfl⟩ := Int.eq_ofNat_of_zero_le h.1
    have E1 := Lib.hid (show skOf (n : Int) = spk 40 [] n n by unfold skOf; rw [if_pos h]; rfl)
    have E2 := Lib.hid (show pcOf (n : Int) = 0 by unfold pcOf; rw [if_pos h])
    rw [E1.out, E2.out]
    have h1 : (n : Int) ≤ 40 := h.2
    have h0 : (0 : Int) ≤ (n : Int) := h.1
    clear h
    have aB : Below w.heap.size w (w.alloc (.cells #[] 2)) := (Below.refl _ w).alloc (Nat.le_refl _) _
    have O0 : (w.alloc (.cells #[] 2)).ownsRow w.heap.size 2 1 (.slice (some ⟨w.heap.size, 0, none⟩) 0 0) 0 (([] : List Int).map (Value.int .i64)) := World.ownsRow_made w #[] 0 (Nat.le_refl _) (Nat.zero_le _) (by simp)
    have hsz : w.heap.size ≤ (w.alloc (.cells #[] 2)).heap.size := by simp
    have P := Lib.hid (specSpk_any 40 [] n n [] w.heap.size w.heap.size 0 (.slice none 0 0) (fun _ => undef) n n 0 _ rfl rfl rfl (by omega) (by rw [List.length_nil]; omega) (by omega) (by rw [List.length_nil]; exact pow40 n (by omega)) O0 (fam_nil _ _ _) hsz)
    have AB := Lib.hid aB
    clear O0 hsz aB
    go_enter Try.func43, Try.ntmps43
    go_wp2_with (go_at_call 64; refine (l01In_yes _ _ _ _ h0 h1).mono ?_; rintro e w' ⟨rfl, rfl⟩)
    refine P.out.mono ?_
    rintro e w1 ⟨V, VS, rfl, hF, hB, _⟩
    have F := Lib.hid hF
    have B := Lib.hid hB
    clear hF hB
    go_wp2
    go_ret2
    exact ⟨V, VS, rfl, F.out, AB.out.trans B.out⟩
  · have E1 := Lib.hid (show skOf a = [] by unfold skOf; rw [if_neg h])
    have E2 := Lib.hid (show pcOf a = 2 by unfold pcOf; rw [if_neg h])
    rw [E1.out, E2.out]
    go_enter Try.func43, Try.ntmps43
    go_wp2_with (go_at_call 64; refine (l01In_no _ _ _ _ (by omega)).mono ?_; rintro e w' ⟨rfl, rfl⟩)
    go_ret2
    exact ⟨_, fun _ => undef, rfl, fam_nil _ _ _, Below.refl _ _⟩

theorem implSpikesOf_all (a : Int) (w : World) :
    Calls Try.prog 42 #[.int .i64 a] w (ImplRes w (pcOf a) (skOf a)) := by
  by_cases h : 0 ≤ a ∧ a ≤ 40
  · obtain ⟨n, rfl⟩ := Int.eq_ofNat_of_zero_le h.1
    have E1 := Lib.hid (show skOf (n : Int) = spk 40 [] n n by unfold skOf; rw [if_pos h]; rfl)
    have E2 := Lib.hid (show pcOf (n : Int) = 0 by unfold pcOf; rw [if_pos h])
    rw [E1.out, E2.out]
    have h1 : (n : Int) ≤ 40 := h.2
    have h0 : (0 : Int) ≤ (n : Int) := h.1
    have P := Lib.hid (implSpk_any 40 [] n n [] w.heap.size (.slice none 0 0) (.slice none 0 0) (fun _ => undef) n 0 w rfl rfl (by omega) (by rw [List.length_nil]; omega) (by omega) (.inl ⟨rfl, rfl⟩) (by rw [List.length_nil]; exact pow40 n (by omega)) (World.ownsRow_nil _ _ _ _) (fam_nil _ _ _) (sep_zero _) (fun i hi => absurd hi (Nat.not_lt_zero _)) (Nat.le_refl _))
    clear h
    go_enter Try.func42, Try.ntmps42
    go_wp2_with fail
    refine P.out.mono ?_
    rintro e w1 ⟨V, VS, rfl, hF, hB, _, _, hS, _⟩
    have F := Lib.hid hF
    have B := Lib.hid hB
    have S := Lib.hid hS
    clear hF hB hS
    go_wp2
    go_ret2
    exact ⟨V, VS, rfl, F.out, B.out, S.out⟩
  · have E1 := Lib.hid (show skOf a = [] by unfold skOf; rw [if_neg h])
    have E2 := Lib.hid (show pcOf a = 2 by unfold pcOf; rw [if_neg h])
    rw [E1.out, E2.out]
    by_cases h0 : a < 0
    · go_enter Try.func42, Try.ntmps42
      go_wp2
      go_ret2
      exact ⟨_, fun _ => undef, rfl, fam_nil _ _ _, Below.refl _ _, sep_zero _⟩
    · have h1 : 40 < a := by omega
      clear h
      go_enter Try.func42, Try.ntmps42
      go_wp2
      go_ret2
      exact ⟨_, fun _ => undef, rfl, fam_nil _ _ _, Below.refl _ _, sep_zero _⟩

theorem walk_FnExactSpikesOf (a0 : Int) (w : World) (w0 : (Lit.int .i64 a0).wf = true) :
    Calls Try.prog 13 #[.int .i64 a0] w fun e w' => e = .returned (.bool true) ∧ Below w.heap.size w w' := by
  clear w0
  have hoff := skOf_off a0
  have SP := fun (wx : World) => specSpikesOf_all a0 wx
  have IM := fun (wx : World) => implSpikesOf_all a0 wx
  generalize skOf a0 = xss at hoff SP IM
  generalize pcOf a0 = cd at SP IM
  have hge : ¬ off 1 (fun i => (rowsOf xss i).length) xss.length < 0 := by
    have := off_low 1 (fun i => (rowsOf xss i).length) xss.length
    omega
  have HOFF := Lib.hid hoff
  have SP := Lib.hid SP
  have IM := Lib.hid IM
  clear hoff
  go_enter Try.func13, Try.ntmps13
  go_wp2_with fail
  refine (SP.out _).mono ?_
  rintro e w1 ⟨Vw, VSw, rfl, fw1, b1⟩
  go_wp2_with fail
  refine (IM.out _).mono ?_
  rintro e w2 ⟨Vg, VSg, rfl, fg2, b2, sg⟩
  have FW2 := Lib.hid (fw1.below b2)
  have FW1 := Lib.hid fw1
  have FG2 := Lib.hid fg2
  have SG := Lib.hid sg
  have b02 := b1.trans (b2.mono b1.size)
  have hs1 := b1.size
  have hs2 := b2.size
  clear fw1 fg2 sg
  go_wp2_with fail
  refine (eqInt64SS_same Vg Vw xss.length _ _ VSg VSw _ _ FG2.out FW2.out).mono ?_
  rintro e w3 ⟨rfl, q, rfl⟩
  go_wp2_with fail
  refine (markInt64SS_own Vg xss.length _ VSg _ _ (FG2.out.drewN q) SG.out HOFF.out).mono ?_
  rintro e w4 ⟨rfl, fg4, b4⟩
  have b24 : Below w1.heap.size w2 w4 := ((below_drewN (Below.refl w1.heap.size w2) q)).trans b4
  have FW4 := Lib.hid (FW1.out.low b24 FW2.out)
  have FG4 := Lib.hid fg4
  have b04 : Below w.heap.size w w4 := b02.trans (b24.mono hs1)
  have hs4 := b24.size
  clear fg4 b4 b24 b02 b1 b2
  go_wp2_with fail
  refine (heldInt64SS_own Vg xss.length _ VSg _ _ FG4.out HOFF.out).mono ?_
  rintro e w5 ⟨rfl, rfl⟩
  go_wp2_with fail
  refine (IM.out _).mono ?_
  rintro e w6 ⟨Vh, VSh, rfl, fh6, b6, _⟩
  have FW6 := Lib.hid (FW4.out.below b6)
  have FG6 := Lib.hid (FG4.out.below b6)
  have FH6 := Lib.hid fh6
  have b06 := b04.trans (b6.mono b04.size)
  clear fh6 b6 b04
  go_wp2_with fail
  refine (eqInt64SS_same Vh Vw xss.length _ _ VSh VSw _ _ FH6.out FW6.out).mono ?_
  rintro e w7 ⟨rfl, q', rfl⟩
  go_wp2_with fail
  refine (heldInt64SS_own Vg xss.length _ VSg _ _ (FG6.out.drewN q') HOFF.out).mono ?_
  rintro e w8 ⟨rfl, rfl⟩
  go_wp2_with fail
  go_ret
  exact ⟨rfl, below_drewN b06 q'⟩
end Go.Proofs.Ytfhfnjcfkpcmnaa
