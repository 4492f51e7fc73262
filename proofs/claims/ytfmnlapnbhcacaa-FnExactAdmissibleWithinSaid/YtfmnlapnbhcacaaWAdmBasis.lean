/-
  Contracts of spec.l03Basis, spec.AdmissibleBasis and impl.AdmissibleBasis.
-/
import Derived.Test.YtfmnlapnbhcacaaWImplAdm
namespace Go.Proofs.Ytfmnlapnbhcacaa
open Go.RowKit
set_option maxRecDepth 100000
set_option linter.unusedVariables false

/-- What AdmissibleBasis returns. -/
def abOf (a : Int) : List (List Int) := if 0 ≤ a ∧ a ≤ 40 then adm 40 [] a.toNat a.toNat else []
theorem abOf_len (a : Int) : (abOf a).length ≤ 1099511627776 ∧ ∀ x ∈ abOf a, x.length ≤ 40 := by
  unfold abOf
  split
  · rename_i h
    constructor
    · refine Nat.le_trans (adm_len 40 [] a.toNat a.toNat) ?_
      have : 2 ^ a.toNat ≤ 2 ^ 40 := Nat.pow_le_pow_right (by decide) (by omega)
      exact this
    · intro x hx
      have := adm_row 40 [] _ _ x hx
      rw [List.length_nil] at this
      omega
  · exact ⟨Nat.zero_le _, fun x hx => by cases hx⟩

theorem abOf_off (a : Int) : off 1 (fun i => (rowsOf (abOf a) i).length) (abOf a).length ≤ 1152921504606846976 := by
  have h1 := abOf_len a
  have h2 := off_bound (fun i => (rowsOf (abOf a) i).length) 40 (abOf a).length (fun i hi => rowsOf_len _ 40 h1.2 i hi)
  have h3 := h1.1
  omega

theorem pow40 (n : Nat) (h : n ≤ 40) : 0 + 2 ^ n ≤ 2199023255552 := by
  have h1 : 2 ^ n ≤ 2 ^ 40 := Nat.pow_le_pow_right (by decide) h
  have h2 : 2 ^ 40 = 1099511627776 := by decide
  rw [h2] at h1
  omega

theorem l03Basis_any (n : Nat) (w : World) (hn : n ≤ 40) :
    Calls Try.prog 117 #[.int .i64 n] w fun e w' => ∃ V VS, e = .returned V ∧ FamL w' w.heap.size V VS (adm 40 [] n n) ∧ Below w.heap.size w w' := by
  have aB : Below w.heap.size w (w.alloc (.cells #[] 2)) := (Below.refl _ w).alloc (Nat.le_refl _) _
  have O0 : (w.alloc (.cells #[] 2)).ownsRow w.heap.size 2 1 (.slice (some ⟨w.heap.size, 0, none⟩) 0 0) 0 (([] : List Int).map (Value.int .i64)) := World.ownsRow_made w #[] 0 (Nat.le_refl _) (Nat.zero_le _) (by simp)
  have hsz : w.heap.size ≤ (w.alloc (.cells #[] 2)).heap.size := by simp
  have P := Lib.hid (specAdmW_any 40 [] n n [] w.heap.size w.heap.size 0 (.slice none 0 0) (fun _ => undef) n n 0 _ rfl rfl rfl (by omega) (by rw [List.length_nil]; omega) (by omega) (by rw [List.length_nil]; exact pow40 n (by omega)) O0 (fam_nil _ _ _) hsz)
  have AB := Lib.hid aB
  clear O0 hsz aB
  go_enter Try.func117, Try.ntmps117
  go_wp2_with fail
  refine P.out.mono ?_
  rintro e w1 ⟨V, VS, rfl, hF, hB, _⟩
  have F := Lib.hid hF
  have B := Lib.hid hB
  clear hF hB
  go_wp2
  go_ret
  exact ⟨V, VS, rfl, F.out, AB.out.trans B.out⟩

theorem specBasis_all (a : Int) (w : World) :
    Calls Try.prog 66 #[.int .i64 a] w (SpecRes w (pcOf a) (abOf a)) := by
  by_cases h : 0 ≤ a ∧ a ≤ 40
  · obtain ⟨n, rfl⟩ := Int.eq_ofNat_of_zero_le h.1
    have E1 := Lib.hid (show abOf (n : Int) = adm 40 [] n n by unfold abOf; rw [if_pos h]; rfl)
    have E2 := Lib.hid (show pcOf (n : Int) = 0 by unfold pcOf; rw [if_pos h])
    rw [E1.out, E2.out]
    have h1 : (n : Int) ≤ 40 := h.2
    have h0 : (0 : Int) ≤ (n : Int) := h.1
    have P := Lib.hid (l03Basis_any n w (by omega))
    clear h
    go_enter Try.func66, Try.ntmps66
    go_wp2_with (go_at_call 76; refine (l01In_yes _ _ _ _ h0 h1).mono ?_; rintro e w' ⟨rfl, rfl⟩)
    refine P.out.mono ?_
    rintro e w1 ⟨V, VS, rfl, hF, hB⟩
    have F := Lib.hid hF
    have B := Lib.hid hB
    clear hF hB
    go_wp2
    go_ret2
    exact ⟨V, VS, rfl, F.out, B.out⟩
  · have E1 := Lib.hid (show abOf a = [] by unfold abOf; rw [if_neg h])
    have E2 := Lib.hid (show pcOf a = 2 by unfold pcOf; rw [if_neg h])
    rw [E1.out, E2.out]
    go_enter Try.func66, Try.ntmps66
    go_wp2_with (go_at_call 76; refine (l01In_no _ _ _ _ (by omega)).mono ?_; rintro e w' ⟨rfl, rfl⟩)
    go_ret2
    exact ⟨_, fun _ => undef, rfl, fam_nil _ _ _, Below.refl _ _⟩

theorem implBasis_all (a : Int) (w : World) :
    Calls Try.prog 67 #[.int .i64 a] w (ImplRes w (pcOf a) (abOf a)) := by
  by_cases h : 0 ≤ a ∧ a ≤ 40
  · obtain ⟨n, rfl⟩ := Int.eq_ofNat_of_zero_le h.1
    have E1 := Lib.hid (show abOf (n : Int) = adm 40 [] n n by unfold abOf; rw [if_pos h]; rfl)
    have E2 := Lib.hid (show pcOf (n : Int) = 0 by unfold pcOf; rw [if_pos h])
    rw [E1.out, E2.out]
    have h1 : (n : Int) ≤ 40 := h.2
    have h0 : (0 : Int) ≤ (n : Int) := h.1
    have P := Lib.hid (implAdmW_any 40 [] n n [] w.heap.size (.slice none 0 0) (.slice none 0 0) (fun _ => undef) n n 0 w rfl rfl rfl (by omega) (by rw [List.length_nil]; omega) (by omega) (by rw [List.length_nil]; exact pow40 n (by omega)) (World.ownsRow_nil _ _ _ _) (fam_nil _ _ _) (sep_zero _) (fun i hi => absurd hi (Nat.not_lt_zero _)) (Nat.le_refl _))
    clear h
    go_enter Try.func67, Try.ntmps67
    go_wp2_with fail
    refine P.out.mono ?_
    rintro e w1 ⟨V, VS, rfl, hF, hB, _, _, hS, _⟩
    have F := Lib.hid hF
    have B := Lib.hid hB
    have S := Lib.hid hS
    clear hF hB hS
    go_wp2
    go_ret2
    exact ⟨V, VS, rfl, F.out, B.out, S.out⟩
  · have E1 := Lib.hid (show abOf a = [] by unfold abOf; rw [if_neg h])
    have E2 := Lib.hid (show pcOf a = 2 by unfold pcOf; rw [if_neg h])
    rw [E1.out, E2.out]
    by_cases h0 : a < 0
    · go_enter Try.func67, Try.ntmps67
      go_wp2
      go_ret2
      exact ⟨_, fun _ => undef, rfl, fam_nil _ _ _, Below.refl _ _, sep_zero _⟩
    · have h1 : 40 < a := by omega
      clear h
      go_enter Try.func67, Try.ntmps67
      go_wp2
      go_ret2
      exact ⟨_, fun _ => undef, rfl, fam_nil _ _ _, Below.refl _ _, sep_zero _⟩
end Go.Proofs.Ytfmnlapnbhcacaa
