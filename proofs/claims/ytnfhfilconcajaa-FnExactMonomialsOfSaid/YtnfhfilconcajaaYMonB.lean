/-
  spec.MonomialsOf and impl.MonomialsOf answer the same.
-/
import Derived.Test.YtnfhfilconcajaaYMonI
import Derived.Test.YtnfhfilconcajaaWPartLaw
import Derived.Test.YtnfhfilconcajaaWIn
namespace Go.Proofs.Ytnfhfilconcajaa
open Go.RowKit
set_option linter.unusedVariables false
set_option maxRecDepth 100000

def moIn (a b : Int) : Prop := (1 ≤ a ∧ a ≤ 4) ∧ 0 ≤ b ∧ b ≤ 40
instance (a b : Int) : Decidable (moIn a b) := inferInstanceAs (Decidable (_ ∧ _))
/-- What MonomialsOf returns. -/
def moOf (a b : Int) : List (List Int) := if moIn a b then (if (ms (a.toNat - 1) b.toNat []).length ≤ 2000 then ms (a.toNat - 1) b.toNat [] else []) else []
def mcOf (a b : Int) : Int := if moIn a b then (if (ms (a.toNat - 1) b.toNat []).length ≤ 2000 then 0 else 3) else 2

theorem moOf_len (a b : Int) : (moOf a b).length ≤ 2000 ∧ ∀ x ∈ moOf a b, x.length ≤ 4 := by
  unfold moOf
  split
  · rename_i h
    split
    · rename_i h2
      refine ⟨h2, fun x hx => ?_⟩
      have := ms_row _ _ _ x hx
      have := h.1
      rw [List.length_nil] at *
      omega
    · exact ⟨Nat.zero_le _, fun x hx => by cases hx⟩
  · exact ⟨Nat.zero_le _, fun x hx => by cases hx⟩
theorem moOf_off (a b : Int) : off 1 (fun i => (rowsOf (moOf a b) i).length) (moOf a b).length ≤ 1152921504606846976 := by
  have h1 := moOf_len a b
  have h2 := off_bound (fun i => (rowsOf (moOf a b) i).length) 4 (moOf a b).length (fun i hi => rowsOf_len _ 4 h1.2 i hi)
  have h3 := h1.1
  omega

theorem l08All_any (f d : Nat) (K D : Int) (w : World) (hK : K = (f : Int) + 1) (hD : D = (d : Int)) (hf : f ≤ 3) (hd : d ≤ 40) :
    Calls Try.prog 76 #[.int .i64 K, .int .i64 D] w fun e w' => ∃ V VS, e = .returned V ∧ FamL w' w.heap.size V VS (ms f d []) ∧ Below w.heap.size w w' := by
  have aB : Below w.heap.size w (w.alloc (.cells #[] 2)) := (Below.refl _ w).alloc (Nat.le_refl _) _
  have O0 : (w.alloc (.cells #[] 2)).ownsRow w.heap.size 2 1 (.slice (some ⟨w.heap.size, 0, none⟩) 0 0) 0 (([] : List Int).map (Value.int .i64)) := World.ownsRow_made w #[] 0 (Nat.le_refl _) (Nat.zero_le _) (by simp)
  have hsz : w.heap.size ≤ (w.alloc (.cells #[] 2)).heap.size := by simp
  have h41 : ([] : List (List Int)).length + 41 ^ f ≤ 200000000000 := by
    rw [List.length_nil, Nat.zero_add]
    exact Nat.le_trans (Nat.pow_le_pow_right (by decide) hf) (by decide)
  have P := Lib.hid (specMs_any f [] d [] w.heap.size w.heap.size (.slice (some ⟨w.heap.size, 0, none⟩) 0 0) (.slice none 0 0) (fun _ => undef) K D 0 _ hK hD rfl hd (by omega) h41 O0 (fam_nil _ _ _) hsz)
  rw [List.nil_append] at P
  generalize ms f d [] = L at *
  clear O0 hsz h41 hK hD hf hd
  have AB := Lib.hid aB
  clear aB
  go_enter Try.func76, Try.ntmps76
  go_wp2_with fail
  refine P.out.mono ?_
  rintro e w1 ⟨V, VS, rfl, hF, hB, _⟩
  have F := Lib.hid hF
  have B := Lib.hid hB
  clear hF hB
  go_wp2
  go_ret
  exact ⟨V, VS, rfl, F.out, AB.out.trans B.out⟩

theorem specMonomialsOf_all (a b : Int) (w : World) :
    Calls Try.prog 43 #[.int .i64 a, .int .i64 b] w (SpecRes w (mcOf a b) (moOf a b)) := by
  by_cases h : moIn a b
  · obtain ⟨⟨h1, h2⟩, h3, h4⟩ := id h
    have ALL := Lib.hid (fun wx => l08All_any (a.toNat - 1) b.toNat a b wx (by omega) (by omega) (by omega) (by omega))
    by_cases hl : (ms (a.toNat - 1) b.toNat []).length ≤ 2000
    · have E1 := Lib.hid (show moOf a b = ms (a.toNat - 1) b.toNat [] by unfold moOf; rw [if_pos h, if_pos hl])
      have E2 := Lib.hid (show mcOf a b = 0 by unfold mcOf; rw [if_pos h, if_pos hl])
      rw [E1.out, E2.out]
      generalize ms (a.toNat - 1) b.toNat [] = L at *
      have hl' : ¬ (2000 : Int) < (L.length : Int) := by omega
      clear h
      go_enter Try.func43, Try.ntmps43
      go_wp2_with fail
      refine (l01In_yes _ _ _ _ h1 h2).mono ?_
      rintro e w' ⟨rfl, rfl⟩
      go_wp2_with fail
      refine (l01In_yes _ _ _ _ h3 h4).mono ?_
      rintro e w' ⟨rfl, rfl⟩
      go_wp2_with fail
      refine (ALL.out _).mono ?_
      rintro e w1 ⟨V, VS, rfl, hF, hB⟩
      obtain ⟨va, vc, rfl, _⟩ := Fam.head hF
      have F := Lib.hid hF
      have B := Lib.hid hB
      clear hF hB
      go_wp2_with fail
      go_ret2
      exact ⟨_, VS, rfl, F.out, B.out⟩
    · have E1 := Lib.hid (show moOf a b = [] by unfold moOf; rw [if_pos h, if_neg hl])
      have E2 := Lib.hid (show mcOf a b = 3 by unfold mcOf; rw [if_pos h, if_neg hl])
      rw [E1.out, E2.out]
      generalize ms (a.toNat - 1) b.toNat [] = L at *
      have hl' : (2000 : Int) < (L.length : Int) := by omega
      clear h
      go_enter Try.func43, Try.ntmps43
      go_wp2_with fail
      refine (l01In_yes _ _ _ _ h1 h2).mono ?_
      rintro e w' ⟨rfl, rfl⟩
      go_wp2_with fail
      refine (l01In_yes _ _ _ _ h3 h4).mono ?_
      rintro e w' ⟨rfl, rfl⟩
      go_wp2_with fail
      refine (ALL.out _).mono ?_
      rintro e w1 ⟨V, VS, rfl, hF, hB⟩
      obtain ⟨va, vc, rfl, _⟩ := Fam.head hF
      have B := Lib.hid hB
      clear hF hB
      go_wp2_with fail
      go_ret2
      exact ⟨_, fun _ => undef, rfl, fam_nil _ _ _, B.out⟩
  · have E1 := Lib.hid (show moOf a b = [] by unfold moOf; rw [if_neg h])
    have E2 := Lib.hid (show mcOf a b = 2 by unfold mcOf; rw [if_neg h])
    rw [E1.out, E2.out]
    by_cases ha : 1 ≤ a ∧ a ≤ 4
    · have hb : b < 0 ∨ 40 < b := by
        have : ¬ (0 ≤ b ∧ b ≤ 40) := fun hb => h ⟨ha, hb⟩
        omega
      clear h
      go_enter Try.func43, Try.ntmps43
      go_wp2_with fail
      refine (l01In_yes _ _ _ _ ha.1 ha.2).mono ?_
      rintro e w' ⟨rfl, rfl⟩
      go_wp2_with fail
      refine (l01In_no _ _ _ _ hb).mono ?_
      rintro e w' ⟨rfl, rfl⟩
      go_wp2_with fail
      go_ret2
      exact ⟨_, fun _ => undef, rfl, fam_nil _ _ _, Below.refl _ _⟩
    · have ha' : a < 1 ∨ 4 < a := by omega
      clear h
      go_enter Try.func43, Try.ntmps43
      go_wp2_with fail
      refine (l01In_no _ _ _ _ ha').mono ?_
      rintro e w' ⟨rfl, rfl⟩
      go_wp2_with fail
      go_ret2
      exact ⟨_, fun _ => undef, rfl, fam_nil _ _ _, Below.refl _ _⟩

theorem implMonomialsOf_all (a b : Int) (w : World) :
    Calls Try.prog 44 #[.int .i64 a, .int .i64 b] w (ImplRes w (mcOf a b) (moOf a b)) := by
  by_cases h : moIn a b
  · obtain ⟨⟨h1, h2⟩, h3, h4⟩ := id h
    have h41 : ([] : List (List Int)).length + 41 ^ (a.toNat - 1) ≤ 200000000000 := by
      rw [List.length_nil, Nat.zero_add]
      exact Nat.le_trans (Nat.pow_le_pow_right (by decide) (by omega : a.toNat - 1 ≤ 3)) (by decide)
    have P := Lib.hid (implMs_any (a.toNat - 1) [] b.toNat [] w.heap.size (.slice none 0 0) (.slice none 0 0) (fun _ => undef) a b 0 w (by omega) (by omega) rfl (by omega) (by omega) h41 (World.ownsRow_nil _ _ _ _) (fam_nil _ _ _) (sep_zero _) (fun i hi => absurd hi (Nat.not_lt_zero _)) (Nat.le_refl _))
    have g1 : ¬ a < 1 := by omega
    have g2 : ¬ 4 < a := by omega
    have g3 : ¬ b < 0 := by omega
    have g4 : ¬ 40 < b := by omega
    clear h41
    by_cases hl : (ms (a.toNat - 1) b.toNat []).length ≤ 2000
    · have E1 := Lib.hid (show moOf a b = ms (a.toNat - 1) b.toNat [] by unfold moOf; rw [if_pos h, if_pos hl])
      have E2 := Lib.hid (show mcOf a b = 0 by unfold mcOf; rw [if_pos h, if_pos hl])
      rw [E1.out, E2.out]
      rw [List.nil_append] at P
      generalize ms (a.toNat - 1) b.toNat [] = L at *
      have hl' : ¬ (2000 : Int) < (L.length : Int) := by omega
      clear h
      go_enter Try.func44, Try.ntmps44
      go_wp2_with fail
      refine P.out.mono ?_
      rintro e w1 ⟨V, VS, rfl, hF, hB, _, _, hS, _⟩
      obtain ⟨va, vc, rfl, _⟩ := Fam.head hF
      have F := Lib.hid hF
      have B := Lib.hid hB
      have S := Lib.hid hS
      clear hF hB hS
      go_wp2_with fail
      go_ret2
      exact ⟨_, VS, rfl, F.out, B.out, S.out⟩
    · have E1 := Lib.hid (show moOf a b = [] by unfold moOf; rw [if_pos h, if_neg hl])
      have E2 := Lib.hid (show mcOf a b = 3 by unfold mcOf; rw [if_pos h, if_neg hl])
      rw [E1.out, E2.out]
      rw [List.nil_append] at P
      generalize ms (a.toNat - 1) b.toNat [] = L at *
      have hl' : (2000 : Int) < (L.length : Int) := by omega
      clear h
      go_enter Try.func44, Try.ntmps44
      go_wp2_with fail
      refine P.out.mono ?_
      rintro e w1 ⟨V, VS, rfl, hF, hB, _, _, hS, _⟩
      obtain ⟨va, vc, rfl, _⟩ := Fam.head hF
      have B := Lib.hid hB
      clear hF hB hS
      go_wp2_with fail
      go_ret2
      exact ⟨_, fun _ => undef, rfl, fam_nil _ _ _, B.out, sep_zero _⟩
  · have E1 := Lib.hid (show moOf a b = [] by unfold moOf; rw [if_neg h])
    have E2 := Lib.hid (show mcOf a b = 2 by unfold mcOf; rw [if_neg h])
    rw [E1.out, E2.out]
    have h' : a < 1 ∨ 4 < a ∨ b < 0 ∨ 40 < b := by
      apply Classical.byContradiction
      intro hc
      exact h ⟨by omega, by omega⟩
    clear h
    by_cases g1 : a < 1
    · clear h'
      go_enter Try.func44, Try.ntmps44
      go_wp2_with fail
      go_ret2
      exact ⟨_, fun _ => undef, rfl, fam_nil _ _ _, Below.refl _ _, sep_zero _⟩
    · by_cases g2 : 4 < a
      · clear h'
        go_enter Try.func44, Try.ntmps44
        go_wp2_with fail
        go_ret2
        exact ⟨_, fun _ => undef, rfl, fam_nil _ _ _, Below.refl _ _, sep_zero _⟩
      · by_cases g3 : b < 0
        · clear h'
          go_enter Try.func44, Try.ntmps44
          go_wp2_with fail
          go_ret2
          exact ⟨_, fun _ => undef, rfl, fam_nil _ _ _, Below.refl _ _, sep_zero _⟩
        · have g4 : 40 < b := by omega
          clear h'
          go_enter Try.func44, Try.ntmps44
          go_wp2_with fail
          go_ret2
          exact ⟨_, fun _ => undef, rfl, fam_nil _ _ _, Below.refl _ _, sep_zero _⟩
end Go.Proofs.Ytnfhfilconcajaa
