/-
  The walk of laws.FnExactDigitsOf.
-/
import Derived.Test.YtnfhfilconcajaaWImplDigits
import Derived.Test.YtnfhfilconcajaaWOwnB
import Derived.Test.YtnfhfilconcajaaWLaws
import Derived.Test.YtnfhfilconcajaaWBinomial
namespace Go.Proofs.Ytnfhfilconcajaa
set_option maxRecDepth 100000
set_option linter.unusedVariables false
open Go.RowKit

/-- What DigitsOf returns: the places, and the code. -/
def dgOf (a : Int) : List Int := if 0 ≤ a ∧ a ≤ 1000000000000 then dg a.toNat 64 else []
def cdOf (a : Int) : Int := if 0 ≤ a ∧ a ≤ 1000000000000 then 0 else 2
theorem dgOf_len (a : Int) : (dgOf a).length ≤ 64 := by
  unfold dgOf
  split
  · rw [dg_length]; exact pcl_le _ _
  · exact Nat.zero_le _

theorem implDigitsOf_all (a : Int) (w : World) :
    Calls Try.prog 128 #[.int .i64 a] w fun e w' => ∃ v, e = .returned (.tuple #[v, .int .i64 (cdOf a)]) ∧ w'.ownsRow w.heap.size 2 1 v (dgOf a).length ((dgOf a).map (Value.int .i64)) ∧ Below w.heap.size w w' := by
  by_cases h : 0 ≤ a ∧ a ≤ 1000000000000
  · obtain ⟨n, rfl⟩ := Int.eq_ofNat_of_zero_le h.1
    have E1 := Lib.hid (show dgOf (n : Int) = dg n 64 by unfold dgOf; rw [if_pos h]; rfl)
    have E2 := Lib.hid (show cdOf (n : Int) = 0 by unfold cdOf; rw [if_pos h])
    rw [E1.out, E2.out]
    exact implDigitsOf_any n w (by omega)
  · have E1 := Lib.hid (show dgOf a = [] by unfold dgOf; rw [if_neg h])
    have E2 := Lib.hid (show cdOf a = 2 by unfold cdOf; rw [if_neg h])
    rw [E1.out, E2.out]
    go_enter Try.func128, Try.ntmps128
    go_wp2_with (go_at_call 116; refine (isNumber_no _ _ (by omega)).mono ?_; rintro e w' ⟨rfl, rfl⟩)
    go_ret2
    exact ⟨_, rfl, World.ownsRow_nil _ _ _ _, Below.refl _ _⟩

end Go.Proofs.Ytnfhfilconcajaa
