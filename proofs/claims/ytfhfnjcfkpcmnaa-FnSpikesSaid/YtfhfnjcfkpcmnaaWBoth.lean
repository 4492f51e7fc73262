/-
  impl.LeastSpike, spec.LeastSpike, impl.CountPartitions, spec.CountPartitions at every number.
-/
import Derived.Test.YtfhfnjcfkpcmnaaWLeastSpike
import Derived.Test.YtfhfnjcfkpcmnaaWCount
namespace Go.Proofs.Ytfhfnjcfkpcmnaa
open Go.RowKit
set_option linter.unusedVariables false

theorem LS.ex (d : Nat) : ∃ s, LS d s := by
  have h : ∀ k, (∃ s, LS d s) ∨ LSto d k := by
    intro k
    induction k with
    | zero => exact .inr fun t ht => by omega
    | succ k ih =>
      rcases ih with h | h
      · exact .inl h
      · by_cases hk : k < pcl 64 (d + k)
        · exact .inr (h.next hk)
        · exact .inl ⟨k, by omega, h⟩
  rcases h 65 with h | h
  · exact h
  · have h1 := h 64 (by omega)
    have h2 := pcl_le 64 (d + 64)
    omega

/-- The pair that both return, with nothing old changed. -/
def PairRes (x c : Int) (w : World) (e : Ending) (w' : World) : Prop := e = .returned (.tuple #[.int .i64 x, .int .i64 c]) ∧ Below w.heap.size w w'

theorem least_both (a : Int) (h0 : -9223372036854775808 ≤ a) (h1 : a ≤ 9223372036854775807) :
    ∃ x c : Int, (∀ w, Calls Try.prog 44 #[.int .i64 a] w (PairRes x c w)) ∧ (∀ w, Calls Try.prog 47 #[.int .i64 a] w (PairRes x c w)) := by
  by_cases h : 0 ≤ a ∧ a ≤ 1000000
  · obtain ⟨n, rfl⟩ := Int.eq_ofNat_of_zero_le h.1
    obtain ⟨s, hs⟩ := LS.ex n
    refine ⟨s, 0, fun w => (implLeastSpike_any n w (by omega)).mono ?_, fun w => (specLeastSpike_any n w (by omega)).mono ?_⟩
    · rintro e w' ⟨t, ht, _, rfl, rfl⟩
      obtain rfl := hs.unique ht
      exact ⟨rfl, Below.refl _ _⟩
    · rintro e w' ⟨t, ht, rfl, hb⟩
      obtain rfl := hs.unique ht
      exact ⟨rfl, hb⟩
  · refine ⟨0, 2, fun w => ?_, fun w => ?_⟩
    · by_cases h2 : 0 ≤ a
      · have h3 : 1000000 < a := by omega
        clear h
        go_enter Try.func44, Try.ntmps44
        go_wp2
        go_ret2
        exact ⟨rfl, Below.refl _ _⟩
      · have h3 : a < 0 := by omega
        clear h h2
        go_enter Try.func44, Try.ntmps44
        go_wp2
        go_ret2
        exact ⟨rfl, Below.refl _ _⟩
    · go_enter Try.func47, Try.ntmps47
      go_wp2_with (go_at_call 64; refine (l01In_no _ _ _ _ (by omega)).mono ?_; rintro e w' ⟨rfl, rfl⟩)
      go_ret2
      exact ⟨rfl, Below.refl _ _⟩

theorem count_both (a : Int) (h0 : -9223372036854775808 ≤ a) (h1 : a ≤ 9223372036854775807) :
    ∃ x c : Int, (∀ w, Calls Try.prog 32 #[.int .i64 a] w (PairRes x c w)) ∧ (∀ w, Calls Try.prog 49 #[.int .i64 a] w (PairRes x c w)) := by
  by_cases h : 0 ≤ a ∧ a ≤ 300
  · obtain ⟨n, rfl⟩ := Int.eq_ofNat_of_zero_le h.1
    exact ⟨_, 0, fun w => implCount_any n w (by omega), fun w => specCountPartitions_any n w (by omega)⟩
  · refine ⟨0, 2, fun w => ?_, fun w => ?_⟩
    · by_cases h2 : 0 ≤ a
      · have h3 : 300 < a := by omega
        clear h
        go_enter Try.func32, Try.ntmps32
        go_wp2
        go_ret2
        exact ⟨rfl, Below.refl _ _⟩
      · have h3 : a < 0 := by omega
        clear h h2
        go_enter Try.func32, Try.ntmps32
        go_wp2
        go_ret2
        exact ⟨rfl, Below.refl _ _⟩
    · go_enter Try.func49, Try.ntmps49
      go_wp2_with (go_at_call 64; refine (l01In_no _ _ _ _ (by omega)).mono ?_; rintro e w' ⟨rfl, rfl⟩)
      go_ret2
      exact ⟨rfl, Below.refl _ _⟩
end Go.Proofs.Ytfhfnjcfkpcmnaa
