/-
  Contracts of spec.OnesIn and impl.OnesIn, and the walk of laws.FnExactOnesIn.
-/
import Derived.Test.YtfhfnjcfkpcmnaaWOnes
import Derived.Test.YtfhfnjcfkpcmnaaWDigits
import Derived.Test.YtfhfnjcfkpcmnaaWBinomial
namespace Go.Proofs.Ytfhfnjcfkpcmnaa
open Go.RowKit

theorem own_len {w : World} {B : Nat} {v : Value} {n : Nat} {xs : List Value} (h : w.ownsRow B 2 1 v n xs) : ∃ a cap, v = .slice a n cap ∧ n ≤ maxLen := by
  rcases h.2 with ⟨rfl, rfl⟩ | ⟨g, cap, cur, rfl, _, _, h1, h2, _⟩
  · exact ⟨none, 0, rfl, Nat.zero_le _⟩
  · exact ⟨_, cap, rfl, Nat.le_trans h1 h2⟩

theorem specOnesIn_any (n : Nat) (w : World) (hx : n ≤ 1000000000000) :
    Calls Try.prog 52 #[.int .i64 n] w fun e w' => e = .returned (.tuple #[.int .i64 ((pcl 64 n : Nat) : Int), .int .i64 0]) ∧ Below w.heap.size w w' := by
  have h0 : (0 : Int) ≤ (n : Int) := by omega
  have h1 : (n : Int) ≤ 1000000000000 := by omega
  have hl := pcl_le 64 n
  have hd := dg_length n 64
  go_enter Try.func52, Try.ntmps52
  go_wp2_with (first | (go_at_call 64; go_in) | (go_at_call 69; refine (l01Digits_any n _ (by omega)).mono ?_; rintro e w' ⟨v, rfl, hown, hb⟩; rw [hd] at hown; obtain ⟨a, cap, rfl, _⟩ := own_len hown; clear hown))
  go_ret2
  exact ⟨rfl, by assumption⟩

theorem implOnesIn_any (n : Nat) (w : World) (hx : n ≤ 1000000000000) :
    Calls Try.prog 26 #[.int .i64 n] w fun e w' => e = .returned (.tuple #[.int .i64 ((pcl 64 n : Nat) : Int), .int .i64 0]) ∧ w = w' := by
  have h0 : (0 : Int) ≤ (n : Int) := by omega
  have h1 : (n : Int) ≤ 1000000000000 := by omega
  go_enter Try.func26, Try.ntmps26
  go_wp2_with (first | (go_at_call 63; go_in) | (go_at_call 70; refine (countOnes_any n _ (by omega)).mono ?_; rintro e w' ⟨rfl, rfl⟩))
  go_ret2
  exact ⟨rfl, rfl⟩

theorem walk_FnExactOnesIn (a0 : Int) (w : World) (w0 : (Lit.int .i64 a0).wf = true) :
    Calls Try.prog 7 #[.int .i64 a0] w fun e w' => e = .returned (.bool true) ∧ Below w.heap.size w w' := by
  have b0 := i64_bounds w0
  clear w0
  by_cases h0 : 0 ≤ a0
  · by_cases h1 : a0 ≤ 1000000000000
    · obtain ⟨n, rfl⟩ := Int.eq_ofNat_of_zero_le h0
      go_enter Try.func7, Try.ntmps7
      go_wp2_with (first | (go_at_call 52; refine (specOnesIn_any n _ (by omega)).mono ?_; rintro e w1 ⟨rfl, hb⟩) | (go_at_call 26; refine (implOnesIn_any n _ (by omega)).mono ?_; rintro e w' ⟨rfl, rfl⟩))
      go_ret
      exact ⟨rfl, by assumption⟩
    · go_enter Try.func7, Try.ntmps7
      go_wp2
      go_ret
      exact ⟨rfl, Below.refl _ _⟩
  · go_enter Try.func7, Try.ntmps7
    go_wp2
    go_ret
    exact ⟨rfl, Below.refl _ _⟩
end Go.Proofs.Ytfhfnjcfkpcmnaa
