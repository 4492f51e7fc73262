/-
  Contracts of spec.OnesIn and impl.OnesIn, and the walk of laws.FnExactOnesIn.
-/
import Derived.Test.YtfmnlapnbhcacaaWOnes
import Derived.Test.YtfmnlapnbhcacaaWDigits
import Derived.Test.YtfmnlapnbhcacaaWBinomial
namespace Go.Proofs.Ytfmnlapnbhcacaa
open Go.RowKit
set_option maxRecDepth 100000

theorem own_len {w : World} {B : Nat} {v : Value} {n : Nat} {xs : List Value} (h : w.ownsRow B 2 1 v n xs) : ∃ a cap, v = .slice a n cap ∧ n ≤ maxLen := by
  rcases h.2 with ⟨rfl, rfl⟩ | ⟨g, cap, cur, rfl, _, _, h1, h2, _⟩
  · exact ⟨none, 0, rfl, Nat.zero_le _⟩
  · exact ⟨_, cap, rfl, Nat.le_trans h1 h2⟩

theorem implOnesIn_any (n : Nat) (w : World) (hx : n ≤ 1000000000000) :
    Calls Try.prog 25 #[.int .i64 n] w fun e w' => e = .returned (.tuple #[.int .i64 ((pcl 64 n : Nat) : Int), .int .i64 0]) ∧ w = w' := by
  have h0 : (0 : Int) ≤ (n : Int) := by omega
  have h1 : (n : Int) ≤ 1000000000000 := by omega
  go_enter Try.func25, Try.ntmps25
  go_wp2_with (first | (go_at_call 75; go_in) | (go_at_call 82; refine (countOnes_any n _ (by omega)).mono ?_; rintro e w' ⟨rfl, rfl⟩))
  go_ret2
  exact ⟨rfl, rfl⟩

end Go.Proofs.Ytfmnlapnbhcacaa
