/-
  Joined: WBinBoth.
-/
import Derived.Test.YtldlpeohdindaaaZeneratorForm03
import Derived.Test.YtldlpeohdindaaaZeneratorForm09
import Derived.Lib.Hide
section
namespace Go.Proofs.Ytldlpeohdindaaa
open Go.RowKit
set_option maxRecDepth 100000
set_option linter.unusedVariables false

theorem andNot_bpar (n k : Nat) (hn : n ≤ 1000000000000) (hk : k ≤ 1000000000000) : (bits .andNot .i64 (k : Int) (n : Int) != 0) = decide (bpar n k = 0) := by
  have hz := andNot_zero k n (by omega) (by omega)
  rw [i64_andNot k n (by omega) (by omega)]
  unfold bpar
  by_cases h : n &&& k = k
  · rw [hz.2 h, if_pos h]
    rfl
  · have h' : k &&& (2 ^ 64 - (n + 1)) ≠ 0 := fun e => h (hz.1 e)
    rw [if_neg h]
    have e1 : (((k &&& (2 ^ 64 - (n + 1)) : Nat) : Int) != 0) = true := by
      rw [bne_iff_ne]; intro e; exact h' (by exact_mod_cast e)
    rw [e1]
    rfl

theorem bpar_two (n k : Nat) : bpar n k = 0 ∨ bpar n k = 1 := by
  unfold bpar
  split
  · exact .inr rfl
  · exact .inl rfl

theorem implBinomial_in (n k : Nat) (w : World) (hn : n ≤ 1000000000000) (hk : k ≤ 1000000000000) :
    Calls Try.prog 37 #[.int .i64 n, .int .i64 k] w fun e w' => e = .returned (.tuple #[.int .i64 (bpar n k), .int .i64 0]) ∧ w = w' := by
  have hb := andNot_bpar n k hn hk
  have h2 := bpar_two n k
  generalize bpar n k = p at hb h2
  have t1 : (n : Int) ≤ 1000000000000 := by omega
  have t2 : (k : Int) ≤ 1000000000000 := by omega
  rcases h2 with rfl | rfl
  · have h5 : (bits .andNot .i64 (k : Int) (n : Int) != 0) = true := hb
    clear hb
    go_enter Try.func37, Try.ntmps37
    go_wp2_with (go_at_call 62; refine (isNumber_yes _ _ (by omega) (by omega)).mono ?_; rintro e w' ⟨rfl, rfl⟩)
    go_ret2
    exact ⟨rfl, rfl⟩
  · have h5 : (bits .andNot .i64 (k : Int) (n : Int) != 0) = false := hb
    clear hb
    go_enter Try.func37, Try.ntmps37
    go_wp2_with (go_at_call 62; refine (isNumber_yes _ _ (by omega) (by omega)).mono ?_; rintro e w' ⟨rfl, rfl⟩)
    go_ret2
    exact ⟨rfl, rfl⟩

theorem l01Parity_in (n k : Nat) (w : World) (hn : n ≤ 1000000000000) (hk : k ≤ 1000000000000) :
    Calls Try.prog 34 #[.int .i64 n, .int .i64 k] w fun e w' => e = .returned (.int .i64 (bpar n k)) ∧ w = w' := by
  have hle : n &&& k ≤ n := Nat.and_le_left
  by_cases h : n &&& k = k
  · have hb : bpar n k = 1 := by unfold bpar; rw [if_pos h]
    have h5 : (bits .and .i64 (n : Int) (k : Int) != (k : Int)) = false := by
      rw [i64_and n k (by omega) (by omega), h]
      simp
    have h6 : (k : Int) ≤ (n : Int) := by omega
    rw [hb]
    clear hb h hle
    go_enter Try.func34, Try.ntmps34
    go_wp2
    go_ret
    exact ⟨rfl, rfl⟩
  · have hb : bpar n k = 0 := by unfold bpar; rw [if_neg h]
    have h5 : (bits .and .i64 (n : Int) (k : Int) != (k : Int)) = true := by
      rw [i64_and n k (by omega) (by omega), bne_iff_ne]
      intro e
      exact h (by exact_mod_cast e)
    rw [hb]
    clear hb h hle
    by_cases h6 : (k : Int) ≤ (n : Int)
    · go_enter Try.func34, Try.ntmps34
      go_wp2
      go_ret
      exact ⟨rfl, rfl⟩
    · go_enter Try.func34, Try.ntmps34
      go_wp2
      go_ret
      exact ⟨rfl, rfl⟩

end Go.Proofs.Ytldlpeohdindaaa
end
