/-
  Contract of impl.areBits.
-/
import Derived.Test.YtachdmklkkakbaaWArgs
namespace Go.Proofs.Ytachdmklkkakbaa
open Go.RowKit
set_option linter.unusedVariables false
set_option maxRecDepth 100000

theorem first_of (P : Nat → Prop) (n : Nat) : ∃ z, z ≤ n ∧ (∀ i, i < z → P i) ∧ (z < n → ¬ P z) := by
  induction n with
  | zero => exact ⟨0, Nat.le_refl _, fun i hi => absurd hi (Nat.not_lt_zero _), fun h => absurd h (Nat.lt_irrefl _)⟩
  | succ n ih =>
    obtain ⟨z, h1, h2, h3⟩ := ih
    by_cases hz : z < n
    · exact ⟨z, by omega, h2, fun _ => h3 hz⟩
    · obtain rfl : z = n := by omega
      by_cases hP : P z
      · exact ⟨z + 1, Nat.le_refl _, fun i hi => by
          by_cases e : i = z
          · subst e; exact hP
          · exact h2 i (by omega), fun h => absurd h (Nat.lt_irrefl _)⟩
      · exact ⟨z, by omega, h2, fun _ => hP⟩

theorem areBits_some (s : Value) (n z : Nat) (r : Bool) (G : Nat → Int) (w : World) (h : RdI w s n G) (hz : z ≤ n) (hgood : ∀ i, i < z → G i = 0 ∨ G i = 1)
    (hend : (z = n ∧ r = true) ∨ (z < n ∧ ¬ (G z = 0 ∨ G z = 1) ∧ r = false)) :
    Calls Try.prog 66 #[s] w fun e w' => e = .returned (.bool r) ∧ w = w' := by
  obtain ⟨a, cap, rfl, hm, hc⟩ := h
  unfold maxLen at hm
  have HG := Lib.hid hgood
  have HE := Lib.hid hend
  have HC := Lib.hid hc
  clear hc hgood hend
  go_enter Try.func66, Try.ntmps66
  go_wp2
  go_loop [4, 7] (fun _ i => ∃ j : Nat, j ≤ z ∧ i = .int .i64 j) (fun _ i => n - (intOf i).toNat)
  case atStart => exact ⟨0, by omega, rfl⟩
  case round =>
    obtain ⟨j, hj, rfl⟩ := hrel
    by_cases hlt : j < n
    · have hlt' : (j : Int) < (n : Int) := by omega
      obtain ⟨b, off, rfl, hc⟩ := HC.out.resolve_left (by omega)
      have d1 := hc j hlt
      clear hc
      by_cases hz2 : j < z
      · have hg := HG.out j hz2
        rcases hg with hg | hg <;> rw [hg] at d1 <;> clear hg
        · go_wp2
          go_round
          case rel => exact ⟨j + 1, by omega, by go_num⟩
          case measure => simp [intOf]; omega
        · go_wp2
          go_round
          case rel => exact ⟨j + 1, by omega, by go_num⟩
          case measure => simp [intOf]; omega
      · obtain rfl : j = z := by omega
        obtain ⟨_, hg, rfl⟩ := HE.out.resolve_left (fun h => by omega)
        generalize G j = x at d1 hg
        have h0 : (x != 0) = true := by rw [bne_iff_ne]; exact fun h => hg (.inl h)
        have h1 : (x != 1) = true := by rw [bne_iff_ne]; exact fun h => hg (.inr h)
        clear hg
        go_wp2
        go_ret
        exact ⟨rfl, rfl⟩
    · obtain rfl : j = n := by omega
      have hr : r = true := by
        rcases HE.out with ⟨_, h⟩ | ⟨h, _⟩
        · exact h
        · omega
      subst hr
      go_wp2
      go_ret
      exact ⟨rfl, rfl⟩
end Go.Proofs.Ytachdmklkkakbaa
