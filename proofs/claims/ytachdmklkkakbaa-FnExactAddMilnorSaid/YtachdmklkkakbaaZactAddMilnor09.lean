/-
  Joined: WDigits, WImplDigits, WBinomial, WDigitsOf, WCount, WDegree.
-/
import Derived.Test.YtachdmklkkakbaaRows
import Derived.Test.YtachdmklkkakbaaZactAddMilnor02
import Derived.Test.YtachdmklkkakbaaZactAddMilnor08
import Derived.WalkLawsBesides
import Derived.WalkSpells
import Derived.Lib.Hide
import Derived.Test.YtachdmklkkakbaaZactAddMilnor07
import Derived.Test.YtachdmklkkakbaaZactAddMilnor01
import Derived.BigRegion
section
namespace Go.Proofs.Ytachdmklkkakbaa
open Go.RowKit
set_option maxRecDepth 100000
set_option linter.unusedVariables false

theorem dg_next (n i m : Nat) (h : m = n / 2 ^ i) (l : List Int) (hl : l = dg n i) : (m % 2 = 1 → l ++ [(i : Int)] = dg n (i + 1)) ∧ (m % 2 = 0 → l = dg n (i + 1)) ∧ m / 2 = n / 2 ^ (i + 1) := by
  subst h hl
  refine ⟨fun h => ?_, fun h => ?_, ?_⟩
  · rw [dg, if_pos h]
  · rw [dg, if_neg (by omega), List.append_nil]
  · rw [Nat.div_div_eq_div_mul, Nat.pow_succ]

theorem i_lt (n i m : Nat) (h : m = n / 2 ^ i) (hn : n < 9223372036854775808) (hm : 0 < m) : i < 63 := by
  apply Decidable.byContradiction
  intro hc
  have : 2 ^ 63 ≤ 2 ^ i := Nat.pow_le_pow_right (by decide) (by omega)
  have : n / 2 ^ i = 0 := Nat.div_eq_of_lt (by omega)
  omega

theorem dg_end (n i m : Nat) (h : m = n / 2 ^ i) (hi : i ≤ 64) (hm : m = 0) : dg n i = dg n 64 := by
  have e : 64 = i + (64 - i) := by omega
  rw [e, dg_stop n i (by omega)]

end Go.Proofs.Ytachdmklkkakbaa
end
section
namespace Go.Proofs.Ytachdmklkkakbaa
open Go.RowKit
set_option maxRecDepth 100000
set_option linter.unusedVariables false

end Go.Proofs.Ytachdmklkkakbaa
end
section
namespace Go.Proofs.Ytachdmklkkakbaa
open Go.RowKit
set_option maxRecDepth 100000

end Go.Proofs.Ytachdmklkkakbaa
end
section
namespace Go.Proofs.Ytachdmklkkakbaa
set_option maxRecDepth 100000
set_option linter.unusedVariables false
open Go.RowKit

/-- What DigitsOf returns: the places, and the code. -/
def dgOf (a : Int) : List Int := if 0 ≤ a ∧ a ≤ 1000000000000 then dg a.toNat 64 else []
def cdOf (a : Int) : Int := if 0 ≤ a ∧ a ≤ 1000000000000 then 0 else 2
theorem dgOf_len (a : Int) : (dgOf a).length ≤ 64 := by
  unfold dgOf
  split
  · rw [dg_length]; exact pcl_le _ _
  · exact Nat.zero_le _

end Go.Proofs.Ytachdmklkkakbaa
end
section
namespace Go.Proofs.Ytachdmklkkakbaa
open Go.RowKit
set_option maxRecDepth 100000
set_option linter.unusedVariables false

theorem spike_num (i : Nat) (h : i ≤ 60) : wrap64 (wrap64 (2 ^ i) - 1) = ((2 ^ i - 1 : Nat) : Int) := by
  have hp : 2 ^ i ≤ 2 ^ 60 := Nat.pow_le_pow_right (by decide) h
  have h1 : 1 ≤ 2 ^ i := Nat.one_le_two_pow
  have e : ((2 : Int) ^ i) = ((2 ^ i : Nat) : Int) := by simp
  rw [e]
  generalize 2 ^ i = x at *
  unfold wrap64
  omega

theorem spikeNumber_any (i : Nat) (w : World) (h : i ≤ 60) :
    Calls Try.prog 72 #[.int .i64 i] w fun e w' => e = .returned (.int .i64 (((2 ^ i - 1 : Nat)) : Int)) ∧ w = w' := by
  have h0 : (0 : Int) ≤ (i : Int) := by omega
  go_enter Try.func72, Try.ntmps72
  go_wp2
  go_ret
  exact ⟨by show Ending.returned (.int .i64 (wrap64 (wrap64 (2 ^ i) - 1))) = _; rw [spike_num i h], rfl⟩

theorem own_cell {w : World} {B g n cap : Nat} {xs : List Int} (h : w.ownsRow B 2 1 (.slice (some ⟨g, 0, none⟩) n cap) n (xs.map (Value.int .i64))) (j : Nat) (hj : j < n) : w.cell? ⟨g, j, none⟩ = some (.int .i64 (xs[j]?.getD 0)) := by
  have hl := h.1
  rw [List.length_map] at hl
  rw [h.cellAt j (by omega), List.getElem?_map, List.getElem?_eq_getElem (by omega)]
  rfl

theorem made_list (d : Nat) : (madeCells (Value.cells (.int .i64 0)) ((d + 1) * 1)).toList = (List.replicate (d + 1) (0 : Int)).map (Value.int .i64) := by
  rw [Nat.mul_one, List.map_replicate]
  exact toList_madeCells_one _ _

theorem spike_sp (i : Nat) (w : World) (h : i ≤ 59) :
    Calls Try.prog 72 #[.int .i64 ((i : Int) + 1)] w fun e w' => e = .returned (.int .i64 (sp i)) ∧ w = w' := by
  have e : sp i = 2 ^ (i + 1) - 1 := by have := sp_pow i; omega
  rw [e]
  exact spikeNumber_any (i + 1) w (by omega)

theorem sp_small (i : Nat) (h : sp i ≤ 300) : i ≤ 7 := by
  apply Decidable.byContradiction
  intro hc
  obtain ⟨j, rfl⟩ : ∃ j, i = 8 + j := ⟨i - 8, by omega⟩
  have := sp_mono 8 j
  have e : sp 8 = 511 := by decide
  omega

end Go.Proofs.Ytachdmklkkakbaa
end
section
namespace Go.Proofs.Ytachdmklkkakbaa
open Go.RowKit
set_option maxRecDepth 100000
set_option linter.unusedVariables false

/-- An exponent list. -/
def okExp (G : Nat → Int) (n : Nat) : Prop := n ≤ 10 ∧ (n = 0 ∨ G (n - 1) ≠ 0) ∧ okNums G n

theorem isExp_yes (v : Value) (n : Nat) (G : Nat → Int) (w : World) (h : RdI w v n G) (hok : okExp G n) :
    Calls Try.prog 71 #[v] w fun e w' => e = .returned (.bool true) ∧ w = w' := by
  have A := Lib.hid (areNumbers_yes v n G w h hok.2.2)
  obtain ⟨a, cap, rfl, hm, hc⟩ := h
  have hn : (n : Int) ≤ 10 := by have := hok.1; omega
  by_cases h0 : n = 0
  · subst h0
    clear hc hok
    go_enter Try.func71, Try.ntmps71
    go_wp2_with (go_at_call 84; refine A.out.mono ?_; rintro e w' ⟨rfl, rfl⟩)
    go_ret
    exact ⟨rfl, rfl⟩
  · obtain ⟨b, off, rfl, hc'⟩ := hc.resolve_left h0
    have c1 := hc' (n - 1) (by omega)
    have hl : (G (n - 1) != 0) = true := by rw [bne_iff_ne]; exact hok.2.1.resolve_left h0
    have hz : ((n : Int) == 0) = false := by rw [beq_eq_false_iff_ne]; omega
    have hp : (1 : Int) ≤ (n : Int) := by omega
    generalize G (n - 1) = x at c1 hl
    clear hc hc' hok h0
    go_enter Try.func71, Try.ntmps71
    go_wp2_with (go_at_call 84; refine A.out.mono ?_; rintro e w' ⟨rfl, rfl⟩)
    go_ret
    exact ⟨rfl, rfl⟩

theorem isExp_no (v : Value) (n : Nat) (G : Nat → Int) (w : World) (h : RdI w v n G) (hok : ¬ okExp G n) :
    Calls Try.prog 71 #[v] w fun e w' => e = .returned (.bool false) ∧ w = w' := by
  by_cases hn : n ≤ 10
  · have hn' : (n : Int) ≤ 10 := by omega
    by_cases hs : okNums G n
    · have A := Lib.hid (areNumbers_yes v n G w h hs)
      have h0 : n ≠ 0 := fun e => hok ⟨hn, .inl e, hs⟩
      have hl0 : G (n - 1) = 0 := Decidable.byContradiction fun e => hok ⟨hn, .inr e, hs⟩
      obtain ⟨a, cap, rfl, hm, hc⟩ := h
      obtain ⟨b, off, rfl, hc'⟩ := hc.resolve_left h0
      have c1 := hc' (n - 1) (by omega)
      rw [hl0] at c1
      have hz : ((n : Int) == 0) = false := by rw [beq_eq_false_iff_ne]; omega
      have hp : (1 : Int) ≤ (n : Int) := by omega
      clear hc hc' hok h0 hl0 hs
      go_enter Try.func71, Try.ntmps71
      go_wp2_with (go_at_call 84; refine A.out.mono ?_; rintro e w' ⟨rfl, rfl⟩)
      go_ret
      exact ⟨rfl, rfl⟩
    · have A := Lib.hid (areNumbers_no v n G w h hs)
      obtain ⟨a, cap, rfl, hm, hc⟩ := h
      clear hc hok hs
      go_enter Try.func71, Try.ntmps71
      go_wp2_with (go_at_call 84; refine A.out.mono ?_; rintro e w' ⟨rfl, rfl⟩)
      go_ret
      exact ⟨rfl, rfl⟩
  · obtain ⟨a, cap, rfl, hm, hc⟩ := h
    clear hc hok
    have hn' : (10 : Int) < (n : Int) := by omega
    go_enter Try.func71, Try.ntmps71
    go_wp2
    go_ret
    exact ⟨rfl, rfl⟩

theorem l01Exp_yes (v : Value) (n : Nat) (G : Nat → Int) (w : World) (h : RdI w v n G) (hok : okExp G n) :
    Calls Try.prog 69 #[v] w fun e w' => e = .returned (.bool true) ∧ w = w' := by
  obtain ⟨a, cap, rfl, hm, hc⟩ := h
  have hn : (n : Int) ≤ 10 := by have := hok.1; omega
  by_cases h0 : n = 0
  · subst h0
    clear hc hok
    go_enter Try.func69, Try.ntmps69
    go_wp2
    refine wp_loop_rounds 1 ?_
    rw [rounds_succ]
    go_wp2
    go_ret
    exact ⟨rfl, rfl⟩
  · obtain ⟨b, off, rfl, hc'⟩ := hc.resolve_left h0
    have c1 := hc' (n - 1) (by omega)
    have hl : (G (n - 1) == 0) = false := by rw [beq_eq_false_iff_ne]; exact hok.2.1.resolve_left h0
    have hp : (1 : Int) ≤ (n : Int) := by omega
    have hp' : (0 : Int) < (n : Int) := by omega
    generalize G (n - 1) = x at c1 hl
    have HC := Lib.hid hc'
    have HO := Lib.hid hok.2.2
    clear hc hc' hok h0
    go_enter Try.func69, Try.ntmps69
    go_wp2
    clear c1 hl
    go_loop [3] (fun c => ∃ j : Nat, j ≤ n ∧ c = .int .i64 j) (fun c => n - (intOf c).toNat)
    case atStart => exact ⟨0, by omega, rfl⟩
    case round =>
      obtain ⟨j, hj, rfl⟩ := hrel
      by_cases hlt : j < n
      · have hlt' : (j : Int) < (n : Int) := by omega
        have c1 := HC.out j hlt
        have h1 := (HO.out j hlt).1
        have h2 := (HO.out j hlt).2
        generalize G j = x at c1 h1 h2
        go_wp2_with (go_at_call 60; refine (l01In_yes _ _ _ _ h1 h2).mono ?_; rintro e w' ⟨rfl, rfl⟩)
        go_round
        case rel => exact ⟨j + 1, by omega, by go_num⟩
        case measure => simp [intOf]; omega
      · go_wp2
        go_ret
        exact ⟨rfl, rfl⟩

theorem l01Exp_no (v : Value) (n : Nat) (G : Nat → Int) (w : World) (h : RdI w v n G) (hok : ¬ okExp G n) :
    Calls Try.prog 69 #[v] w fun e w' => e = .returned (.bool false) ∧ w = w' := by
  obtain ⟨a, cap, rfl, hm, hc⟩ := h
  by_cases hn : n ≤ 10
  · have hn' : (n : Int) ≤ 10 := by omega
    by_cases h0 : n = 0
    · exact absurd ⟨hn, .inl h0, fun i hi => by omega⟩ hok
    · obtain ⟨b, off, rfl, hc'⟩ := hc.resolve_left h0
      have hp : (1 : Int) ≤ (n : Int) := by omega
      have hp' : (0 : Int) < (n : Int) := by omega
      have c1 := hc' (n - 1) (by omega)
      by_cases hl0 : G (n - 1) = 0
      · rw [hl0] at c1
        clear hc hc' hok h0 hl0
        go_enter Try.func69, Try.ntmps69
        go_wp2
        go_ret
        exact ⟨rfl, rfl⟩
      · obtain ⟨q, hq, hbad, hok'⟩ := okNums_not (fun e => hok ⟨hn, .inr hl0, e⟩)
        have hl : (G (n - 1) == 0) = false := by rw [beq_eq_false_iff_ne]; exact hl0
        generalize G (n - 1) = x at c1 hl
        have HC := Lib.hid hc'
        have HO := Lib.hid hok'
        have HB := Lib.hid hbad
        clear hc hc' hok h0 hl0 hok' hbad
        go_enter Try.func69, Try.ntmps69
        go_wp2
        clear c1 hl
        go_loop [3] (fun c => ∃ j : Nat, j ≤ q ∧ c = .int .i64 j) (fun c => n - (intOf c).toNat)
        case atStart => exact ⟨0, by omega, rfl⟩
        case round =>
          obtain ⟨j, hj, rfl⟩ := hrel
          have hlt' : (j : Int) < (n : Int) := by omega
          have c1 := HC.out j (by omega)
          by_cases hlt : j < q
          · have h1 := (HO.out j hlt).1
            have h2 := (HO.out j hlt).2
            generalize G j = x at c1 h1 h2
            go_wp2_with (go_at_call 60; refine (l01In_yes _ _ _ _ h1 h2).mono ?_; rintro e w' ⟨rfl, rfl⟩)
            go_round
            case rel => exact ⟨j + 1, by omega, by go_num⟩
            case measure => simp [intOf]; omega
          · obtain rfl : j = q := by omega
            generalize G j = x at c1 HB
            go_wp2_with (go_at_call 60; refine (l01In_no _ _ _ _ HB.out).mono ?_; rintro e w' ⟨rfl, rfl⟩)
            go_ret
            exact ⟨rfl, rfl⟩
  · clear hc hok
    have hn' : (10 : Int) < (n : Int) := by omega
    go_enter Try.func69, Try.ntmps69
    go_wp2
    go_ret
    exact ⟨rfl, rfl⟩

/-- The degree of the first j exponents. -/
def dgr (G : Nat → Int) : Nat → Int
  | 0 => 0
  | j + 1 => wrap64 (dgr G j + wrap64 (G j * (sp j : Int)))
end Go.Proofs.Ytachdmklkkakbaa
end
