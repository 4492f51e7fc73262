/-
  Contracts for DegreeOf, and the walk of laws.FnExactDegreeOf.
-/
import Derived.Test.YtnfhfilconcajaaWMulti
import Derived.Test.YtnfhfilconcajaaWCount
namespace Go.Proofs.Ytnfhfilconcajaa
open Go.RowKit
set_option maxRecDepth 100000
set_option linter.unusedVariables false

/-- An exponent list. -/
def okExp (G : Nat → Int) (n : Nat) : Prop := n ≤ 10 ∧ (n = 0 ∨ G (n - 1) ≠ 0) ∧ okNums G n

theorem isExp_yes (v : Value) (n : Nat) (G : Nat → Int) (w : World) (h : RdI w v n G) (hok : okExp G n) :
    Calls Try.prog 109 #[v] w fun e w' => e = .returned (.bool true) ∧ w = w' := by
  have A := Lib.hid (areNumbers_yes v n G w h hok.2.2)
  obtain ⟨a, cap, rfl, hm, hc⟩ := h
  have hn : (n : Int) ≤ 10 := by have := hok.1; omega
  by_cases h0 : n = 0
  · subst h0
    clear hc hok
    go_enter Try.func109, Try.ntmps109
    go_wp2_with (go_at_call 118; refine A.out.mono ?_; rintro e w' ⟨rfl, rfl⟩)
    go_ret
    exact ⟨rfl, rfl⟩
  · obtain ⟨b, off, rfl, hc'⟩ := hc.resolve_left h0
    have c1 := hc' (n - 1) (by omega)
    have hl : (G (n - 1) != 0) = true := by rw [bne_iff_ne]; exact hok.2.1.resolve_left h0
    have hz : ((n : Int) == 0) = false := by rw [beq_eq_false_iff_ne]; omega
    have hp : (1 : Int) ≤ (n : Int) := by omega
    generalize G (n - 1) = x at c1 hl
    clear hc hc' hok h0
    go_enter Try.func109, Try.ntmps109
    go_wp2_with (go_at_call 118; refine A.out.mono ?_; rintro e w' ⟨rfl, rfl⟩)
    go_ret
    exact ⟨rfl, rfl⟩

theorem isExp_no (v : Value) (n : Nat) (G : Nat → Int) (w : World) (h : RdI w v n G) (hok : ¬ okExp G n) :
    Calls Try.prog 109 #[v] w fun e w' => e = .returned (.bool false) ∧ w = w' := by
  by_cases hn : n ≤ 10
  · have hn' : (n : Int) ≤ 10 := by omega
    by_cases hs : okNums G n
    · have A := Lib.hid (areNumbers_yes v n G w h hs)
      have h0 : n ≠ 0 := fun e => hok ⟨hn, .inl e, hs⟩
      have hl0 : G (n - 1) = 0 := Decidable.byContradiction fun e => hok ⟨hn, .inr e, hs⟩
      obtain ⟨a, cap, rfl, hm, hc⟩ := h
      obtain ⟨b, off, rfl, hc'⟩ := hc.resolve_left h0
      have c1 := hc' (n - 1) (by omega)
      rw [hl0] at c1
      have hz : ((n : Int) == 0) = false := by rw [beq_eq_false_iff_ne]; omega
      have hp : (1 : Int) ≤ (n : Int) := by omega
      clear hc hc' hok h0 hl0 hs
      go_enter Try.func109, Try.ntmps109
      go_wp2_with (go_at_call 118; refine A.out.mono ?_; rintro e w' ⟨rfl, rfl⟩)
      go_ret
      exact ⟨rfl, rfl⟩
    · have A := Lib.hid (areNumbers_no v n G w h hs)
      obtain ⟨a, cap, rfl, hm, hc⟩ := h
      clear hc hok hs
      go_enter Try.func109, Try.ntmps109
      go_wp2_with (go_at_call 118; refine A.out.mono ?_; rintro e w' ⟨rfl, rfl⟩)
      go_ret
      exact ⟨rfl, rfl⟩
  · obtain ⟨a, cap, rfl, hm, hc⟩ := h
    clear hc hok
    have hn' : (10 : Int) < (n : Int) := by omega
    go_enter Try.func109, Try.ntmps109
    go_wp2
    go_ret
    exact ⟨rfl, rfl⟩

theorem l01Exp_yes (v : Value) (n : Nat) (G : Nat → Int) (w : World) (h : RdI w v n G) (hok : okExp G n) :
    Calls Try.prog 94 #[v] w fun e w' => e = .returned (.bool true) ∧ w = w' := by
  obtain ⟨a, cap, rfl, hm, hc⟩ := h
  have hn : (n : Int) ≤ 10 := by have := hok.1; omega
  by_cases h0 : n = 0
  · subst h0
    clear hc hok
    go_enter Try.func94, Try.ntmps94
    go_wp2
    refine wp_loop_rounds 1 ?_
    rw [rounds_succ]
    go_wp2
    go_ret
    exact ⟨rfl, rfl⟩
  · obtain ⟨b, off, rfl, hc'⟩ := hc.resolve_left h0
    have c1 := hc' (n - 1) (by omega)
    have hl : (G (n - 1) == 0) = false := by rw [beq_eq_false_iff_ne]; exact hok.2.1.resolve_left h0
    have hp : (1 : Int) ≤ (n : Int) := by omega
    have hp' : (0 : Int) < (n : Int) := by omega
    generalize G (n - 1) = x at c1 hl
    have HC := Lib.hid hc'
    have HO := Lib.hid hok.2.2
    clear hc hc' hok h0
    go_enter Try.func94, Try.ntmps94
    go_wp2
    clear c1 hl
    go_loop [3] (fun c => ∃ j : Nat, j ≤ n ∧ c = .int .i64 j) (fun c => n - (intOf c).toNat)
    case atStart => exact ⟨0, by omega, rfl⟩
    case round =>
      obtain ⟨j, hj, rfl⟩ := hrel
      by_cases hlt : j < n
      · have hlt' : (j : Int) < (n : Int) := by omega
        have c1 := HC.out j hlt
        have h1 := (HO.out j hlt).1
        have h2 := (HO.out j hlt).2
        generalize G j = x at c1 h1 h2
        go_wp2_with (go_at_call 65; refine (l01In_yes _ _ _ _ h1 h2).mono ?_; rintro e w' ⟨rfl, rfl⟩)
        go_round
        case rel => exact ⟨j + 1, by omega, by go_num⟩
        case measure => simp [intOf]; omega
      · go_wp2
        go_ret
        exact ⟨rfl, rfl⟩

theorem l01Exp_no (v : Value) (n : Nat) (G : Nat → Int) (w : World) (h : RdI w v n G) (hok : ¬ okExp G n) :
    Calls Try.prog 94 #[v] w fun e w' => e = .returned (.bool false) ∧ w = w' := by
  obtain ⟨a, cap, rfl, hm, hc⟩ := h
  by_cases hn : n ≤ 10
  · have hn' : (n : Int) ≤ 10 := by omega
    by_cases h0 : n = 0
    · exact absurd ⟨hn, .inl h0, fun i hi => by omega⟩ hok
    · obtain ⟨b, off, rfl, hc'⟩ := hc.resolve_left h0
      have hp : (1 : Int) ≤ (n : Int) := by omega
      have hp' : (0 : Int) < (n : Int) := by omega
      have c1 := hc' (n - 1) (by omega)
      by_cases hl0 : G (n - 1) = 0
      · rw [hl0] at c1
        clear hc hc' hok h0 hl0
        go_enter Try.func94, Try.ntmps94
        go_wp2
        go_ret
        exact ⟨rfl, rfl⟩
      · obtain ⟨q, hq, hbad, hok'⟩ := okNums_not (fun e => hok ⟨hn, .inr hl0, e⟩)
        have hl : (G (n - 1) == 0) = false := by rw [beq_eq_false_iff_ne]; exact hl0
        generalize G (n - 1) = x at c1 hl
        have HC := Lib.hid hc'
        have HO := Lib.hid hok'
        have HB := Lib.hid hbad
        clear hc hc' hok h0 hl0 hok' hbad
        go_enter Try.func94, Try.ntmps94
        go_wp2
        clear c1 hl
        go_loop [3] (fun c => ∃ j : Nat, j ≤ q ∧ c = .int .i64 j) (fun c => n - (intOf c).toNat)
        case atStart => exact ⟨0, by omega, rfl⟩
        case round =>
          obtain ⟨j, hj, rfl⟩ := hrel
          have hlt' : (j : Int) < (n : Int) := by omega
          have c1 := HC.out j (by omega)
          by_cases hlt : j < q
          · have h1 := (HO.out j hlt).1
            have h2 := (HO.out j hlt).2
            generalize G j = x at c1 h1 h2
            go_wp2_with (go_at_call 65; refine (l01In_yes _ _ _ _ h1 h2).mono ?_; rintro e w' ⟨rfl, rfl⟩)
            go_round
            case rel => exact ⟨j + 1, by omega, by go_num⟩
            case measure => simp [intOf]; omega
          · obtain rfl : j = q := by omega
            generalize G j = x at c1 HB
            go_wp2_with (go_at_call 65; refine (l01In_no _ _ _ _ HB.out).mono ?_; rintro e w' ⟨rfl, rfl⟩)
            go_ret
            exact ⟨rfl, rfl⟩
  · clear hc hok
    have hn' : (10 : Int) < (n : Int) := by omega
    go_enter Try.func94, Try.ntmps94
    go_wp2
    go_ret
    exact ⟨rfl, rfl⟩

/-- The degree of the first j exponents. -/
def dgr (G : Nat → Int) : Nat → Int
  | 0 => 0
  | j + 1 => wrap64 (dgr G j + wrap64 (G j * (sp j : Int)))
end Go.Proofs.Ytnfhfilconcajaa
