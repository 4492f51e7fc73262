/-
  Joined: QIs.
-/
import Derived.Test.YtcbfcpngpnlodaaZsisOfProfile08
section
namespace Go.Proofs.Ytcbfcpngpnlodaa
open Go.RowKit
set_option maxRecDepth 100000
set_option linter.unusedVariables false

/-- A number of a profile. -/
def stepP (G : Nat → Int) (i : Nat) : Prop := 0 ≤ G i ∧ G i ≤ 10
/-- A profile of n numbers. -/
def okPr (G : Nat → Int) (n : Nat) : Prop := n ≤ 16 ∧ ∀ i, i < n → stepP G i

theorem l07Is_some (v : Value) (n z : Nat) (r : Bool) (G : Nat → Int) (w : World) (h : RdI w v n G) (hz : z ≤ n) (hgood : ∀ i, i < z → stepP G i)
    (hend : (z = n ∧ r = decide (n ≤ 16)) ∨ (z < n ∧ ¬ stepP G z ∧ r = false)) :
    Calls Try.prog 53 #[v] w fun e w' => e = .returned (.bool r) ∧ w = w' := by
  obtain ⟨a, cap, rfl, hm, hc⟩ := h
  unfold maxLen at hm
  by_cases h0 : n = 0
  · subst h0
    obtain ⟨_, rfl⟩ := hend.resolve_right (fun h => by omega)
    clear hc hgood hend
    go_enter Try.func53, Try.ntmps53
    go_wp2
    refine wp_loop_rounds 1 ?_
    rw [rounds_succ]
    go_wp2
    go_ret
    exact ⟨rfl, rfl⟩
  · obtain ⟨b, off, rfl, hc'⟩ := hc.resolve_left h0
    have HC := Lib.hid hc'
    have HO := Lib.hid hgood
    have HE := Lib.hid hend
    clear hc hc' h0 hgood hend
    go_enter Try.func53, Try.ntmps53
    go_wp2
    go_loop [3] (fun c => ∃ j : Nat, j ≤ z ∧ c = .int .i64 j) (fun c => n - (intOf c).toNat)
    case atStart => exact ⟨0, by omega, rfl⟩
    case round =>
      obtain ⟨j, hj, rfl⟩ := hrel
      by_cases hjn : j < n
      · have hlt' : (j : Int) < (n : Int) := by omega
        have c1 := HC.out j hjn
        by_cases hlt : j < z
        · have h1 := HO.out j hlt
          unfold stepP at h1
          generalize G j = x at *
          go_wp2_with (go_at_call 57; refine (l01In_yes _ _ _ _ (by omega) (by omega)).mono ?_; rintro e w' ⟨rfl, rfl⟩)
          go_round
          case rel => exact ⟨j + 1, by omega, by go_num⟩
          case measure => simp [intOf]; omega
        · obtain rfl : j = z := by omega
          obtain ⟨_, hbad, rfl⟩ := HE.out.resolve_left (fun h => by omega)
          unfold stepP at hbad
          generalize G j = x at *
          go_wp2_with (go_at_call 57; refine (l01In_no _ _ _ _ (by omega)).mono ?_; rintro e w' ⟨rfl, rfl⟩)
          go_ret
          exact ⟨rfl, rfl⟩
      · obtain rfl : j = n := by omega
        obtain ⟨_, hr⟩ := HE.out.resolve_right (fun h => by omega)
        have HR := Lib.hid hr
        clear hr HE HO HC
        by_cases h16 : j ≤ 16
        · have h16' : (j : Int) ≤ 16 := by omega
          go_wp2
          go_ret
          exact ⟨by rw [HR.out]; simp [h16], rfl⟩
        · have h16' : ¬ (j : Int) ≤ 16 := by omega
          go_wp2
          go_ret
          exact ⟨by rw [HR.out]; simp [h16], rfl⟩

theorem l07Is_yes (v : Value) (n : Nat) (G : Nat → Int) (w : World) (h : RdI w v n G) (hok : okPr G n) :
    Calls Try.prog 53 #[v] w fun e w' => e = .returned (.bool true) ∧ w = w' :=
  l07Is_some v n n true G w h (Nat.le_refl _) hok.2 (.inl ⟨rfl, by simp [hok.1]⟩)
theorem l07Is_no (v : Value) (n : Nat) (G : Nat → Int) (w : World) (h : RdI w v n G) (hok : ¬ okPr G n) :
    Calls Try.prog 53 #[v] w fun e w' => e = .returned (.bool false) ∧ w = w' := by
  by_cases h1 : ∀ i, i < n → stepP G i
  · exact l07Is_some v n n false G w h (Nat.le_refl _) h1 (.inl ⟨rfl, by simp; exact Nat.lt_of_not_le fun h => hok ⟨h, h1⟩⟩)
  · obtain ⟨z, hz, hbad, hgood⟩ := first_bad0 (stepP G) n h1
    exact l07Is_some v n z false G w h (by omega) hgood (.inr ⟨hz, hbad, rfl⟩)

theorem implIsPr_long (v : Value) (n : Nat) (G : Nat → Int) (w : World) (h : RdI w v n G) (hn : 16 < n) :
    Calls Try.prog 18 #[v] w fun e w' => e = .returned (.bool false) ∧ w = w' := by
  obtain ⟨a, cap, rfl, hm, hc⟩ := h
  clear hc
  have hn' : (16 : Int) < (n : Int) := by omega
  go_enter Try.func18, Try.ntmps18
  go_wp2
  go_ret
  exact ⟨rfl, rfl⟩

theorem implIsPr_some (v : Value) (n z : Nat) (r : Bool) (G : Nat → Int) (w : World) (h : RdI w v n G) (hn : n ≤ 16) (hz : z ≤ n) (hgood : ∀ i, i < z → stepP G i)
    (hend : (z = n ∧ r = true) ∨ (z < n ∧ ¬ stepP G z ∧ r = false)) :
    Calls Try.prog 18 #[v] w fun e w' => e = .returned (.bool r) ∧ w = w' := by
  obtain ⟨a, cap, rfl, hm, hc⟩ := h
  have hn' : (n : Int) ≤ 16 := by omega
  by_cases h0 : n = 0
  · subst h0
    obtain ⟨_, rfl⟩ := hend.resolve_right (fun h => by omega)
    clear hc hgood hend
    go_enter Try.func18, Try.ntmps18
    go_wp2
    refine wp_loop_rounds 1 ?_
    rw [rounds_succ]
    go_wp2
    go_ret
    exact ⟨rfl, rfl⟩
  · obtain ⟨b, off, rfl, hc'⟩ := hc.resolve_left h0
    have HC := Lib.hid hc'
    have HO := Lib.hid hgood
    have HE := Lib.hid hend
    clear hc hc' h0 hgood hend
    go_enter Try.func18, Try.ntmps18
    go_wp2
    go_loop [4, 10] (fun _ c => ∃ j : Nat, j ≤ z ∧ c = .int .i64 j) (fun _ c => n - (intOf c).toNat)
    case atStart => exact ⟨0, by omega, rfl⟩
    case round =>
      obtain ⟨j, hj, rfl⟩ := hrel
      by_cases hjn : j < n
      · have hlt' : (j : Int) < (n : Int) := by omega
        have c1 := HC.out j hjn
        by_cases hlt : j < z
        · have h1 := HO.out j hlt
          unfold stepP at h1
          generalize G j = x at *
          have g1 : ¬ x < 0 := by omega
          have g2 : ¬ 10 < x := by omega
          go_wp2
          go_round
          case rel => exact ⟨j + 1, by omega, by go_num⟩
          case measure => simp [intOf]; omega
        · obtain rfl : j = z := by omega
          obtain ⟨_, hbad, rfl⟩ := HE.out.resolve_left (fun h => by omega)
          unfold stepP at hbad
          generalize G j = x at *
          by_cases g1 : x < 0
          · go_wp2
            go_ret
            exact ⟨rfl, rfl⟩
          · have g2 : 10 < x := by omega
            clear hbad
            go_wp2
            go_ret
            exact ⟨rfl, rfl⟩
      · obtain rfl : j = n := by omega
        obtain rfl : r = true := by
          rcases HE.out with ⟨_, h⟩ | ⟨h, _⟩
          · exact h
          · omega
        go_wp2
        go_ret
        exact ⟨rfl, rfl⟩

theorem implIsPr_yes (v : Value) (n : Nat) (G : Nat → Int) (w : World) (h : RdI w v n G) (hok : okPr G n) :
    Calls Try.prog 18 #[v] w fun e w' => e = .returned (.bool true) ∧ w = w' :=
  implIsPr_some v n n true G w h hok.1 (Nat.le_refl _) hok.2 (.inl ⟨rfl, rfl⟩)
theorem implIsPr_no (v : Value) (n : Nat) (G : Nat → Int) (w : World) (h : RdI w v n G) (hok : ¬ okPr G n) :
    Calls Try.prog 18 #[v] w fun e w' => e = .returned (.bool false) ∧ w = w' := by
  by_cases hn : n ≤ 16
  · obtain ⟨z, hz, hbad, hgood⟩ := first_bad0 (stepP G) n (fun h1 => hok ⟨hn, h1⟩)
    exact implIsPr_some v n z false G w h hn (by omega) hgood (.inr ⟨hz, hbad, rfl⟩)
  · exact implIsPr_long v n G w h (by omega)

theorem specIsPr_any (v : Value) (r : Bool) (w : World) (h : Calls Try.prog 53 #[v] w fun e w' => e = .returned (.bool r) ∧ w = w') :
    Calls Try.prog 16 #[v] w fun e w' => e = .returned (.bool r) ∧ w = w' := by
  have A := Lib.hid h
  clear h
  go_enter Try.func16, Try.ntmps16
  go_wp2_with fail
  refine A.out.mono ?_
  rintro e w' ⟨rfl, rfl⟩
  go_wp2_with fail
  go_ret
  exact ⟨rfl, rfl⟩

theorem IsProfile_both (n : Nat) (G : Nat → Int) (hb : ∀ i, -9223372036854775808 ≤ G i ∧ G i ≤ 9223372036854775807) : ∃ x : Bool,
    (∀ v w, RdI w v n G → Calls Try.prog 16 #[v] w (SaysV (.bool x) w)) ∧
    (∀ v w, RdI w v n G → Calls Try.prog 18 #[v] w (SaysV (.bool x) w)) := by
  by_cases hok : okPr G n
  · exact ⟨true, fun v w h => saysV_up (specIsPr_any v true w (l07Is_yes v n G w h hok)), fun v w h => saysV_up (implIsPr_yes v n G w h hok)⟩
  · exact ⟨false, fun v w h => saysV_up (specIsPr_any v false w (l07Is_no v n G w h hok)), fun v w h => saysV_up (implIsPr_no v n G w h hok)⟩
end Go.Proofs.Ytcbfcpngpnlodaa
end
