/-
  The dimension and the top of a profile: contracts of the specification and of the program.
-/
import Derived.Test.YtcbfcpngpnlodaaQIs
namespace Go.Proofs.Ytcbfcpngpnlodaa
open Go.RowKit
set_option linter.unusedVariables false
set_option maxRecDepth 100000

theorem okPr.sum {G : Nat → Int} {n : Nat} (h : okPr G n) : ∀ i, i ≤ n → 0 ≤ dsum G i ∧ dsum G i ≤ 10 * (i : Int) := by
  intro i
  induction i with
  | zero => intro _; exact ⟨Int.le_refl _, by simp [dsum]⟩
  | succ i ih =>
    intro hi
    have h1 := ih (by omega)
    have h2 := h.2 i (by omega)
    unfold stepP at h2
    rw [dsum]
    omega

theorem shl_sum (s : Nat) (h : s ≤ 40) : wrap64 (2 ^ s) = 2 ^ s := by
  have h2 : (2 : Int) ^ s ≤ 2 ^ 40 := by exact_mod_cast Nat.pow_le_pow_right (by decide) h
  have h3 : (0 : Int) < 2 ^ s := by exact_mod_cast Nat.pow_pos (by decide)
  unfold wrap64
  generalize (2 : Int) ^ s = x at *
  omega

theorem specDim_ok (v : Value) (n s : Nat) (G : Nat → Int) (w : World) (h : RdI w v n G) (hok : okPr G n) (hs : dsum G n = (s : Int)) (h40 : s ≤ 40) :
    Calls Try.prog 42 #[v] w (SaysV (.tuple #[.int .i64 (2 ^ s), .int .i64 0]) w) := by
  have A := Lib.hid (l07Is_yes v n G w h hok)
  have D := Lib.hid (l03Degree_any v n G w h (fun i hi => by have := hok.sum i hi; have := hok.1; omega))
  rw [hs] at D
  have h40' : ¬ (40 : Int) < (s : Int) := by omega
  have E := Lib.hid (shl_sum s h40)
  clear h hok hs
  go_enter Try.func42, Try.ntmps42
  go_wp2_with fail
  refine A.out.mono ?_
  rintro e w' ⟨rfl, rfl⟩
  go_wp2_with fail
  refine D.out.mono ?_
  rintro e w' ⟨rfl, rfl⟩
  go_wp2_with fail
  go_ret2
  exact ⟨by rw [E.out]; rfl, Below.refl _ _⟩
theorem specDim_over (v : Value) (n s : Nat) (G : Nat → Int) (w : World) (h : RdI w v n G) (hok : okPr G n) (hs : dsum G n = (s : Int)) (h40 : 40 < s) :
    Calls Try.prog 42 #[v] w (SaysV (.tuple #[.int .i64 0, .int .i64 3]) w) := by
  have A := Lib.hid (l07Is_yes v n G w h hok)
  have D := Lib.hid (l03Degree_any v n G w h (fun i hi => by have := hok.sum i hi; have := hok.1; omega))
  rw [hs] at D
  have h40' : (40 : Int) < (s : Int) := by omega
  clear h hok hs
  go_enter Try.func42, Try.ntmps42
  go_wp2_with fail
  refine A.out.mono ?_
  rintro e w' ⟨rfl, rfl⟩
  go_wp2_with fail
  refine D.out.mono ?_
  rintro e w' ⟨rfl, rfl⟩
  go_wp2_with fail
  go_ret2
  exact ⟨rfl, Below.refl _ _⟩
theorem specDim_no (v : Value) (n : Nat) (G : Nat → Int) (w : World) (h : RdI w v n G) (hok : ¬ okPr G n) :
    Calls Try.prog 42 #[v] w (SaysV (.tuple #[.int .i64 0, .int .i64 1]) w) := by
  have A := Lib.hid (l07Is_no v n G w h hok)
  clear h hok
  go_enter Try.func42, Try.ntmps42
  go_wp2_with fail
  refine A.out.mono ?_
  rintro e w' ⟨rfl, rfl⟩
  go_wp2_with fail
  go_ret2
  exact ⟨rfl, Below.refl _ _⟩

/-- The program's sum, and what comes of it. -/
theorem implDim_ok (v : Value) (n s : Nat) (c r : Int) (G : Nat → Int) (w : World) (h : RdI w v n G) (hok : okPr G n) (hs : dsum G n = (s : Int)) (hr : (s ≤ 40 ∧ r = 2 ^ s ∧ c = 0) ∨ (40 < s ∧ r = 0 ∧ c = 3)) :
    Calls Try.prog 43 #[v] w (SaysV (.tuple #[.int .i64 r, .int .i64 c]) w) := by
  have A := Lib.hid (implIsPr_yes v n G w h hok)
  have HN := hok.1
  have HD := Lib.hid (fun i hi => hok.sum i hi)
  have HS := Lib.hid hs
  have HR := Lib.hid hr
  clear hok hs hr
  obtain ⟨a, cap, rfl, hm, hc⟩ := h
  unfold maxLen at hm
  by_cases h0 : n = 0
  · subst h0
    obtain rfl : s = 0 := by have := HS.out; simp [dsum] at this; omega
    obtain ⟨rfl, rfl⟩ : r = 1 ∧ c = 0 := by
      rcases HR.out with ⟨_, h1, h2⟩ | ⟨h1, _⟩
      · exact ⟨by simpa using h1, h2⟩
      · omega
    clear hc HS HR
    go_enter Try.func43, Try.ntmps43
    go_wp2_with fail
    refine A.out.mono ?_
    rintro e w' ⟨rfl, rfl⟩
    go_wp2_with fail
    refine wp_loop_rounds 1 ?_
    rw [rounds_succ]
    go_wp2
    go_ret2
    exact ⟨rfl, Below.refl _ _⟩
  · obtain ⟨b, off, rfl, hc'⟩ := hc.resolve_left h0
    have HC := Lib.hid hc'
    clear hc hc' h0
    go_enter Try.func43, Try.ntmps43
    go_wp2_with fail
    refine A.out.mono ?_
    rintro e w' ⟨rfl, rfl⟩
    go_wp2_with fail
    go_loop [4, 6, 12] (fun l _ c => ∃ j : Nat, j ≤ n ∧ c = .int .i64 j ∧ l = .int .i64 (dsum G j)) (fun _ _ c => n - (intOf c).toNat)
    case atStart => exact ⟨0, by omega, rfl, rfl⟩
    case round =>
      obtain ⟨j, hj, rfl, rfl⟩ := hrel
      by_cases hlt : j < n
      · have hlt' : (j : Int) < (n : Int) := by omega
        have c1 := HC.out j hlt
        have h1 := HD.out j (by omega)
        have h2 := HD.out (j + 1) (by omega)
        have hs : Hid (dsum G (j + 1) = dsum G j + G j) := Lib.hid rfl
        rw [hs.out] at h2
        generalize dsum G j = y at *
        generalize G j = x at *
        go_wp2
        go_round
        case rel => exact ⟨j + 1, by omega, by go_num, by rw [hs.out]⟩
        case measure => simp [intOf]; omega
      · obtain rfl : j = n := by omega
        rw [HS.out]
        rcases HR.out with ⟨h1, h2, h3⟩ | ⟨h1, h2, h3⟩
        · have h40' : ¬ (40 : Int) < (s : Int) := by omega
          have E := Lib.hid (shl_sum s h1)
          have E2 := Lib.hid h2
          subst h3
          clear h2 HR
          go_wp2
          go_ret2
          exact ⟨by rw [E2.out, E.out]; rfl, Below.refl _ _⟩
        · have h40' : (40 : Int) < (s : Int) := by omega
          subst h2 h3
          clear HR
          go_wp2
          go_ret2
          exact ⟨rfl, Below.refl _ _⟩
theorem implDim_no (v : Value) (n : Nat) (G : Nat → Int) (w : World) (h : RdI w v n G) (hok : ¬ okPr G n) :
    Calls Try.prog 43 #[v] w (SaysV (.tuple #[.int .i64 0, .int .i64 1]) w) := by
  have A := Lib.hid (implIsPr_no v n G w h hok)
  clear h hok
  go_enter Try.func43, Try.ntmps43
  go_wp2_with fail
  refine A.out.mono ?_
  rintro e w' ⟨rfl, rfl⟩
  go_wp2_with fail
  go_ret2
  exact ⟨rfl, Below.refl _ _⟩

theorem DimensionOfProfile_both (n : Nat) (G : Nat → Int) (hb : ∀ i, -9223372036854775808 ≤ G i ∧ G i ≤ 9223372036854775807) : ∃ x c : Int,
    (∀ v w, RdI w v n G → Calls Try.prog 42 #[v] w (SaysV (.tuple #[.int .i64 x, .int .i64 c]) w)) ∧
    (∀ v w, RdI w v n G → Calls Try.prog 43 #[v] w (SaysV (.tuple #[.int .i64 x, .int .i64 c]) w)) := by
  by_cases hok : okPr G n
  · obtain ⟨s, hs⟩ : ∃ s : Nat, dsum G n = (s : Int) := Int.eq_ofNat_of_zero_le (hok.sum n (Nat.le_refl _)).1
    by_cases h40 : s ≤ 40
    · exact ⟨_, _, fun v w h => specDim_ok v n s G w h hok hs h40, fun v w h => implDim_ok v n s _ _ G w h hok hs (.inl ⟨h40, rfl, rfl⟩)⟩
    · exact ⟨_, _, fun v w h => specDim_over v n s G w h hok hs (by omega), fun v w h => implDim_ok v n s _ _ G w h hok hs (.inr ⟨by omega, rfl, rfl⟩)⟩
  · exact ⟨_, _, fun v w h => specDim_no v n G w h hok, fun v w h => implDim_no v n G w h hok⟩
end Go.Proofs.Ytcbfcpngpnlodaa
