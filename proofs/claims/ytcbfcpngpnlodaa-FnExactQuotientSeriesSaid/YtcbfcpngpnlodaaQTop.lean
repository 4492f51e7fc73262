/-
  The top of a profile: contracts of the specification and of the program.
-/
import Derived.Test.YtcbfcpngpnlodaaQDim
import Derived.Test.YtcbfcpngpnlodaaWCount
namespace Go.Proofs.Ytcbfcpngpnlodaa
open Go.RowKit
set_option linter.unusedVariables false
set_option maxRecDepth 100000

/-- One summand of the top. -/
def topT (G : Nat → Int) (i : Nat) : Nat := (2 ^ (G i).toNat - 1) * (2 ^ (i + 1) - 1)
def topS (G : Nat → Int) : Nat → Nat
  | 0 => 0
  | j + 1 => topS G j + topT G j
theorem topT_le (G : Nat → Int) (i : Nat) (h : stepP G i) (hi : i < 16) : topT G i ≤ 67108864 := by
  unfold stepP at h
  have h1 : 2 ^ (G i).toNat ≤ 2 ^ 10 := Nat.pow_le_pow_right (by decide) (by omega)
  have h2 : 2 ^ (i + 1) ≤ 2 ^ 16 := Nat.pow_le_pow_right (by decide) (by omega)
  unfold topT
  exact Nat.le_trans (Nat.mul_le_mul (show _ ≤ 1024 by omega) (show _ ≤ 65536 by omega)) (by decide)
theorem topS_le (G : Nat → Int) (n : Nat) (h : okPr G n) : ∀ j, j ≤ n → topS G j ≤ 67108864 * j := by
  intro j
  induction j with
  | zero => intro _; simp [topS]
  | succ j ih =>
    intro hj
    have h1 := ih (by omega)
    have h2 := topT_le G j (h.2 j (by omega)) (by have := h.1; omega)
    rw [topS]
    omega
/-- The summand as both compute it. -/
theorem topT_int (G : Nat → Int) (i : Nat) (h : stepP G i) (hi : i < 16) : wrap64 (((2 ^ (G i).toNat - 1 : Nat) : Int) * ((2 ^ (i + 1) - 1 : Nat) : Int)) = (topT G i : Int) := by
  have h1 := topT_le G i h hi
  have e : ((2 ^ (G i).toNat - 1 : Nat) : Int) * ((2 ^ (i + 1) - 1 : Nat) : Int) = (topT G i : Int) := by unfold topT; rw [Int.natCast_mul]
  rw [e]
  unfold wrap64
  generalize topT G i = x at *
  omega

theorem specTop_ok (v : Value) (n : Nat) (G : Nat → Int) (w : World) (h : RdI w v n G) (hok : okPr G n) :
    Calls Try.prog 44 #[v] w (SaysV (.tuple #[.int .i64 (topS G n), .int .i64 0]) w) := by
  have A := Lib.hid (l07Is_yes v n G w h hok)
  have HN := hok.1
  have HD := Lib.hid (fun i hi => topS_le G n hok i hi)
  have HT := Lib.hid (fun i (hi : i < n) => topT_int G i (hok.2 i hi) (by omega))
  have HP := Lib.hid hok.2
  clear hok
  obtain ⟨a, cap, rfl, hm, hc⟩ := h
  unfold maxLen at hm
  by_cases h0 : n = 0
  · subst h0
    clear hc HD HT HP
    go_enter Try.func44, Try.ntmps44
    go_wp2_with fail
    refine A.out.mono ?_
    rintro e w' ⟨rfl, rfl⟩
    go_wp2_with fail
    refine wp_loop_rounds 1 ?_
    rw [rounds_succ]
    go_wp2
    go_ret2
    exact ⟨rfl, Below.refl _ _⟩
  · obtain ⟨b, off, rfl, hc'⟩ := hc.resolve_left h0
    have HC := Lib.hid hc'
    clear hc hc' h0
    go_enter Try.func44, Try.ntmps44
    go_wp2_with fail
    refine A.out.mono ?_
    rintro e w' ⟨rfl, rfl⟩
    go_wp2_with fail
    go_loop [4, 5] (fun l c => ∃ j : Nat, j ≤ n ∧ c = .int .i64 j ∧ l = .int .i64 (topS G j)) (fun _ c => n - (intOf c).toNat)
    case atStart => exact ⟨0, by omega, rfl, rfl⟩
    case round =>
      obtain ⟨j, hj, rfl, rfl⟩ := hrel
      by_cases hlt : j < n
      · have hlt' : (j : Int) < (n : Int) := by omega
        have c1 := HC.out j hlt
        have h2 := HD.out (j + 1) (by omega)
        have hs : Hid (topS G (j + 1) = topS G j + topT G j) := Lib.hid rfl
        have ht := HT.out j hlt
        have hp := HP.out j hlt
        unfold stepP at hp
        rw [hs.out] at h2
        obtain ⟨x, hx⟩ := Int.eq_ofNat_of_zero_le hp.1
        rw [hx] at c1 ht hp
        rw [Int.toNat_natCast] at ht
        have E1 := spike_num x (by omega)
        have E2 := spike_num (j + 1) (by omega)
        rw [← E1, ← E2] at ht
        have HT1 := Lib.hid ht
        have hx0 : (0 : Int) ≤ (x : Int) := by omega
        have hx10 : (x : Int) ≤ 10 := by omega
        have hj16 : (j : Int) + 1 ≤ 16 := by omega
        clear ht E1 E2 hx
        generalize topS G j = y at *
        generalize topT G j = z at *
        go_wp2
        go_round
        case rel => exact ⟨j + 1, by omega, by go_num, by rw [HT1.out, hs.out]; congr 1; unfold wrap64; omega⟩
        case measure => simp [intOf]; omega
      · obtain rfl : j = n := by omega
        go_wp2
        go_ret2
        exact ⟨rfl, Below.refl _ _⟩
theorem specTop_no (v : Value) (n : Nat) (G : Nat → Int) (w : World) (h : RdI w v n G) (hok : ¬ okPr G n) :
    Calls Try.prog 44 #[v] w (SaysV (.tuple #[.int .i64 0, .int .i64 1]) w) := by
  have A := Lib.hid (l07Is_no v n G w h hok)
  clear h hok
  go_enter Try.func44, Try.ntmps44
  go_wp2_with fail
  refine A.out.mono ?_
  rintro e w' ⟨rfl, rfl⟩
  go_wp2_with fail
  go_ret2
  exact ⟨rfl, Below.refl _ _⟩
theorem implTop_no (v : Value) (n : Nat) (G : Nat → Int) (w : World) (h : RdI w v n G) (hok : ¬ okPr G n) :
    Calls Try.prog 45 #[v] w (SaysV (.tuple #[.int .i64 0, .int .i64 1]) w) := by
  have A := Lib.hid (implIsPr_no v n G w h hok)
  clear h hok
  go_enter Try.func45, Try.ntmps45
  go_wp2_with fail
  refine A.out.mono ?_
  rintro e w' ⟨rfl, rfl⟩
  go_wp2_with fail
  go_ret2
  exact ⟨rfl, Below.refl _ _⟩

theorem implTop_ok (v : Value) (n : Nat) (G : Nat → Int) (w : World) (h : RdI w v n G) (hok : okPr G n) :
    Calls Try.prog 45 #[v] w (SaysV (.tuple #[.int .i64 (topS G n), .int .i64 0]) w) := by
  have A := Lib.hid (implIsPr_yes v n G w h hok)
  have HN := hok.1
  have HD := Lib.hid (fun i hi => topS_le G n hok i hi)
  have HT := Lib.hid (fun i (hi : i < n) => topT_int G i (hok.2 i hi) (by omega))
  have HP := Lib.hid hok.2
  clear hok
  obtain ⟨a, cap, rfl, hm, hc⟩ := h
  unfold maxLen at hm
  by_cases h0 : n = 0
  · subst h0
    clear hc HD HT HP
    go_enter Try.func45, Try.ntmps45
    go_wp2_with fail
    refine A.out.mono ?_
    rintro e w' ⟨rfl, rfl⟩
    go_wp2_with fail
    refine wp_loop_rounds 1 ?_
    rw [rounds_succ]
    go_wp2
    go_ret2
    exact ⟨rfl, Below.refl _ _⟩
  · obtain ⟨b, off, rfl, hc'⟩ := hc.resolve_left h0
    have HC := Lib.hid hc'
    clear hc hc' h0
    go_enter Try.func45, Try.ntmps45
    go_wp2_with fail
    refine A.out.mono ?_
    rintro e w' ⟨rfl, rfl⟩
    go_wp2_with fail
    go_loop [4, 5, 6, 12] (fun l _ _ c => ∃ j : Nat, j ≤ n ∧ c = .int .i64 j ∧ l = .int .i64 (topS G j)) (fun _ _ _ c => n - (intOf c).toNat)
    case atStart => exact ⟨0, by omega, rfl, rfl⟩
    case round =>
      obtain ⟨j, hj, rfl, rfl⟩ := hrel
      by_cases hlt : j < n
      · have hlt' : (j : Int) < (n : Int) := by omega
        have c1 := HC.out j hlt
        have h2 := HD.out (j + 1) (by omega)
        have hs : Hid (topS G (j + 1) = topS G j + topT G j) := Lib.hid rfl
        have ht := HT.out j hlt
        have hp := HP.out j hlt
        unfold stepP at hp
        rw [hs.out] at h2
        obtain ⟨x, hx⟩ := Int.eq_ofNat_of_zero_le hp.1
        rw [hx] at c1 ht hp
        rw [Int.toNat_natCast] at ht
        have HT1 := Lib.hid ht
        have S1 := Lib.hid (fun wx => spikeNumber_any x wx (by omega))
        have S2 := Lib.hid (fun wx => spikeNumber_any (j + 1) wx (by omega))
        have hj16 : (j : Int) + 1 ≤ 16 := by omega
        clear ht hx
        generalize topS G j = y at *
        generalize topT G j = z at *
        generalize ((2 ^ x - 1 : Nat) : Int) = p1 at *
        generalize ((2 ^ (j + 1) - 1 : Nat) : Int) = p2 at *
        go_wp2_with fail
        refine (S1.out _).mono ?_
        rintro e w' ⟨rfl, rfl⟩
        go_wp2_with fail
        refine (S2.out _).mono ?_
        rintro e w' ⟨rfl, rfl⟩
        go_wp2_with fail
        go_round
        case rel => exact ⟨j + 1, by omega, by go_num, by rw [HT1.out, hs.out]; congr 1; unfold wrap64; omega⟩
        case measure => simp [intOf]; omega
      · obtain rfl : j = n := by omega
        go_wp2
        go_ret2
        exact ⟨rfl, Below.refl _ _⟩

theorem TopOfProfile_both (n : Nat) (G : Nat → Int) (hb : ∀ i, -9223372036854775808 ≤ G i ∧ G i ≤ 9223372036854775807) : ∃ x c : Int,
    (∀ v w, RdI w v n G → Calls Try.prog 44 #[v] w (SaysV (.tuple #[.int .i64 x, .int .i64 c]) w)) ∧
    (∀ v w, RdI w v n G → Calls Try.prog 45 #[v] w (SaysV (.tuple #[.int .i64 x, .int .i64 c]) w)) := by
  by_cases hok : okPr G n
  · exact ⟨_, _, fun v w h => specTop_ok v n G w h hok, fun v w h => implTop_ok v n G w h hok⟩
  · exact ⟨_, _, fun v w h => specTop_no v n G w h hok, fun v w h => implTop_no v n G w h hok⟩
end Go.Proofs.Ytcbfcpngpnlodaa
