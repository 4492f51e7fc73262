/-
  Joined: WWord.
-/
import Derived.Test.YtnmilkehggjpfaaZBMil02
import Derived.Test.YtnmilkehggjpfaaZBMil07
import Derived.BigRegion
section
namespace Go.Proofs.Ytnmilkehggjpfaa
open Go.RowKit
set_option maxRecDepth 100000
set_option linter.unusedVariables false

/-- The sum of the first j integers. -/
def dsum (G : Nat → Int) : Nat → Int
  | 0 => 0
  | j + 1 => dsum G j + G j

/-- A step of a word: so far it is one. -/
def stepW (G : Nat → Int) (i : Nat) : Prop := 1 ≤ G i ∧ dsum G (i + 1) ≤ 40
/-- A word of n integers. -/
def okWord (G : Nat → Int) (n : Nat) : Prop := n ≤ 20 ∧ ∀ i, i < n → stepW G i

theorem first_bad0 (P : Nat → Prop) (n : Nat) (h : ¬ ∀ i, i < n → P i) : ∃ i, i < n ∧ ¬ P i ∧ ∀ j, j < i → P j := by
  induction n with
  | zero => exact absurd (fun i hi => absurd hi (Nat.not_lt_zero _)) h
  | succ n ih =>
    by_cases h1 : ∀ i, i < n → P i
    · refine ⟨n, Nat.lt_succ_self _, fun hp => h fun i hi => ?_, h1⟩
      by_cases e : i = n
      · subst e; exact hp
      · exact h1 i (by omega)
    · obtain ⟨i, a, b, c⟩ := ih h1
      exact ⟨i, by omega, b, c⟩

theorem dsum_pos (G : Nat → Int) (i : Nat) (h : ∀ j, j < i → 1 ≤ G j) : (i : Int) ≤ dsum G i := by
  induction i with
  | zero => exact Int.le_refl _
  | succ i ih =>
    have h1 := ih (fun j hj => h j (by omega))
    have h2 := h i (by omega)
    rw [dsum]
    omega
theorem dsum_mono (G : Nat → Int) (i j : Nat) (h : ∀ k, k < i + j → 1 ≤ G k) : dsum G i ≤ dsum G (i + j) := by
  induction j with
  | zero => exact Int.le_refl _
  | succ j ih =>
    have h1 := ih (fun k hk => h k (by omega))
    have h2 := h (i + j) (by omega)
    rw [← Nat.add_assoc, dsum]
    omega
theorem dsum_low (G : Nat → Int) (i n : Nat) (hi : i ≤ n) (h : ∀ j, j < n → 1 ≤ G j) : 0 ≤ dsum G i ∧ dsum G i ≤ dsum G n := by
  have h1 := dsum_pos G i (fun j hj => h j (by omega))
  have h2 := dsum_mono G i (n - i) (fun k hk => h k (by omega))
  rw [show i + (n - i) = n by omega] at h2
  omega
/-- A word's integers and sums. -/
theorem okWord.nums {G : Nat → Int} {n : Nat} (h : okWord G n) : ∀ i, i ≤ n → 0 ≤ dsum G i ∧ dsum G i ≤ 40 := by
  intro i hi
  have h1 := dsum_pos G i (fun j hj => (h.2 j (by omega)).1)
  cases i with
  | zero => exact ⟨Int.le_refl _, by rw [dsum]; decide⟩
  | succ i => exact ⟨by omega, (h.2 i (by omega)).2⟩
theorem okWord.le {G : Nat → Int} {n : Nat} (h : okWord G n) (i : Nat) (hi : i < n) : 1 ≤ G i ∧ G i ≤ 40 := by
  have h1 := h.nums i (by omega)
  have h2 := h.2 i hi
  unfold stepW at h2
  rw [dsum] at h2
  omega
theorem okWord_of (G : Nat → Int) (n : Nat) (hn : n ≤ 20) (h1 : ∀ i, i < n → 1 ≤ G i) (h2 : dsum G n ≤ 40) : okWord G n :=
  ⟨hn, fun i hi => ⟨h1 i hi, by have := (dsum_low G (i + 1) n hi h1).2; omega⟩⟩

theorem isWord_long (v : Value) (n : Nat) (G : Nat → Int) (w : World) (h : RdI w v n G) (hn : 20 < n) :
    Calls Try.prog 86 #[v] w fun e w' => e = .returned (.bool false) ∧ w = w' := by
  obtain ⟨a, cap, rfl, hm, hc⟩ := h
  clear hc
  have hn' : (20 : Int) < (n : Int) := by omega
  go_enter Try.func86, Try.ntmps86
  go_wp2
  go_ret
  exact ⟨rfl, rfl⟩

/-- z: how far it is a word. -/
theorem isWord_some (v : Value) (n z : Nat) (r : Bool) (G : Nat → Int) (w : World) (h : RdI w v n G) (hn : n ≤ 20) (hz : z ≤ n) (hgood : ∀ i, i < z → stepW G i)
    (hend : (z = n ∧ r = true) ∨ (z < n ∧ ¬ stepW G z ∧ r = false)) :
    Calls Try.prog 86 #[v] w fun e w' => e = .returned (.bool r) ∧ w = w' := by
  obtain ⟨a, cap, rfl, hm, hc⟩ := h
  have hn' : (n : Int) ≤ 20 := by omega
  by_cases h0 : n = 0
  · subst h0
    obtain ⟨_, rfl⟩ := hend.resolve_right (fun h => by omega)
    clear hc hgood hend
    go_enter Try.func86, Try.ntmps86
    go_wp2
    refine wp_loop_rounds 1 ?_
    rw [rounds_succ]
    go_wp2
    go_ret
    exact ⟨rfl, rfl⟩
  · obtain ⟨b, off, rfl, hc'⟩ := hc.resolve_left h0
    have HC := Lib.hid hc'
    have HO := Lib.hid hgood
    have HE := Lib.hid hend
    clear hc hc' h0 hgood hend
    go_enter Try.func86, Try.ntmps86
    go_wp2
    go_loop [3, 5, 11] (fun l _ c => ∃ j : Nat, j ≤ z ∧ c = .int .i64 j ∧ l = .int .i64 (40 - dsum G j)) (fun _ _ c => n - (intOf c).toNat)
    case atStart => exact ⟨0, by omega, rfl, rfl⟩
    case round =>
      obtain ⟨j, hj, rfl, rfl⟩ := hrel
      by_cases hjn : j < n
      · have hlt' : (j : Int) < (n : Int) := by omega
        have c1 := HC.out j hjn
        have hp := dsum_pos G j (fun i hi => (HO.out i (by omega)).1)
        have h40 : dsum G j ≤ 40 := by
          cases j with
          | zero => exact (by decide : (0 : Int) ≤ 40)
          | succ j => exact (HO.out j (by omega)).2
        have hs : Hid (dsum G (j + 1) = dsum G j + G j) := Lib.hid rfl
        by_cases hlt : j < z
        · have h1 := (HO.out j hlt).1
          have h2 := (HO.out j hlt).2
          rw [hs.out] at h2
          generalize dsum G j = y at *
          generalize G j = x at *
          have g1 : ¬ x < 1 := by omega
          have g2 : ¬ 40 - y < x := by omega
          go_wp2
          go_round
          case rel => exact ⟨j + 1, by omega, by go_num, by rw [hs.out]; go_num⟩
          case measure => simp [intOf]; omega
        · obtain rfl : j = z := by omega
          obtain ⟨_, hbad, rfl⟩ := HE.out.resolve_left (fun h => by omega)
          unfold stepW at hbad
          rw [hs.out] at hbad
          generalize dsum G j = y at *
          generalize G j = x at *
          by_cases g1 : x < 1
          · go_wp2
            go_ret
            exact ⟨rfl, rfl⟩
          · have g2 : 40 - y < x := by omega
            clear hbad
            go_wp2
            go_ret
            exact ⟨rfl, rfl⟩
      · obtain rfl : j = n := by omega
        obtain rfl : r = true := by
          rcases HE.out with ⟨_, h⟩ | ⟨h, _⟩
          · exact h
          · omega
        generalize dsum G j = y at *
        go_wp2
        go_ret
        exact ⟨rfl, rfl⟩

theorem isWord_yes (v : Value) (n : Nat) (G : Nat → Int) (w : World) (h : RdI w v n G) (hok : okWord G n) :
    Calls Try.prog 86 #[v] w fun e w' => e = .returned (.bool true) ∧ w = w' :=
  isWord_some v n n true G w h hok.1 (Nat.le_refl _) hok.2 (.inl ⟨rfl, rfl⟩)
theorem isWord_no (v : Value) (n : Nat) (G : Nat → Int) (w : World) (h : RdI w v n G) (hok : ¬ okWord G n) :
    Calls Try.prog 86 #[v] w fun e w' => e = .returned (.bool false) ∧ w = w' := by
  by_cases hn : n ≤ 20
  · obtain ⟨z, hz, hbad, hgood⟩ := first_bad0 (stepW G) n (fun h1 => hok ⟨hn, h1⟩)
    exact isWord_some v n z false G w h hn (by omega) hgood (.inr ⟨hz, hbad, rfl⟩)
  · exact isWord_long v n G w h (by omega)

/-- The sum as the program has it. -/
theorem degreeOfWord_any (v : Value) (n : Nat) (G : Nat → Int) (w : World) (h : RdI w v n G) (hok : ∀ i, i ≤ n → 0 ≤ dsum G i ∧ dsum G i ≤ 1000000) :
    Calls Try.prog 113 #[v] w fun e w' => e = .returned (.int .i64 (dsum G n)) ∧ w = w' := by
  obtain ⟨a, cap, rfl, hm, hc⟩ := h
  unfold maxLen at hm
  by_cases h0 : n = 0
  · subst h0
    clear hc hok
    go_enter Try.func113, Try.ntmps113
    go_wp2
    refine wp_loop_rounds 1 ?_
    rw [rounds_succ]
    go_wp2
    go_ret
    exact ⟨rfl, rfl⟩
  · obtain ⟨b, off, rfl, hc'⟩ := hc.resolve_left h0
    have HC := Lib.hid hc'
    have HO := Lib.hid hok
    clear hc hc' h0 hok
    go_enter Try.func113, Try.ntmps113
    go_wp2
    go_loop [3, 5, 8] (fun l _ c => ∃ j : Nat, j ≤ n ∧ c = .int .i64 j ∧ l = .int .i64 (dsum G j)) (fun _ _ c => n - (intOf c).toNat)
    case atStart => exact ⟨0, by omega, rfl, rfl⟩
    case round =>
      obtain ⟨j, hj, rfl, rfl⟩ := hrel
      by_cases hlt : j < n
      · have hlt' : (j : Int) < (n : Int) := by omega
        have c1 := HC.out j hlt
        have h1 := HO.out j (by omega)
        have h2 := HO.out (j + 1) (by omega)
        have hs : Hid (dsum G (j + 1) = dsum G j + G j) := Lib.hid rfl
        rw [hs.out] at h2
        generalize dsum G j = y at *
        generalize G j = x at *
        go_wp2
        go_round
        case rel => exact ⟨j + 1, by omega, by go_num, by rw [hs.out]⟩
        case measure => simp [intOf]; omega
      · obtain rfl : j = n := by omega
        generalize hy : dsum G j = y
        have HY := Lib.hid hy
        clear hy
        go_wp2
        go_ret
        exact ⟨by rw [HY.out]; rfl, rfl⟩

theorem l03Degree_any (v : Value) (n : Nat) (G : Nat → Int) (w : World) (h : RdI w v n G) (hok : ∀ i, i ≤ n → 0 ≤ dsum G i ∧ dsum G i ≤ 1000000) :
    Calls Try.prog 112 #[v] w fun e w' => e = .returned (.int .i64 (dsum G n)) ∧ w = w' := by
  obtain ⟨a, cap, rfl, hm, hc⟩ := h
  unfold maxLen at hm
  by_cases h0 : n = 0
  · subst h0
    clear hc hok
    go_enter Try.func112, Try.ntmps112
    go_wp2
    refine wp_loop_rounds 1 ?_
    rw [rounds_succ]
    go_wp2
    go_ret
    exact ⟨rfl, rfl⟩
  · obtain ⟨b, off, rfl, hc'⟩ := hc.resolve_left h0
    have HC := Lib.hid hc'
    have HO := Lib.hid hok
    clear hc hc' h0 hok
    go_enter Try.func112, Try.ntmps112
    go_wp2
    go_loop [3, 4] (fun l c => ∃ j : Nat, j ≤ n ∧ c = .int .i64 j ∧ l = .int .i64 (dsum G j)) (fun _ c => n - (intOf c).toNat)
    case atStart => exact ⟨0, by omega, rfl, rfl⟩
    case round =>
      obtain ⟨j, hj, rfl, rfl⟩ := hrel
      by_cases hlt : j < n
      · have hlt' : (j : Int) < (n : Int) := by omega
        have c1 := HC.out j hlt
        have h1 := HO.out j (by omega)
        have h2 := HO.out (j + 1) (by omega)
        have hs : Hid (dsum G (j + 1) = dsum G j + G j) := Lib.hid rfl
        rw [hs.out] at h2
        generalize dsum G j = y at *
        generalize G j = x at *
        go_wp2
        go_round
        case rel => exact ⟨j + 1, by omega, by go_num, by rw [hs.out]⟩
        case measure => simp [intOf]; omega
      · obtain rfl : j = n := by omega
        generalize hy : dsum G j = y
        have HY := Lib.hid hy
        clear hy
        go_wp2
        go_ret
        exact ⟨by rw [HY.out]; rfl, rfl⟩

/-- Its integers lie in 1 .. 40. -/
def okRange (G : Nat → Int) (i : Nat) : Prop := 1 ≤ G i ∧ G i ≤ 40
theorem dsum_range (G : Nat → Int) (n i : Nat) (hi : i ≤ n) (h : ∀ j, j < n → okRange G j) : 0 ≤ dsum G i ∧ dsum G i ≤ 40 * (i : Int) := by
  induction i with
  | zero => exact ⟨Int.le_refl _, by rw [dsum]; decide⟩
  | succ i ih =>
    have h1 := ih (by omega)
    have h2 := h i (by omega)
    unfold okRange at h2
    rw [dsum]
    omega

theorem l03Word_long (v : Value) (n : Nat) (G : Nat → Int) (w : World) (h : RdI w v n G) (hn : 20 < n) :
    Calls Try.prog 84 #[v] w fun e w' => e = .returned (.bool false) ∧ w = w' := by
  obtain ⟨a, cap, rfl, hm, hc⟩ := h
  clear hc
  have hn' : (20 : Int) < (n : Int) := by omega
  go_enter Try.func84, Try.ntmps84
  go_wp2
  go_ret
  exact ⟨rfl, rfl⟩

theorem l03Word_some (v : Value) (n z : Nat) (r : Bool) (G : Nat → Int) (w : World) (h : RdI w v n G) (hn : n ≤ 20) (hz : z ≤ n) (hgood : ∀ i, i < z → okRange G i)
    (hend : (z = n ∧ r = decide (dsum G n ≤ 40)) ∨ (z < n ∧ ¬ okRange G z ∧ r = false)) :
    Calls Try.prog 84 #[v] w fun e w' => e = .returned (.bool r) ∧ w = w' := by
  have D : z = n → Calls Try.prog 112 #[v] w fun e w' => e = .returned (.int .i64 (dsum G n)) ∧ w = w' := fun e => by
    subst e
    exact l03Degree_any v z G w h (fun i hi => by have := dsum_range G z i hi hgood; omega)
  have D := Lib.hid D
  obtain ⟨a, cap, rfl, hm, hc⟩ := h
  have hn' : (n : Int) ≤ 20 := by omega
  by_cases h0 : n = 0
  · subst h0
    obtain ⟨_, rfl⟩ := hend.resolve_right (fun h => by omega)
    have D0 := Lib.hid (D.out (by omega))
    clear hc hgood hend D
    go_enter Try.func84, Try.ntmps84
    go_wp2
    refine wp_loop_rounds 1 ?_
    rw [rounds_succ]
    go_wp2_with fail
    refine D0.out.mono ?_
    rintro e w' ⟨rfl, rfl⟩
    go_wp2_with fail
    go_ret
    exact ⟨rfl, rfl⟩
  · obtain ⟨b, off, rfl, hc'⟩ := hc.resolve_left h0
    have HC := Lib.hid hc'
    have HO := Lib.hid hgood
    have HE := Lib.hid hend
    clear hc hc' h0 hgood hend
    go_enter Try.func84, Try.ntmps84
    go_wp2
    go_loop [3] (fun c => ∃ j : Nat, j ≤ z ∧ c = .int .i64 j) (fun c => n - (intOf c).toNat)
    case atStart => exact ⟨0, by omega, rfl⟩
    case round =>
      obtain ⟨j, hj, rfl⟩ := hrel
      by_cases hjn : j < n
      · have hlt' : (j : Int) < (n : Int) := by omega
        have c1 := HC.out j hjn
        by_cases hlt : j < z
        · have h1 := (HO.out j hlt).1
          have h2 := (HO.out j hlt).2
          generalize G j = x at c1 h1 h2
          go_wp2_with (go_at_call 62; refine (l01In_yes _ _ _ _ h1 h2).mono ?_; rintro e w' ⟨rfl, rfl⟩)
          go_round
          case rel => exact ⟨j + 1, by omega, by go_num⟩
          case measure => simp [intOf]; omega
        · obtain rfl : j = z := by omega
          obtain ⟨_, hbad, rfl⟩ := HE.out.resolve_left (fun h => by omega)
          have hb : G j < 1 ∨ 40 < G j := by unfold okRange at hbad; omega
          generalize G j = x at c1 hb
          have HB := Lib.hid hb
          clear hb hbad
          go_wp2_with (go_at_call 62; refine (l01In_no _ _ _ _ HB.out).mono ?_; rintro e w' ⟨rfl, rfl⟩)
          go_ret
          exact ⟨rfl, rfl⟩
      · obtain rfl : j = n := by omega
        obtain ⟨hzn, hr⟩ : z = j ∧ r = decide (dsum G j ≤ 40) := by
          rcases HE.out with h | ⟨h, _⟩
          · exact h
          · omega
        have D0 := Lib.hid (D.out hzn)
        have HR := Lib.hid hr
        clear hr D hzn
        generalize dsum G j = y at D0 HR
        go_wp2_with fail
        refine D0.out.mono ?_
        rintro e w' ⟨rfl, rfl⟩
        go_wp2_with fail
        go_ret
        exact ⟨by rw [HR.out]; rfl, rfl⟩

theorem l03Word_yes (v : Value) (n : Nat) (G : Nat → Int) (w : World) (h : RdI w v n G) (hok : okWord G n) :
    Calls Try.prog 84 #[v] w fun e w' => e = .returned (.bool true) ∧ w = w' :=
  l03Word_some v n n true G w h hok.1 (Nat.le_refl _) (fun i hi => hok.le i hi) (.inl ⟨rfl, (decide_eq_true (hok.nums n (Nat.le_refl _)).2).symm⟩)
theorem l03Word_no (v : Value) (n : Nat) (G : Nat → Int) (w : World) (h : RdI w v n G) (hok : ¬ okWord G n) :
    Calls Try.prog 84 #[v] w fun e w' => e = .returned (.bool false) ∧ w = w' := by
  by_cases hn : n ≤ 20
  · by_cases hs : ∀ i, i < n → okRange G i
    · exact l03Word_some v n n false G w h hn (Nat.le_refl _) hs (.inl ⟨rfl, (decide_eq_false fun h1 => hok (okWord_of G n hn (fun i hi => (hs i hi).1) h1)).symm⟩)
    · obtain ⟨z, hz, hbad, hgood⟩ := first_bad0 (okRange G) n hs
      exact l03Word_some v n z false G w h hn (by omega) hgood (.inr ⟨hz, hbad, rfl⟩)
  · exact l03Word_long v n G w h (by omega)
end Go.Proofs.Ytnmilkehggjpfaa
end
