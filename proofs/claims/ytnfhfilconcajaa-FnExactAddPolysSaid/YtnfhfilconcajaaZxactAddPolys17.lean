/-
  Joined: WWord.
-/
import Derived.Test.YtnfhfilconcajaaZxactAddPolys03
import Derived.Test.YtnfhfilconcajaaZxactAddPolys05
import Derived.BigRegion
section
namespace Go.Proofs.Ytnfhfilconcajaa
open Go.RowKit
set_option maxRecDepth 100000
set_option linter.unusedVariables false

/-- The sum of the first j integers. -/
def dsum (G : Nat → Int) : Nat → Int
  | 0 => 0
  | j + 1 => dsum G j + G j

/-- A step of a word: so far it is one. -/
def stepW (G : Nat → Int) (i : Nat) : Prop := 1 ≤ G i ∧ dsum G (i + 1) ≤ 40
/-- A word of n integers. -/
def okWord (G : Nat → Int) (n : Nat) : Prop := n ≤ 20 ∧ ∀ i, i < n → stepW G i

theorem first_bad0 (P : Nat → Prop) (n : Nat) (h : ¬ ∀ i, i < n → P i) : ∃ i, i < n ∧ ¬ P i ∧ ∀ j, j < i → P j := by
  induction n with
  | zero => exact absurd (fun i hi => absurd hi (Nat.not_lt_zero _)) h
  | succ n ih =>
    by_cases h1 : ∀ i, i < n → P i
    · refine ⟨n, Nat.lt_succ_self _, fun hp => h fun i hi => ?_, h1⟩
      by_cases e : i = n
      · subst e; exact hp
      · exact h1 i (by omega)
    · obtain ⟨i, a, b, c⟩ := ih h1
      exact ⟨i, by omega, b, c⟩

theorem dsum_pos (G : Nat → Int) (i : Nat) (h : ∀ j, j < i → 1 ≤ G j) : (i : Int) ≤ dsum G i := by
  induction i with
  | zero => exact Int.le_refl _
  | succ i ih =>
    have h1 := ih (fun j hj => h j (by omega))
    have h2 := h i (by omega)
    rw [dsum]
    omega
theorem dsum_mono (G : Nat → Int) (i j : Nat) (h : ∀ k, k < i + j → 1 ≤ G k) : dsum G i ≤ dsum G (i + j) := by
  induction j with
  | zero => exact Int.le_refl _
  | succ j ih =>
    have h1 := ih (fun k hk => h k (by omega))
    have h2 := h (i + j) (by omega)
    rw [← Nat.add_assoc, dsum]
    omega
theorem dsum_low (G : Nat → Int) (i n : Nat) (hi : i ≤ n) (h : ∀ j, j < n → 1 ≤ G j) : 0 ≤ dsum G i ∧ dsum G i ≤ dsum G n := by
  have h1 := dsum_pos G i (fun j hj => h j (by omega))
  have h2 := dsum_mono G i (n - i) (fun k hk => h k (by omega))
  rw [show i + (n - i) = n by omega] at h2
  omega
/-- A word's integers and sums. -/
theorem okWord.nums {G : Nat → Int} {n : Nat} (h : okWord G n) : ∀ i, i ≤ n → 0 ≤ dsum G i ∧ dsum G i ≤ 40 := by
  intro i hi
  have h1 := dsum_pos G i (fun j hj => (h.2 j (by omega)).1)
  cases i with
  | zero => exact ⟨Int.le_refl _, by rw [dsum]; decide⟩
  | succ i => exact ⟨by omega, (h.2 i (by omega)).2⟩
theorem okWord.le {G : Nat → Int} {n : Nat} (h : okWord G n) (i : Nat) (hi : i < n) : 1 ≤ G i ∧ G i ≤ 40 := by
  have h1 := h.nums i (by omega)
  have h2 := h.2 i hi
  unfold stepW at h2
  rw [dsum] at h2
  omega
theorem okWord_of (G : Nat → Int) (n : Nat) (hn : n ≤ 20) (h1 : ∀ i, i < n → 1 ≤ G i) (h2 : dsum G n ≤ 40) : okWord G n :=
  ⟨hn, fun i hi => ⟨h1 i hi, by have := (dsum_low G (i + 1) n hi h1).2; omega⟩⟩

/-- The sum as the program has it. -/
theorem degreeOfWord_any (v : Value) (n : Nat) (G : Nat → Int) (w : World) (h : RdI w v n G) (hok : ∀ i, i ≤ n → 0 ≤ dsum G i ∧ dsum G i ≤ 1000000) :
    Calls Try.prog 53 #[v] w fun e w' => e = .returned (.int .i64 (dsum G n)) ∧ w = w' := by
  obtain ⟨a, cap, rfl, hm, hc⟩ := h
  unfold maxLen at hm
  by_cases h0 : n = 0
  · subst h0
    clear hc hok
    go_enter Try.func53, Try.ntmps53
    go_wp2
    refine wp_loop_rounds 1 ?_
    rw [rounds_succ]
    go_wp2
    go_ret
    exact ⟨rfl, rfl⟩
  · obtain ⟨b, off, rfl, hc'⟩ := hc.resolve_left h0
    have HC := Lib.hid hc'
    have HO := Lib.hid hok
    clear hc hc' h0 hok
    go_enter Try.func53, Try.ntmps53
    go_wp2
    go_loop [3, 5, 8] (fun l _ c => ∃ j : Nat, j ≤ n ∧ c = .int .i64 j ∧ l = .int .i64 (dsum G j)) (fun _ _ c => n - (intOf c).toNat)
    case atStart => exact ⟨0, by omega, rfl, rfl⟩
    case round =>
      obtain ⟨j, hj, rfl, rfl⟩ := hrel
      by_cases hlt : j < n
      · have hlt' : (j : Int) < (n : Int) := by omega
        have c1 := HC.out j hlt
        have h1 := HO.out j (by omega)
        have h2 := HO.out (j + 1) (by omega)
        have hs : Hid (dsum G (j + 1) = dsum G j + G j) := Lib.hid rfl
        rw [hs.out] at h2
        generalize dsum G j = y at *
        generalize G j = x at *
        go_wp2
        go_round
        case rel => exact ⟨j + 1, by omega, by go_num, by rw [hs.out]⟩
        case measure => simp [intOf]; omega
      · obtain rfl : j = n := by omega
        generalize hy : dsum G j = y
        have HY := Lib.hid hy
        clear hy
        go_wp2
        go_ret
        exact ⟨by rw [HY.out]; rfl, rfl⟩

theorem l03Degree_any (v : Value) (n : Nat) (G : Nat → Int) (w : World) (h : RdI w v n G) (hok : ∀ i, i ≤ n → 0 ≤ dsum G i ∧ dsum G i ≤ 1000000) :
    Calls Try.prog 81 #[v] w fun e w' => e = .returned (.int .i64 (dsum G n)) ∧ w = w' := by
  obtain ⟨a, cap, rfl, hm, hc⟩ := h
  unfold maxLen at hm
  by_cases h0 : n = 0
  · subst h0
    clear hc hok
    go_enter Try.func81, Try.ntmps81
    go_wp2
    refine wp_loop_rounds 1 ?_
    rw [rounds_succ]
    go_wp2
    go_ret
    exact ⟨rfl, rfl⟩
  · obtain ⟨b, off, rfl, hc'⟩ := hc.resolve_left h0
    have HC := Lib.hid hc'
    have HO := Lib.hid hok
    clear hc hc' h0 hok
    go_enter Try.func81, Try.ntmps81
    go_wp2
    go_loop [3, 4] (fun l c => ∃ j : Nat, j ≤ n ∧ c = .int .i64 j ∧ l = .int .i64 (dsum G j)) (fun _ c => n - (intOf c).toNat)
    case atStart => exact ⟨0, by omega, rfl, rfl⟩
    case round =>
      obtain ⟨j, hj, rfl, rfl⟩ := hrel
      by_cases hlt : j < n
      · have hlt' : (j : Int) < (n : Int) := by omega
        have c1 := HC.out j hlt
        have h1 := HO.out j (by omega)
        have h2 := HO.out (j + 1) (by omega)
        have hs : Hid (dsum G (j + 1) = dsum G j + G j) := Lib.hid rfl
        rw [hs.out] at h2
        generalize dsum G j = y at *
        generalize G j = x at *
        go_wp2
        go_round
        case rel => exact ⟨j + 1, by omega, by go_num, by rw [hs.out]⟩
        case measure => simp [intOf]; omega
      · obtain rfl : j = n := by omega
        generalize hy : dsum G j = y
        have HY := Lib.hid hy
        clear hy
        go_wp2
        go_ret
        exact ⟨by rw [HY.out]; rfl, rfl⟩

/-- Its integers lie in 1 .. 40. -/
def okRange (G : Nat → Int) (i : Nat) : Prop := 1 ≤ G i ∧ G i ≤ 40
theorem dsum_range (G : Nat → Int) (n i : Nat) (hi : i ≤ n) (h : ∀ j, j < n → okRange G j) : 0 ≤ dsum G i ∧ dsum G i ≤ 40 * (i : Int) := by
  induction i with
  | zero => exact ⟨Int.le_refl _, by rw [dsum]; decide⟩
  | succ i ih =>
    have h1 := ih (by omega)
    have h2 := h i (by omega)
    unfold okRange at h2
    rw [dsum]
    omega

end Go.Proofs.Ytnfhfilconcajaa
end
