/-
  Joined: WWord, WTerm.
-/
import Derived.Test.YtldlpeohdindaaaZeneratorForm02
import Derived.Test.YtldlpeohdindaaaZeneratorForm09
import Derived.BigRegion
import Derived.Test.YtldlpeohdindaaaZeneratorForm29
import Derived.Test.YtldlpeohdindaaaZeneratorForm05
section
namespace Go.Proofs.Ytldlpeohdindaaa
open Go.RowKit
set_option maxRecDepth 100000
set_option linter.unusedVariables false

/-- The sum of the first j integers. -/
def dsum (G : Nat → Int) : Nat → Int
  | 0 => 0
  | j + 1 => dsum G j + G j

/-- A step of a word: so far it is one. -/
def stepW (G : Nat → Int) (i : Nat) : Prop := 1 ≤ G i ∧ dsum G (i + 1) ≤ 40
/-- A word of n integers. -/
def okWord (G : Nat → Int) (n : Nat) : Prop := n ≤ 20 ∧ ∀ i, i < n → stepW G i

theorem first_bad0 (P : Nat → Prop) (n : Nat) (h : ¬ ∀ i, i < n → P i) : ∃ i, i < n ∧ ¬ P i ∧ ∀ j, j < i → P j := by
  induction n with
  | zero => exact absurd (fun i hi => absurd hi (Nat.not_lt_zero _)) h
  | succ n ih =>
    by_cases h1 : ∀ i, i < n → P i
    · refine ⟨n, Nat.lt_succ_self _, fun hp => h fun i hi => ?_, h1⟩
      by_cases e : i = n
      · subst e; exact hp
      · exact h1 i (by omega)
    · obtain ⟨i, a, b, c⟩ := ih h1
      exact ⟨i, by omega, b, c⟩

theorem dsum_pos (G : Nat → Int) (i : Nat) (h : ∀ j, j < i → 1 ≤ G j) : (i : Int) ≤ dsum G i := by
  induction i with
  | zero => exact Int.le_refl _
  | succ i ih =>
    have h1 := ih (fun j hj => h j (by omega))
    have h2 := h i (by omega)
    rw [dsum]
    omega
theorem dsum_mono (G : Nat → Int) (i j : Nat) (h : ∀ k, k < i + j → 1 ≤ G k) : dsum G i ≤ dsum G (i + j) := by
  induction j with
  | zero => exact Int.le_refl _
  | succ j ih =>
    have h1 := ih (fun k hk => h k (by omega))
    have h2 := h (i + j) (by omega)
    rw [← Nat.add_assoc, dsum]
    omega
theorem dsum_low (G : Nat → Int) (i n : Nat) (hi : i ≤ n) (h : ∀ j, j < n → 1 ≤ G j) : 0 ≤ dsum G i ∧ dsum G i ≤ dsum G n := by
  have h1 := dsum_pos G i (fun j hj => h j (by omega))
  have h2 := dsum_mono G i (n - i) (fun k hk => h k (by omega))
  rw [show i + (n - i) = n by omega] at h2
  omega
/-- A word's integers and sums. -/
theorem okWord.nums {G : Nat → Int} {n : Nat} (h : okWord G n) : ∀ i, i ≤ n → 0 ≤ dsum G i ∧ dsum G i ≤ 40 := by
  intro i hi
  have h1 := dsum_pos G i (fun j hj => (h.2 j (by omega)).1)
  cases i with
  | zero => exact ⟨Int.le_refl _, by rw [dsum]; decide⟩
  | succ i => exact ⟨by omega, (h.2 i (by omega)).2⟩
theorem okWord.le {G : Nat → Int} {n : Nat} (h : okWord G n) (i : Nat) (hi : i < n) : 1 ≤ G i ∧ G i ≤ 40 := by
  have h1 := h.nums i (by omega)
  have h2 := h.2 i hi
  unfold stepW at h2
  rw [dsum] at h2
  omega
theorem okWord_of (G : Nat → Int) (n : Nat) (hn : n ≤ 20) (h1 : ∀ i, i < n → 1 ≤ G i) (h2 : dsum G n ≤ 40) : okWord G n :=
  ⟨hn, fun i hi => ⟨h1 i hi, by have := (dsum_low G (i + 1) n hi h1).2; omega⟩⟩

theorem isWord_long (v : Value) (n : Nat) (G : Nat → Int) (w : World) (h : RdI w v n G) (hn : 20 < n) :
    Calls Try.prog 49 #[v] w fun e w' => e = .returned (.bool false) ∧ w = w' := by
  obtain ⟨a, cap, rfl, hm, hc⟩ := h
  clear hc
  have hn' : (20 : Int) < (n : Int) := by omega
  go_enter Try.func49, Try.ntmps49
  go_wp2
  go_ret
  exact ⟨rfl, rfl⟩

/-- z: how far it is a word. -/
theorem isWord_some (v : Value) (n z : Nat) (r : Bool) (G : Nat → Int) (w : World) (h : RdI w v n G) (hn : n ≤ 20) (hz : z ≤ n) (hgood : ∀ i, i < z → stepW G i)
    (hend : (z = n ∧ r = true) ∨ (z < n ∧ ¬ stepW G z ∧ r = false)) :
    Calls Try.prog 49 #[v] w fun e w' => e = .returned (.bool r) ∧ w = w' := by
  obtain ⟨a, cap, rfl, hm, hc⟩ := h
  have hn' : (n : Int) ≤ 20 := by omega
  by_cases h0 : n = 0
  · subst h0
    obtain ⟨_, rfl⟩ := hend.resolve_right (fun h => by omega)
    clear hc hgood hend
    go_enter Try.func49, Try.ntmps49
    go_wp2
    refine wp_loop_rounds 1 ?_
    rw [rounds_succ]
    go_wp2
    go_ret
    exact ⟨rfl, rfl⟩
  · obtain ⟨b, off, rfl, hc'⟩ := hc.resolve_left h0
    have HC := Lib.hid hc'
    have HO := Lib.hid hgood
    have HE := Lib.hid hend
    clear hc hc' h0 hgood hend
    go_enter Try.func49, Try.ntmps49
    go_wp2
    go_loop [3, 5, 11] (fun l _ c => ∃ j : Nat, j ≤ z ∧ c = .int .i64 j ∧ l = .int .i64 (40 - dsum G j)) (fun _ _ c => n - (intOf c).toNat)
    case atStart => exact ⟨0, by omega, rfl, rfl⟩
    case round =>
      obtain ⟨j, hj, rfl, rfl⟩ := hrel
      by_cases hjn : j < n
      · have hlt' : (j : Int) < (n : Int) := by omega
        have c1 := HC.out j hjn
        have hp := dsum_pos G j (fun i hi => (HO.out i (by omega)).1)
        have h40 : dsum G j ≤ 40 := by
          cases j with
          | zero => exact (by decide : (0 : Int) ≤ 40)
          | succ j => exact (HO.out j (by omega)).2
        have hs : Hid (dsum G (j + 1) = dsum G j + G j) := Lib.hid rfl
        by_cases hlt : j < z
        · have h1 := (HO.out j hlt).1
          have h2 := (HO.out j hlt).2
          rw [hs.out] at h2
          generalize dsum G j = y at *
          generalize G j = x at *
          have g1 : ¬ x < 1 := by omega
          have g2 : ¬ 40 - y < x := by omega
          go_wp2
          go_round
          case rel => exact ⟨j + 1, by omega, by go_num, by rw [hs.out]; go_num⟩
          case measure => simp [intOf]; omega
        · obtain rfl : j = z := by omega
          obtain ⟨_, hbad, rfl⟩ := HE.out.resolve_left (fun h => by omega)
          unfold stepW at hbad
          rw [hs.out] at hbad
          generalize dsum G j = y at *
          generalize G j = x at *
          by_cases g1 : x < 1
          · go_wp2
            go_ret
            exact ⟨rfl, rfl⟩
          · have g2 : 40 - y < x := by omega
            clear hbad
            go_wp2
            go_ret
            exact ⟨rfl, rfl⟩
      · obtain rfl : j = n := by omega
        obtain rfl : r = true := by
          rcases HE.out with ⟨_, h⟩ | ⟨h, _⟩
          · exact h
          · omega
        generalize dsum G j = y at *
        go_wp2
        go_ret
        exact ⟨rfl, rfl⟩

theorem isWord_yes (v : Value) (n : Nat) (G : Nat → Int) (w : World) (h : RdI w v n G) (hok : okWord G n) :
    Calls Try.prog 49 #[v] w fun e w' => e = .returned (.bool true) ∧ w = w' :=
  isWord_some v n n true G w h hok.1 (Nat.le_refl _) hok.2 (.inl ⟨rfl, rfl⟩)
theorem isWord_no (v : Value) (n : Nat) (G : Nat → Int) (w : World) (h : RdI w v n G) (hok : ¬ okWord G n) :
    Calls Try.prog 49 #[v] w fun e w' => e = .returned (.bool false) ∧ w = w' := by
  by_cases hn : n ≤ 20
  · obtain ⟨z, hz, hbad, hgood⟩ := first_bad0 (stepW G) n (fun h1 => hok ⟨hn, h1⟩)
    exact isWord_some v n z false G w h hn (by omega) hgood (.inr ⟨hz, hbad, rfl⟩)
  · exact isWord_long v n G w h (by omega)

/-- The sum as the program has it. -/
theorem degreeOfWord_any (v : Value) (n : Nat) (G : Nat → Int) (w : World) (h : RdI w v n G) (hok : ∀ i, i ≤ n → 0 ≤ dsum G i ∧ dsum G i ≤ 1000000) :
    Calls Try.prog 50 #[v] w fun e w' => e = .returned (.int .i64 (dsum G n)) ∧ w = w' := by
  obtain ⟨a, cap, rfl, hm, hc⟩ := h
  unfold maxLen at hm
  by_cases h0 : n = 0
  · subst h0
    clear hc hok
    go_enter Try.func50, Try.ntmps50
    go_wp2
    refine wp_loop_rounds 1 ?_
    rw [rounds_succ]
    go_wp2
    go_ret
    exact ⟨rfl, rfl⟩
  · obtain ⟨b, off, rfl, hc'⟩ := hc.resolve_left h0
    have HC := Lib.hid hc'
    have HO := Lib.hid hok
    clear hc hc' h0 hok
    go_enter Try.func50, Try.ntmps50
    go_wp2
    go_loop [3, 5, 8] (fun l _ c => ∃ j : Nat, j ≤ n ∧ c = .int .i64 j ∧ l = .int .i64 (dsum G j)) (fun _ _ c => n - (intOf c).toNat)
    case atStart => exact ⟨0, by omega, rfl, rfl⟩
    case round =>
      obtain ⟨j, hj, rfl, rfl⟩ := hrel
      by_cases hlt : j < n
      · have hlt' : (j : Int) < (n : Int) := by omega
        have c1 := HC.out j hlt
        have h1 := HO.out j (by omega)
        have h2 := HO.out (j + 1) (by omega)
        have hs : Hid (dsum G (j + 1) = dsum G j + G j) := Lib.hid rfl
        rw [hs.out] at h2
        generalize dsum G j = y at *
        generalize G j = x at *
        go_wp2
        go_round
        case rel => exact ⟨j + 1, by omega, by go_num, by rw [hs.out]⟩
        case measure => simp [intOf]; omega
      · obtain rfl : j = n := by omega
        generalize hy : dsum G j = y
        have HY := Lib.hid hy
        clear hy
        go_wp2
        go_ret
        exact ⟨by rw [HY.out]; rfl, rfl⟩

theorem l03Degree_any (v : Value) (n : Nat) (G : Nat → Int) (w : World) (h : RdI w v n G) (hok : ∀ i, i ≤ n → 0 ≤ dsum G i ∧ dsum G i ≤ 1000000) :
    Calls Try.prog 24 #[v] w fun e w' => e = .returned (.int .i64 (dsum G n)) ∧ w = w' := by
  obtain ⟨a, cap, rfl, hm, hc⟩ := h
  unfold maxLen at hm
  by_cases h0 : n = 0
  · subst h0
    clear hc hok
    go_enter Try.func24, Try.ntmps24
    go_wp2
    refine wp_loop_rounds 1 ?_
    rw [rounds_succ]
    go_wp2
    go_ret
    exact ⟨rfl, rfl⟩
  · obtain ⟨b, off, rfl, hc'⟩ := hc.resolve_left h0
    have HC := Lib.hid hc'
    have HO := Lib.hid hok
    clear hc hc' h0 hok
    go_enter Try.func24, Try.ntmps24
    go_wp2
    go_loop [3, 4] (fun l c => ∃ j : Nat, j ≤ n ∧ c = .int .i64 j ∧ l = .int .i64 (dsum G j)) (fun _ c => n - (intOf c).toNat)
    case atStart => exact ⟨0, by omega, rfl, rfl⟩
    case round =>
      obtain ⟨j, hj, rfl, rfl⟩ := hrel
      by_cases hlt : j < n
      · have hlt' : (j : Int) < (n : Int) := by omega
        have c1 := HC.out j hlt
        have h1 := HO.out j (by omega)
        have h2 := HO.out (j + 1) (by omega)
        have hs : Hid (dsum G (j + 1) = dsum G j + G j) := Lib.hid rfl
        rw [hs.out] at h2
        generalize dsum G j = y at *
        generalize G j = x at *
        go_wp2
        go_round
        case rel => exact ⟨j + 1, by omega, by go_num, by rw [hs.out]⟩
        case measure => simp [intOf]; omega
      · obtain rfl : j = n := by omega
        generalize hy : dsum G j = y
        have HY := Lib.hid hy
        clear hy
        go_wp2
        go_ret
        exact ⟨by rw [HY.out]; rfl, rfl⟩

/-- Its integers lie in 1 .. 40. -/
def okRange (G : Nat → Int) (i : Nat) : Prop := 1 ≤ G i ∧ G i ≤ 40
theorem dsum_range (G : Nat → Int) (n i : Nat) (hi : i ≤ n) (h : ∀ j, j < n → okRange G j) : 0 ≤ dsum G i ∧ dsum G i ≤ 40 * (i : Int) := by
  induction i with
  | zero => exact ⟨Int.le_refl _, by rw [dsum]; decide⟩
  | succ i ih =>
    have h1 := ih (by omega)
    have h2 := h i (by omega)
    unfold okRange at h2
    rw [dsum]
    omega

theorem l03Word_long (v : Value) (n : Nat) (G : Nat → Int) (w : World) (h : RdI w v n G) (hn : 20 < n) :
    Calls Try.prog 44 #[v] w fun e w' => e = .returned (.bool false) ∧ w = w' := by
  obtain ⟨a, cap, rfl, hm, hc⟩ := h
  clear hc
  have hn' : (20 : Int) < (n : Int) := by omega
  go_enter Try.func44, Try.ntmps44
  go_wp2
  go_ret
  exact ⟨rfl, rfl⟩

theorem l03Word_some (v : Value) (n z : Nat) (r : Bool) (G : Nat → Int) (w : World) (h : RdI w v n G) (hn : n ≤ 20) (hz : z ≤ n) (hgood : ∀ i, i < z → okRange G i)
    (hend : (z = n ∧ r = decide (dsum G n ≤ 40)) ∨ (z < n ∧ ¬ okRange G z ∧ r = false)) :
    Calls Try.prog 44 #[v] w fun e w' => e = .returned (.bool r) ∧ w = w' := by
  have D : z = n → Calls Try.prog 24 #[v] w fun e w' => e = .returned (.int .i64 (dsum G n)) ∧ w = w' := fun e => by
    subst e
    exact l03Degree_any v z G w h (fun i hi => by have := dsum_range G z i hi hgood; omega)
  have D := Lib.hid D
  obtain ⟨a, cap, rfl, hm, hc⟩ := h
  have hn' : (n : Int) ≤ 20 := by omega
  by_cases h0 : n = 0
  · subst h0
    obtain ⟨_, rfl⟩ := hend.resolve_right (fun h => by omega)
    have D0 := Lib.hid (D.out (by omega))
    clear hc hgood hend D
    go_enter Try.func44, Try.ntmps44
    go_wp2
    refine wp_loop_rounds 1 ?_
    rw [rounds_succ]
    go_wp2_with fail
    refine D0.out.mono ?_
    rintro e w' ⟨rfl, rfl⟩
    go_wp2_with fail
    go_ret
    exact ⟨rfl, rfl⟩
  · obtain ⟨b, off, rfl, hc'⟩ := hc.resolve_left h0
    have HC := Lib.hid hc'
    have HO := Lib.hid hgood
    have HE := Lib.hid hend
    clear hc hc' h0 hgood hend
    go_enter Try.func44, Try.ntmps44
    go_wp2
    go_loop [3] (fun c => ∃ j : Nat, j ≤ z ∧ c = .int .i64 j) (fun c => n - (intOf c).toNat)
    case atStart => exact ⟨0, by omega, rfl⟩
    case round =>
      obtain ⟨j, hj, rfl⟩ := hrel
      by_cases hjn : j < n
      · have hlt' : (j : Int) < (n : Int) := by omega
        have c1 := HC.out j hjn
        by_cases hlt : j < z
        · have h1 := (HO.out j hlt).1
          have h2 := (HO.out j hlt).2
          generalize G j = x at c1 h1 h2
          go_wp2_with (go_at_call 14; refine (l01In_yes _ _ _ _ h1 h2).mono ?_; rintro e w' ⟨rfl, rfl⟩)
          go_round
          case rel => exact ⟨j + 1, by omega, by go_num⟩
          case measure => simp [intOf]; omega
        · obtain rfl : j = z := by omega
          obtain ⟨_, hbad, rfl⟩ := HE.out.resolve_left (fun h => by omega)
          have hb : G j < 1 ∨ 40 < G j := by unfold okRange at hbad; omega
          generalize G j = x at c1 hb
          have HB := Lib.hid hb
          clear hb hbad
          go_wp2_with (go_at_call 14; refine (l01In_no _ _ _ _ HB.out).mono ?_; rintro e w' ⟨rfl, rfl⟩)
          go_ret
          exact ⟨rfl, rfl⟩
      · obtain rfl : j = n := by omega
        obtain ⟨hzn, hr⟩ : z = j ∧ r = decide (dsum G j ≤ 40) := by
          rcases HE.out with h | ⟨h, _⟩
          · exact h
          · omega
        have D0 := Lib.hid (D.out hzn)
        have HR := Lib.hid hr
        clear hr D hzn
        generalize dsum G j = y at D0 HR
        go_wp2_with fail
        refine D0.out.mono ?_
        rintro e w' ⟨rfl, rfl⟩
        go_wp2_with fail
        go_ret
        exact ⟨by rw [HR.out]; rfl, rfl⟩

theorem l03Word_yes (v : Value) (n : Nat) (G : Nat → Int) (w : World) (h : RdI w v n G) (hok : okWord G n) :
    Calls Try.prog 44 #[v] w fun e w' => e = .returned (.bool true) ∧ w = w' :=
  l03Word_some v n n true G w h hok.1 (Nat.le_refl _) (fun i hi => hok.le i hi) (.inl ⟨rfl, (decide_eq_true (hok.nums n (Nat.le_refl _)).2).symm⟩)
theorem l03Word_no (v : Value) (n : Nat) (G : Nat → Int) (w : World) (h : RdI w v n G) (hok : ¬ okWord G n) :
    Calls Try.prog 44 #[v] w fun e w' => e = .returned (.bool false) ∧ w = w' := by
  by_cases hn : n ≤ 20
  · by_cases hs : ∀ i, i < n → okRange G i
    · exact l03Word_some v n n false G w h hn (Nat.le_refl _) hs (.inl ⟨rfl, (decide_eq_false fun h1 => hok (okWord_of G n hn (fun i hi => (hs i hi).1) h1)).symm⟩)
    · obtain ⟨z, hz, hbad, hgood⟩ := first_bad0 (okRange G) n hs
      exact l03Word_some v n z false G w h hn (by omega) hgood (.inr ⟨hz, hbad, rfl⟩)
  · exact l03Word_long v n G w h (by omega)
end Go.Proofs.Ytldlpeohdindaaa
end
section
namespace Go.Proofs.Ytldlpeohdindaaa
open Go.RowKit
set_option maxRecDepth 100000
set_option linter.unusedVariables false

theorem first_bad (P : Nat → Prop) (n : Nat) (h : ¬ ∀ i, i < n → P i) : ∃ i, i < n ∧ ¬ P i ∧ ∀ j, j < i → P j := by
  induction n with
  | zero => exact absurd (fun i hi => absurd hi (Nat.not_lt_zero _)) h
  | succ n ih =>
    by_cases h1 : ∀ i, i < n → P i
    · refine ⟨n, Nat.lt_succ_self _, fun hp => h fun i hi => ?_, h1⟩
      by_cases e : i = n
      · subst e; exact hp
      · exact h1 i (by omega)
    · obtain ⟨i, a, b, c⟩ := ih h1
      exact ⟨i, by omega, b, c⟩

/-- The list before is less than the list i. -/
def stepOk (X : Nat → List Int) (i : Nat) : Prop := 0 < i → lexLt (X (i - 1)) (X i) = true
/-- A term list. -/
def okTerms (X : Nat → List Int) (m : Nat) : Prop := m ≤ 2000 ∧ (∀ i, i < m → (X i).length ≤ 20) ∧ ∀ i, i < m → stepOk X i

theorem asc_yes (V : Value) (m : Nat) (X : Nat → List Int) (w : World) (h : RdSS w V m X) (hok : ∀ i, i < m → stepOk X i) :
    Calls Try.prog 43 #[V] w fun e w' => e = .returned (.bool true) ∧ ∃ q, w' = w.drewN q := by
  obtain ⟨⟨a, cap, rfl⟩, hsm, VS, hc, hr⟩ := h
  unfold maxLen at hsm
  by_cases h0 : m = 0
  · subst h0
    clear hc hr hok
    go_enter Try.func43, Try.ntmps43
    go_wp2
    refine wp_loop_rounds 1 ?_
    rw [rounds_succ]
    go_wp2
    go_ret
    exact ⟨rfl, 0, rfl⟩
  · obtain ⟨b, off, ⟨cap', e⟩, hc'⟩ := hc.resolve_left h0
    cases e
    have HC := Lib.hid hc'
    have HR := Lib.hid hr
    have HO := Lib.hid hok
    clear hc hc' hr hok
    go_enter Try.func43, Try.ntmps43
    go_wp2
    go_loopw [3] (fun c wr => ∃ k q : Nat, 1 ≤ k ∧ k ≤ m ∧ c = .int .i64 k ∧ Hid (wr = w.drewN q)) (fun c _ => m - (intOf c).toNat)
    case atStart => exact ⟨1, 0, by omega, by omega, rfl, Lib.hid rfl⟩
    case round =>
      obtain ⟨k, q, hk1, hk2, rfl, hw⟩ := hrel
      by_cases hlt : k < m
      · have hlt' : (k : Int) < (m : Int) := by omega
        have hk1' : (1 : Int) ≤ (k : Int) := by omega
        have hkm' : (k : Int) - 1 < (m : Int) := by omega
        have c1 : wr.cell? ⟨b, off + k, none⟩ = some (VS k) := by rw [hw.out]; exact HC.out k hlt
        have c2 : wr.cell? ⟨b, off + (k - 1), none⟩ = some (VS (k - 1)) := by rw [hw.out]; exact HC.out (k - 1) (by omega)
        have E : ∀ n, Calls Try.prog 61 #[VS (k - 1), VS k] (wr.drewN n) fun e w' => e = .returned (.bool true) ∧ ∃ p, w' = (wr.drewN n).drewN p := by
          intro n
          have e1 : RdL (wr.drewN n) (VS (k - 1)) (X (k - 1)) := by rw [hw.out]; exact HR.out (k - 1) (by omega)
          have e2 : RdL (wr.drewN n) (VS k) (X k) := by rw [hw.out]; exact HR.out k hlt
          have := l01Less_any _ _ _ _ _ e1 e2
          rw [HO.out k hlt (by omega)] at this
          exact this
        have E := Lib.hid E
        generalize VS k = v1 at c1 E
        generalize VS (k - 1) = v2 at c2 E
        go_wp2
        go_quiet ((go_at_call 61; exact Calls.quiet_of (E.out _)))
        go_wp2
        go_roundw
        case rel => exact ⟨k + 1, q + nq, by omega, by omega, by go_num, Lib.hid (by rw [hw.out]; exact World.drewN_drewN ..)⟩
        case measure => simp [intOf]; omega
      · go_wp2
        go_ret
        exact ⟨rfl, q, hw.out⟩

theorem asc_no (V : Value) (m : Nat) (X : Nat → List Int) (w : World) (h : RdSS w V m X) (hok : ¬ ∀ i, i < m → stepOk X i) :
    Calls Try.prog 43 #[V] w fun e w' => e = .returned (.bool false) ∧ ∃ q, w' = w.drewN q := by
  obtain ⟨⟨a, cap, rfl⟩, hsm, VS, hc, hr⟩ := h
  unfold maxLen at hsm
  obtain ⟨z, hz, hbad, hgood⟩ := first_bad _ _ hok
  obtain ⟨b, off, ⟨cap', e⟩, hc'⟩ := hc.resolve_left (by omega)
  cases e
  have hz0 : 0 < z := Decidable.byContradiction fun h => hbad (fun h' => absurd h' h)
  have hless : lexLt (X (z - 1)) (X z) = false := by
    cases hb : lexLt (X (z - 1)) (X z) with
    | false => rfl
    | true => exact absurd (fun _ => hb) hbad
  have HC := Lib.hid hc'
  have HR := Lib.hid hr
  have HO := Lib.hid hgood
  have HB := Lib.hid hless
  clear hc hc' hr hok hbad hgood hless
  go_enter Try.func43, Try.ntmps43
  go_wp2
  go_loopw [3] (fun c wr => ∃ k q : Nat, 1 ≤ k ∧ k ≤ z ∧ c = .int .i64 k ∧ Hid (wr = w.drewN q)) (fun c _ => m - (intOf c).toNat)
  case atStart => exact ⟨1, 0, by omega, by omega, rfl, Lib.hid rfl⟩
  case round =>
    obtain ⟨k, q, hk1, hk2, rfl, hw⟩ := hrel
    have hlt' : (k : Int) < (m : Int) := by omega
    have hk1' : (1 : Int) ≤ (k : Int) := by omega
    have hkm' : (k : Int) - 1 < (m : Int) := by omega
    have c1 : wr.cell? ⟨b, off + k, none⟩ = some (VS k) := by rw [hw.out]; exact HC.out k (by omega)
    have c2 : wr.cell? ⟨b, off + (k - 1), none⟩ = some (VS (k - 1)) := by rw [hw.out]; exact HC.out (k - 1) (by omega)
    have E : ∀ n, Calls Try.prog 61 #[VS (k - 1), VS k] (wr.drewN n) fun e w' => e = .returned (.bool (lexLt (X (k - 1)) (X k))) ∧ ∃ p, w' = (wr.drewN n).drewN p := by
      intro n
      have e1 : RdL (wr.drewN n) (VS (k - 1)) (X (k - 1)) := by rw [hw.out]; exact HR.out (k - 1) (by omega)
      have e2 : RdL (wr.drewN n) (VS k) (X k) := by rw [hw.out]; exact HR.out k (by omega)
      exact l01Less_any _ _ _ _ _ e1 e2
    by_cases hlt : k < z
    · rw [HO.out k hlt (by omega)] at E
      have E := Lib.hid E
      generalize VS k = v1 at c1 E
      generalize VS (k - 1) = v2 at c2 E
      go_wp2
      go_quiet ((go_at_call 61; exact Calls.quiet_of (E.out _)))
      go_wp2
      go_roundw
      case rel => exact ⟨k + 1, q + nq, by omega, by omega, by go_num, Lib.hid (by rw [hw.out]; exact World.drewN_drewN ..)⟩
      case measure => simp [intOf]; omega
    · obtain rfl : k = z := by omega
      rw [HB.out] at E
      have E := Lib.hid E
      generalize VS k = v1 at c1 E
      generalize VS (k - 1) = v2 at c2 E
      go_wp2
      go_quiet ((go_at_call 61; exact Calls.quiet_of (E.out _)))
      go_wp2
      go_ret
      exact ⟨rfl, q + nq, by rw [hw.out]; exact World.drewN_drewN ..⟩
end Go.Proofs.Ytldlpeohdindaaa
end
