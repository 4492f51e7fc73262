/-
  Joined: WWord, WTermLaw.
-/
import Derived.Test.YtnfhfilconcajaaZxactSquareOn02
import Derived.Test.YtnfhfilconcajaaZxactSquareOn04
import Derived.BigRegion
import Derived.Test.YtnfhfilconcajaaZxactSquareOn10
section
namespace Go.Proofs.Ytnfhfilconcajaa
open Go.RowKit
set_option maxRecDepth 100000
set_option linter.unusedVariables false

/-- The sum of the first j integers. -/
def dsum (G : Nat → Int) : Nat → Int
  | 0 => 0
  | j + 1 => dsum G j + G j

/-- A step of a word: so far it is one. -/
def stepW (G : Nat → Int) (i : Nat) : Prop := 1 ≤ G i ∧ dsum G (i + 1) ≤ 40
/-- A word of n integers. -/
def okWord (G : Nat → Int) (n : Nat) : Prop := n ≤ 20 ∧ ∀ i, i < n → stepW G i

theorem first_bad0 (P : Nat → Prop) (n : Nat) (h : ¬ ∀ i, i < n → P i) : ∃ i, i < n ∧ ¬ P i ∧ ∀ j, j < i → P j := by
  induction n with
  | zero => exact absurd (fun i hi => absurd hi (Nat.not_lt_zero _)) h
  | succ n ih =>
    by_cases h1 : ∀ i, i < n → P i
    · refine ⟨n, Nat.lt_succ_self _, fun hp => h fun i hi => ?_, h1⟩
      by_cases e : i = n
      · subst e; exact hp
      · exact h1 i (by omega)
    · obtain ⟨i, a, b, c⟩ := ih h1
      exact ⟨i, by omega, b, c⟩

theorem dsum_pos (G : Nat → Int) (i : Nat) (h : ∀ j, j < i → 1 ≤ G j) : (i : Int) ≤ dsum G i := by
  induction i with
  | zero => exact Int.le_refl _
  | succ i ih =>
    have h1 := ih (fun j hj => h j (by omega))
    have h2 := h i (by omega)
    rw [dsum]
    omega
theorem dsum_mono (G : Nat → Int) (i j : Nat) (h : ∀ k, k < i + j → 1 ≤ G k) : dsum G i ≤ dsum G (i + j) := by
  induction j with
  | zero => exact Int.le_refl _
  | succ j ih =>
    have h1 := ih (fun k hk => h k (by omega))
    have h2 := h (i + j) (by omega)
    rw [← Nat.add_assoc, dsum]
    omega
theorem dsum_low (G : Nat → Int) (i n : Nat) (hi : i ≤ n) (h : ∀ j, j < n → 1 ≤ G j) : 0 ≤ dsum G i ∧ dsum G i ≤ dsum G n := by
  have h1 := dsum_pos G i (fun j hj => h j (by omega))
  have h2 := dsum_mono G i (n - i) (fun k hk => h k (by omega))
  rw [show i + (n - i) = n by omega] at h2
  omega
/-- A word's integers and sums. -/
theorem okWord.nums {G : Nat → Int} {n : Nat} (h : okWord G n) : ∀ i, i ≤ n → 0 ≤ dsum G i ∧ dsum G i ≤ 40 := by
  intro i hi
  have h1 := dsum_pos G i (fun j hj => (h.2 j (by omega)).1)
  cases i with
  | zero => exact ⟨Int.le_refl _, by rw [dsum]; decide⟩
  | succ i => exact ⟨by omega, (h.2 i (by omega)).2⟩
theorem okWord.le {G : Nat → Int} {n : Nat} (h : okWord G n) (i : Nat) (hi : i < n) : 1 ≤ G i ∧ G i ≤ 40 := by
  have h1 := h.nums i (by omega)
  have h2 := h.2 i hi
  unfold stepW at h2
  rw [dsum] at h2
  omega
theorem okWord_of (G : Nat → Int) (n : Nat) (hn : n ≤ 20) (h1 : ∀ i, i < n → 1 ≤ G i) (h2 : dsum G n ≤ 40) : okWord G n :=
  ⟨hn, fun i hi => ⟨h1 i hi, by have := (dsum_low G (i + 1) n hi h1).2; omega⟩⟩

/-- The sum as the program has it. -/
theorem degreeOfWord_any (v : Value) (n : Nat) (G : Nat → Int) (w : World) (h : RdI w v n G) (hok : ∀ i, i ≤ n → 0 ≤ dsum G i ∧ dsum G i ≤ 1000000) :
    Calls Try.prog 53 #[v] w fun e w' => e = .returned (.int .i64 (dsum G n)) ∧ w = w' := by
  obtain ⟨a, cap, rfl, hm, hc⟩ := h
  unfold maxLen at hm
  by_cases h0 : n = 0
  · subst h0
    clear hc hok
    go_enter Try.func53, Try.ntmps53
    go_wp2
    refine wp_loop_rounds 1 ?_
    rw [rounds_succ]
    go_wp2
    go_ret
    exact ⟨rfl, rfl⟩
  · obtain ⟨b, off, rfl, hc'⟩ := hc.resolve_left h0
    have HC := Lib.hid hc'
    have HO := Lib.hid hok
    clear hc hc' h0 hok
    go_enter Try.func53, Try.ntmps53
    go_wp2
    go_loop [3, 5, 8] (fun l _ c => ∃ j : Nat, j ≤ n ∧ c = .int .i64 j ∧ l = .int .i64 (dsum G j)) (fun _ _ c => n - (intOf c).toNat)
    case atStart => exact ⟨0, by omega, rfl, rfl⟩
    case round =>
      obtain ⟨j, hj, rfl, rfl⟩ := hrel
      by_cases hlt : j < n
      · have hlt' : (j : Int) < (n : Int) := by omega
        have c1 := HC.out j hlt
        have h1 := HO.out j (by omega)
        have h2 := HO.out (j + 1) (by omega)
        have hs : Hid (dsum G (j + 1) = dsum G j + G j) := Lib.hid rfl
        rw [hs.out] at h2
        generalize dsum G j = y at *
        generalize G j = x at *
        go_wp2
        go_round
        case rel => exact ⟨j + 1, by omega, by go_num, by rw [hs.out]⟩
        case measure => simp [intOf]; omega
      · obtain rfl : j = n := by omega
        generalize hy : dsum G j = y
        have HY := Lib.hid hy
        clear hy
        go_wp2
        go_ret
        exact ⟨by rw [HY.out]; rfl, rfl⟩

theorem l03Degree_any (v : Value) (n : Nat) (G : Nat → Int) (w : World) (h : RdI w v n G) (hok : ∀ i, i ≤ n → 0 ≤ dsum G i ∧ dsum G i ≤ 1000000) :
    Calls Try.prog 81 #[v] w fun e w' => e = .returned (.int .i64 (dsum G n)) ∧ w = w' := by
  obtain ⟨a, cap, rfl, hm, hc⟩ := h
  unfold maxLen at hm
  by_cases h0 : n = 0
  · subst h0
    clear hc hok
    go_enter Try.func81, Try.ntmps81
    go_wp2
    refine wp_loop_rounds 1 ?_
    rw [rounds_succ]
    go_wp2
    go_ret
    exact ⟨rfl, rfl⟩
  · obtain ⟨b, off, rfl, hc'⟩ := hc.resolve_left h0
    have HC := Lib.hid hc'
    have HO := Lib.hid hok
    clear hc hc' h0 hok
    go_enter Try.func81, Try.ntmps81
    go_wp2
    go_loop [3, 4] (fun l c => ∃ j : Nat, j ≤ n ∧ c = .int .i64 j ∧ l = .int .i64 (dsum G j)) (fun _ c => n - (intOf c).toNat)
    case atStart => exact ⟨0, by omega, rfl, rfl⟩
    case round =>
      obtain ⟨j, hj, rfl, rfl⟩ := hrel
      by_cases hlt : j < n
      · have hlt' : (j : Int) < (n : Int) := by omega
        have c1 := HC.out j hlt
        have h1 := HO.out j (by omega)
        have h2 := HO.out (j + 1) (by omega)
        have hs : Hid (dsum G (j + 1) = dsum G j + G j) := Lib.hid rfl
        rw [hs.out] at h2
        generalize dsum G j = y at *
        generalize G j = x at *
        go_wp2
        go_round
        case rel => exact ⟨j + 1, by omega, by go_num, by rw [hs.out]⟩
        case measure => simp [intOf]; omega
      · obtain rfl : j = n := by omega
        generalize hy : dsum G j = y
        have HY := Lib.hid hy
        clear hy
        go_wp2
        go_ret
        exact ⟨by rw [HY.out]; rfl, rfl⟩

/-- Its integers lie in 1 .. 40. -/
def okRange (G : Nat → Int) (i : Nat) : Prop := 1 ≤ G i ∧ G i ≤ 40
theorem dsum_range (G : Nat → Int) (n i : Nat) (hi : i ≤ n) (h : ∀ j, j < n → okRange G j) : 0 ≤ dsum G i ∧ dsum G i ≤ 40 * (i : Int) := by
  induction i with
  | zero => exact ⟨Int.le_refl _, by rw [dsum]; decide⟩
  | succ i ih =>
    have h1 := ih (by omega)
    have h2 := h i (by omega)
    unfold okRange at h2
    rw [dsum]
    omega

end Go.Proofs.Ytnfhfilconcajaa
end
section
namespace Go.Proofs.Ytnfhfilconcajaa
open Go.RowKit
set_option maxRecDepth 100000
set_option linter.unusedVariables false

/-- A call that only reads answers b. -/
def Says (b : Bool) (w : World) (e : Ending) (w' : World) : Prop := e = .returned (.bool b) ∧ ∃ q, w' = w.drewN q

/-- What each list must be. -/
def rowOk (X : Nat → List Int) (i : Nat) : Prop := (X i).length ≤ 20 ∧ stepOk X i

theorem implTerm_long (V : Value) (m : Nat) (X : Nat → List Int) (w : World) (h : RdSS w V m X) (hm : 2000 < m) :
    Calls Try.prog 51 #[V] w fun e w' => e = .returned (.bool false) ∧ w = w' := by
  obtain ⟨⟨a, cap, rfl⟩, hsm, VS, hc, hr⟩ := h
  clear hc hr
  have hm' : (2000 : Int) < (m : Int) := by omega
  go_enter Try.func51, Try.ntmps51
  go_wp2
  go_ret
  exact ⟨rfl, rfl⟩

/-- One round, where the list is as it must be (z: how far they are so; r: the answer). -/
theorem implTerm_some (V : Value) (m z : Nat) (r : Bool) (X : Nat → List Int) (w : World) (h : RdSS w V m X) (hm : m ≤ 2000) (h0 : 0 < m) (hz : z ≤ m) (hgood : ∀ i, i < z → rowOk X i)
    (hend : (z = m ∧ r = true) ∨ (z < m ∧ ¬ rowOk X z ∧ r = false)) :
    Calls Try.prog 51 #[V] w fun e w' => e = .returned (.bool r) ∧ w = w' := by
  obtain ⟨⟨a, cap, rfl⟩, hsm, VS, hc, hr⟩ := h
  obtain ⟨b, off, ⟨cap', e⟩, hc'⟩ := hc.resolve_left (by omega)
  cases e
  have hm' : (m : Int) ≤ 2000 := by omega
  have HC := Lib.hid hc'
  have HR := Lib.hid hr
  have HO := Lib.hid hgood
  have HE := Lib.hid hend
  clear hc hc' hr hgood hend
  go_enter Try.func51, Try.ntmps51
  go_wp2
  go_loop [3, 4, 10] (fun _ _ c => ∃ k : Nat, k ≤ z ∧ c = .int .i64 k) (fun _ _ c => m - (intOf c).toNat)
  case atStart => exact ⟨0, Nat.zero_le _, rfl⟩
  case round =>
    obtain ⟨k, hk, rfl⟩ := hrel
    by_cases hkm : k < m
    · have hlt' : (k : Int) < (m : Int) := by omega
      have c1 := HC.out k hkm
      obtain ⟨va, vc, hv, hvm, hvc⟩ := HR.out k hkm
      rw [hv] at c1
      have rk := HR.out k hkm
      rw [hv] at rk
      by_cases hlt : k < z
      · have h20 := (HO.out k hlt).1
        have h20' : ((X k).length : Int) ≤ 20 := by omega
        by_cases hk0 : k = 0
        · subst hk0
          rw [Nat.add_zero] at c1
          clear hv rk hvc
          generalize (X 0).length = n at *
          go_wp2
          go_round
          case rel => exact ⟨1, by omega, by go_num⟩
          case measure => simp [intOf]; omega
        · have hk1 : (0 : Int) < (k : Int) := by omega
          have hkm1 : (k : Int) - 1 < (m : Int) := by omega
          have c2 := HC.out (k - 1) (by omega)
          have hl := (HO.out k hlt).2 (by omega)
          have C := slicesCompare_any (VS (k - 1)) _ (X (k - 1)) (X k) w (HR.out (k - 1) (by omega)) rk
          have hneg := (lexCmp_lt _ _).2 hl
          have C := Lib.hid C
          clear hv rk hvc hl hk0
          generalize lexCmp (X (k - 1)) (X k) = z0 at C hneg
          generalize VS (k - 1) = v2 at c2 C
          generalize (X k).length = n at *
          go_wp2_with (go_at_call 82; refine C.out.mono ?_; rintro e w' ⟨rfl, rfl⟩)
          go_round
          case rel => exact ⟨k + 1, by omega, by go_num⟩
          case measure => simp [intOf]; omega
      · obtain rfl : k = z := by omega
        obtain ⟨_, hbad, hrf⟩ := HE.out.resolve_left (fun h => by omega)
        subst hrf
        by_cases h20 : (X k).length ≤ 20
        · have h20' : ((X k).length : Int) ≤ 20 := by omega
          have hst : ¬ stepOk X k := fun h => hbad ⟨h20, h⟩
          have hk0 : 0 < k := Decidable.byContradiction fun h => hst (fun h' => absurd h' h)
          have hk1 : (0 : Int) < (k : Int) := by omega
          have hkm1 : (k : Int) - 1 < (m : Int) := by omega
          have c2 := HC.out (k - 1) (by omega)
          have C := slicesCompare_any (VS (k - 1)) _ (X (k - 1)) (X k) w (HR.out (k - 1) (by omega)) rk
          have hnn : 0 ≤ lexCmp (X (k - 1)) (X k) := by
            apply Decidable.byContradiction
            intro hc
            exact hst (fun _ => (lexCmp_lt _ _).1 (by omega))
          have C := Lib.hid C
          clear hv rk hvc hst hbad
          generalize lexCmp (X (k - 1)) (X k) = z0 at C hnn
          generalize VS (k - 1) = v2 at c2 C
          generalize (X k).length = n at *
          go_wp2_with (go_at_call 82; refine C.out.mono ?_; rintro e w' ⟨rfl, rfl⟩)
          go_ret
          exact ⟨rfl, rfl⟩
        · have h20' : (20 : Int) < ((X k).length : Int) := by omega
          clear hv rk hvc hbad
          generalize (X k).length = n at *
          go_wp2
          go_ret
          exact ⟨rfl, rfl⟩
    · obtain rfl : k = m := by omega
      have hrt : r = true := by
        rcases HE.out with ⟨_, h⟩ | ⟨h, _⟩
        · exact h
        · omega
      subst hrt
      go_wp2
      go_ret
      exact ⟨rfl, rfl⟩

theorem implTerm_empty (V : Value) (X : Nat → List Int) (w : World) (h : RdSS w V 0 X) :
    Calls Try.prog 51 #[V] w fun e w' => e = .returned (.bool true) ∧ w = w' := by
  obtain ⟨⟨a, cap, rfl⟩, hsm, VS, hc, hr⟩ := h
  clear hc hr
  go_enter Try.func51, Try.ntmps51
  go_wp2
  refine wp_loop_rounds 1 ?_
  rw [rounds_succ]
  go_wp2
  go_ret
  exact ⟨rfl, rfl⟩

theorem okTerms_rows (X : Nat → List Int) (m : Nat) : okTerms X m ↔ m ≤ 2000 ∧ ∀ i, i < m → rowOk X i :=
  ⟨fun h => ⟨h.1, fun i hi => ⟨h.2.1 i hi, h.2.2 i hi⟩⟩, fun h => ⟨h.1, fun i hi => (h.2 i hi).1, fun i hi => (h.2 i hi).2⟩⟩

theorem implTerm_yes (V : Value) (m : Nat) (X : Nat → List Int) (w : World) (h : RdSS w V m X) (hok : okTerms X m) :
    Calls Try.prog 51 #[V] w fun e w' => e = .returned (.bool true) ∧ w = w' := by
  by_cases h0 : m = 0
  · subst h0; exact implTerm_empty V X w h
  · have h1 := (okTerms_rows X m).1 hok
    exact implTerm_some V m m true X w h hok.1 (by omega) (Nat.le_refl _) h1.2 (.inl ⟨rfl, rfl⟩)
theorem implTerm_no (V : Value) (m : Nat) (X : Nat → List Int) (w : World) (h : RdSS w V m X) (hok : ¬ okTerms X m) :
    Calls Try.prog 51 #[V] w fun e w' => e = .returned (.bool false) ∧ w = w' := by
  by_cases hm : m ≤ 2000
  · obtain ⟨z, hz, hbad, hgood⟩ := first_bad (rowOk X) m (fun h1 => hok ((okTerms_rows X m).2 ⟨hm, h1⟩))
    exact implTerm_some V m z false X w h hm (by omega) (by omega) hgood (.inr ⟨hz, hbad, rfl⟩)
  · exact implTerm_long V m X w h (by omega)

end Go.Proofs.Ytnfhfilconcajaa
end
