/-
  Joined: WTerm, WTermLaw, SIs.
-/
import Derived.Test.YtggebkcmokpcmaaZBHit04
import Derived.Test.YtggebkcmokpcmaaZBHit05
import Derived.Test.YtggebkcmokpcmaaZBHit08
import Derived.Test.YtggebkcmokpcmaaZBHit07
import Derived.Deep.RegionHeld3
section
namespace Go.Proofs.Ytggebkcmokpcmaa
open Go.RowKit
set_option maxRecDepth 100000
set_option linter.unusedVariables false

theorem first_bad (P : Nat → Prop) (n : Nat) (h : ¬ ∀ i, i < n → P i) : ∃ i, i < n ∧ ¬ P i ∧ ∀ j, j < i → P j := by
  induction n with
  | zero => exact absurd (fun i hi => absurd hi (Nat.not_lt_zero _)) h
  | succ n ih =>
    by_cases h1 : ∀ i, i < n → P i
    · refine ⟨n, Nat.lt_succ_self _, fun hp => h fun i hi => ?_, h1⟩
      by_cases e : i = n
      · subst e; exact hp
      · exact h1 i (by omega)
    · obtain ⟨i, a, b, c⟩ := ih h1
      exact ⟨i, by omega, b, c⟩

/-- The list before is less than the list i. -/
def stepOk (X : Nat → List Int) (i : Nat) : Prop := 0 < i → lexLt (X (i - 1)) (X i) = true
/-- A term list. -/
def okTerms (X : Nat → List Int) (m : Nat) : Prop := m ≤ 2000 ∧ (∀ i, i < m → (X i).length ≤ 20) ∧ ∀ i, i < m → stepOk X i

theorem asc_yes (V : Value) (m : Nat) (X : Nat → List Int) (w : World) (h : RdSS w V m X) (hok : ∀ i, i < m → stepOk X i) :
    Calls Try.prog 90 #[V] w fun e w' => e = .returned (.bool true) ∧ ∃ q, w' = w.drewN q := by
  obtain ⟨⟨a, cap, rfl⟩, hsm, VS, hc, hr⟩ := h
  unfold maxLen at hsm
  by_cases h0 : m = 0
  · subst h0
    clear hc hr hok
    go_enter Try.func90, Try.ntmps90
    go_wp2
    refine wp_loop_rounds 1 ?_
    rw [rounds_succ]
    go_wp2
    go_ret
    exact ⟨rfl, 0, rfl⟩
  · obtain ⟨b, off, ⟨cap', e⟩, hc'⟩ := hc.resolve_left h0
    cases e
    have HC := Lib.hid hc'
    have HR := Lib.hid hr
    have HO := Lib.hid hok
    clear hc hc' hr hok
    go_enter Try.func90, Try.ntmps90
    go_wp2
    go_loopw [3] (fun c wr => ∃ k q : Nat, 1 ≤ k ∧ k ≤ m ∧ c = .int .i64 k ∧ Hid (wr = w.drewN q)) (fun c _ => m - (intOf c).toNat)
    case atStart => exact ⟨1, 0, by omega, by omega, rfl, Lib.hid rfl⟩
    case round =>
      obtain ⟨k, q, hk1, hk2, rfl, hw⟩ := hrel
      by_cases hlt : k < m
      · have hlt' : (k : Int) < (m : Int) := by omega
        have hk1' : (1 : Int) ≤ (k : Int) := by omega
        have hkm' : (k : Int) - 1 < (m : Int) := by omega
        have c1 : wr.cell? ⟨b, off + k, none⟩ = some (VS k) := by rw [hw.out]; exact HC.out k hlt
        have c2 : wr.cell? ⟨b, off + (k - 1), none⟩ = some (VS (k - 1)) := by rw [hw.out]; exact HC.out (k - 1) (by omega)
        have E : ∀ n, Calls Try.prog 72 #[VS (k - 1), VS k] (wr.drewN n) fun e w' => e = .returned (.bool true) ∧ ∃ p, w' = (wr.drewN n).drewN p := by
          intro n
          have e1 : RdL (wr.drewN n) (VS (k - 1)) (X (k - 1)) := by rw [hw.out]; exact HR.out (k - 1) (by omega)
          have e2 : RdL (wr.drewN n) (VS k) (X k) := by rw [hw.out]; exact HR.out k hlt
          have := l01Less_any _ _ _ _ _ e1 e2
          rw [HO.out k hlt (by omega)] at this
          exact this
        have E := Lib.hid E
        generalize VS k = v1 at c1 E
        generalize VS (k - 1) = v2 at c2 E
        go_wp2
        go_quiet ((go_at_call 72; exact Calls.quiet_of (E.out _)))
        go_wp2
        go_roundw
        case rel => exact ⟨k + 1, q + nq, by omega, by omega, by go_num, Lib.hid (by rw [hw.out]; exact World.drewN_drewN ..)⟩
        case measure => simp [intOf]; omega
      · go_wp2
        go_ret
        exact ⟨rfl, q, hw.out⟩

theorem asc_no (V : Value) (m : Nat) (X : Nat → List Int) (w : World) (h : RdSS w V m X) (hok : ¬ ∀ i, i < m → stepOk X i) :
    Calls Try.prog 90 #[V] w fun e w' => e = .returned (.bool false) ∧ ∃ q, w' = w.drewN q := by
  obtain ⟨⟨a, cap, rfl⟩, hsm, VS, hc, hr⟩ := h
  unfold maxLen at hsm
  obtain ⟨z, hz, hbad, hgood⟩ := first_bad _ _ hok
  obtain ⟨b, off, ⟨cap', e⟩, hc'⟩ := hc.resolve_left (by omega)
  cases e
  have hz0 : 0 < z := Decidable.byContradiction fun h => hbad (fun h' => absurd h' h)
  have hless : lexLt (X (z - 1)) (X z) = false := by
    cases hb : lexLt (X (z - 1)) (X z) with
    | false => rfl
    | true => exact absurd (fun _ => hb) hbad
  have HC := Lib.hid hc'
  have HR := Lib.hid hr
  have HO := Lib.hid hgood
  have HB := Lib.hid hless
  clear hc hc' hr hok hbad hgood hless
  go_enter Try.func90, Try.ntmps90
  go_wp2
  go_loopw [3] (fun c wr => ∃ k q : Nat, 1 ≤ k ∧ k ≤ z ∧ c = .int .i64 k ∧ Hid (wr = w.drewN q)) (fun c _ => m - (intOf c).toNat)
  case atStart => exact ⟨1, 0, by omega, by omega, rfl, Lib.hid rfl⟩
  case round =>
    obtain ⟨k, q, hk1, hk2, rfl, hw⟩ := hrel
    have hlt' : (k : Int) < (m : Int) := by omega
    have hk1' : (1 : Int) ≤ (k : Int) := by omega
    have hkm' : (k : Int) - 1 < (m : Int) := by omega
    have c1 : wr.cell? ⟨b, off + k, none⟩ = some (VS k) := by rw [hw.out]; exact HC.out k (by omega)
    have c2 : wr.cell? ⟨b, off + (k - 1), none⟩ = some (VS (k - 1)) := by rw [hw.out]; exact HC.out (k - 1) (by omega)
    have E : ∀ n, Calls Try.prog 72 #[VS (k - 1), VS k] (wr.drewN n) fun e w' => e = .returned (.bool (lexLt (X (k - 1)) (X k))) ∧ ∃ p, w' = (wr.drewN n).drewN p := by
      intro n
      have e1 : RdL (wr.drewN n) (VS (k - 1)) (X (k - 1)) := by rw [hw.out]; exact HR.out (k - 1) (by omega)
      have e2 : RdL (wr.drewN n) (VS k) (X k) := by rw [hw.out]; exact HR.out k (by omega)
      exact l01Less_any _ _ _ _ _ e1 e2
    by_cases hlt : k < z
    · rw [HO.out k hlt (by omega)] at E
      have E := Lib.hid E
      generalize VS k = v1 at c1 E
      generalize VS (k - 1) = v2 at c2 E
      go_wp2
      go_quiet ((go_at_call 72; exact Calls.quiet_of (E.out _)))
      go_wp2
      go_roundw
      case rel => exact ⟨k + 1, q + nq, by omega, by omega, by go_num, Lib.hid (by rw [hw.out]; exact World.drewN_drewN ..)⟩
      case measure => simp [intOf]; omega
    · obtain rfl : k = z := by omega
      rw [HB.out] at E
      have E := Lib.hid E
      generalize VS k = v1 at c1 E
      generalize VS (k - 1) = v2 at c2 E
      go_wp2
      go_quiet ((go_at_call 72; exact Calls.quiet_of (E.out _)))
      go_wp2
      go_ret
      exact ⟨rfl, q + nq, by rw [hw.out]; exact World.drewN_drewN ..⟩
end Go.Proofs.Ytggebkcmokpcmaa
end
section
namespace Go.Proofs.Ytggebkcmokpcmaa
open Go.RowKit
set_option maxRecDepth 100000
set_option linter.unusedVariables false

/-- A call that only reads answers b. -/
def Says (b : Bool) (w : World) (e : Ending) (w' : World) : Prop := e = .returned (.bool b) ∧ ∃ q, w' = w.drewN q

/-- What each list must be. -/
def rowOk (X : Nat → List Int) (i : Nat) : Prop := (X i).length ≤ 20 ∧ stepOk X i

theorem implTerm_long (V : Value) (m : Nat) (X : Nat → List Int) (w : World) (h : RdSS w V m X) (hm : 2000 < m) :
    Calls Try.prog 81 #[V] w fun e w' => e = .returned (.bool false) ∧ w = w' := by
  obtain ⟨⟨a, cap, rfl⟩, hsm, VS, hc, hr⟩ := h
  clear hc hr
  have hm' : (2000 : Int) < (m : Int) := by omega
  go_enter Try.func81, Try.ntmps81
  go_wp2
  go_ret
  exact ⟨rfl, rfl⟩

/-- One round, where the list is as it must be (z: how far they are so; r: the answer). -/
theorem implTerm_some (V : Value) (m z : Nat) (r : Bool) (X : Nat → List Int) (w : World) (h : RdSS w V m X) (hm : m ≤ 2000) (h0 : 0 < m) (hz : z ≤ m) (hgood : ∀ i, i < z → rowOk X i)
    (hend : (z = m ∧ r = true) ∨ (z < m ∧ ¬ rowOk X z ∧ r = false)) :
    Calls Try.prog 81 #[V] w fun e w' => e = .returned (.bool r) ∧ w = w' := by
  obtain ⟨⟨a, cap, rfl⟩, hsm, VS, hc, hr⟩ := h
  obtain ⟨b, off, ⟨cap', e⟩, hc'⟩ := hc.resolve_left (by omega)
  cases e
  have hm' : (m : Int) ≤ 2000 := by omega
  have HC := Lib.hid hc'
  have HR := Lib.hid hr
  have HO := Lib.hid hgood
  have HE := Lib.hid hend
  clear hc hc' hr hgood hend
  go_enter Try.func81, Try.ntmps81
  go_wp2
  go_loop [3, 4, 10] (fun _ _ c => ∃ k : Nat, k ≤ z ∧ c = .int .i64 k) (fun _ _ c => m - (intOf c).toNat)
  case atStart => exact ⟨0, Nat.zero_le _, rfl⟩
  case round =>
    obtain ⟨k, hk, rfl⟩ := hrel
    by_cases hkm : k < m
    · have hlt' : (k : Int) < (m : Int) := by omega
      have c1 := HC.out k hkm
      obtain ⟨va, vc, hv, hvm, hvc⟩ := HR.out k hkm
      rw [hv] at c1
      have rk := HR.out k hkm
      rw [hv] at rk
      by_cases hlt : k < z
      · have h20 := (HO.out k hlt).1
        have h20' : ((X k).length : Int) ≤ 20 := by omega
        by_cases hk0 : k = 0
        · subst hk0
          rw [Nat.add_zero] at c1
          clear hv rk hvc
          generalize (X 0).length = n at *
          go_wp2
          go_round
          case rel => exact ⟨1, by omega, by go_num⟩
          case measure => simp [intOf]; omega
        · have hk1 : (0 : Int) < (k : Int) := by omega
          have hkm1 : (k : Int) - 1 < (m : Int) := by omega
          have c2 := HC.out (k - 1) (by omega)
          have hl := (HO.out k hlt).2 (by omega)
          have C := slicesCompare_any (VS (k - 1)) _ (X (k - 1)) (X k) w (HR.out (k - 1) (by omega)) rk
          have hneg := (lexCmp_lt _ _).2 hl
          have C := Lib.hid C
          clear hv rk hvc hl hk0
          generalize lexCmp (X (k - 1)) (X k) = z0 at C hneg
          generalize VS (k - 1) = v2 at c2 C
          generalize (X k).length = n at *
          go_wp2_with (go_at_call 101; refine C.out.mono ?_; rintro e w' ⟨rfl, rfl⟩)
          go_round
          case rel => exact ⟨k + 1, by omega, by go_num⟩
          case measure => simp [intOf]; omega
      · obtain rfl : k = z := by omega
        obtain ⟨_, hbad, hrf⟩ := HE.out.resolve_left (fun h => by omega)
        subst hrf
        by_cases h20 : (X k).length ≤ 20
        · have h20' : ((X k).length : Int) ≤ 20 := by omega
          have hst : ¬ stepOk X k := fun h => hbad ⟨h20, h⟩
          have hk0 : 0 < k := Decidable.byContradiction fun h => hst (fun h' => absurd h' h)
          have hk1 : (0 : Int) < (k : Int) := by omega
          have hkm1 : (k : Int) - 1 < (m : Int) := by omega
          have c2 := HC.out (k - 1) (by omega)
          have C := slicesCompare_any (VS (k - 1)) _ (X (k - 1)) (X k) w (HR.out (k - 1) (by omega)) rk
          have hnn : 0 ≤ lexCmp (X (k - 1)) (X k) := by
            apply Decidable.byContradiction
            intro hc
            exact hst (fun _ => (lexCmp_lt _ _).1 (by omega))
          have C := Lib.hid C
          clear hv rk hvc hst hbad
          generalize lexCmp (X (k - 1)) (X k) = z0 at C hnn
          generalize VS (k - 1) = v2 at c2 C
          generalize (X k).length = n at *
          go_wp2_with (go_at_call 101; refine C.out.mono ?_; rintro e w' ⟨rfl, rfl⟩)
          go_ret
          exact ⟨rfl, rfl⟩
        · have h20' : (20 : Int) < ((X k).length : Int) := by omega
          clear hv rk hvc hbad
          generalize (X k).length = n at *
          go_wp2
          go_ret
          exact ⟨rfl, rfl⟩
    · obtain rfl : k = m := by omega
      have hrt : r = true := by
        rcases HE.out with ⟨_, h⟩ | ⟨h, _⟩
        · exact h
        · omega
      subst hrt
      go_wp2
      go_ret
      exact ⟨rfl, rfl⟩

theorem implTerm_empty (V : Value) (X : Nat → List Int) (w : World) (h : RdSS w V 0 X) :
    Calls Try.prog 81 #[V] w fun e w' => e = .returned (.bool true) ∧ w = w' := by
  obtain ⟨⟨a, cap, rfl⟩, hsm, VS, hc, hr⟩ := h
  clear hc hr
  go_enter Try.func81, Try.ntmps81
  go_wp2
  refine wp_loop_rounds 1 ?_
  rw [rounds_succ]
  go_wp2
  go_ret
  exact ⟨rfl, rfl⟩

theorem okTerms_rows (X : Nat → List Int) (m : Nat) : okTerms X m ↔ m ≤ 2000 ∧ ∀ i, i < m → rowOk X i :=
  ⟨fun h => ⟨h.1, fun i hi => ⟨h.2.1 i hi, h.2.2 i hi⟩⟩, fun h => ⟨h.1, fun i hi => (h.2 i hi).1, fun i hi => (h.2 i hi).2⟩⟩

theorem implTerm_yes (V : Value) (m : Nat) (X : Nat → List Int) (w : World) (h : RdSS w V m X) (hok : okTerms X m) :
    Calls Try.prog 81 #[V] w fun e w' => e = .returned (.bool true) ∧ w = w' := by
  by_cases h0 : m = 0
  · subst h0; exact implTerm_empty V X w h
  · have h1 := (okTerms_rows X m).1 hok
    exact implTerm_some V m m true X w h hok.1 (by omega) (Nat.le_refl _) h1.2 (.inl ⟨rfl, rfl⟩)
theorem implTerm_no (V : Value) (m : Nat) (X : Nat → List Int) (w : World) (h : RdSS w V m X) (hok : ¬ okTerms X m) :
    Calls Try.prog 81 #[V] w fun e w' => e = .returned (.bool false) ∧ w = w' := by
  by_cases hm : m ≤ 2000
  · obtain ⟨z, hz, hbad, hgood⟩ := first_bad (rowOk X) m (fun h1 => hok ((okTerms_rows X m).2 ⟨hm, h1⟩))
    exact implTerm_some V m z false X w h hm (by omega) (by omega) hgood (.inr ⟨hz, hbad, rfl⟩)
  · exact implTerm_long V m X w h (by omega)

end Go.Proofs.Ytggebkcmokpcmaa
end
section
namespace Go.Proofs.Ytggebkcmokpcmaa
open Go.RowKit
set_option linter.unusedVariables false
set_option maxRecDepth 100000

/-- Their sum. -/
def sumL (xs : List Int) : Int := dsum (gOf xs) xs.length
/-- A word. -/
def isW (xs : List Int) : Prop := okWord (gOf xs) xs.length
def stepS (X : Nat → List Int) (i : Nat) : Prop := isW (X i) ∧ sumL (X i) = sumL (X 0)
/-- A sum of squares. -/
def okSq (X : Nat → List Int) (m : Nat) : Prop := okTerms X m ∧ ∀ i, i < m → stepS X i

/-- v reads as integers with the sum x. -/
def DegIs (w : World) (v : Value) (x : Int) : Prop := ∃ n G, RdI w v n G ∧ (∀ i, i ≤ n → 0 ≤ dsum G i ∧ dsum G i ≤ 1000000) ∧ dsum G n = x
theorem DegIs.below {w w' : World} {v : Value} {x : Int} (h : DegIs w v x) (k : Below w.heap.size w w') : DegIs w' v x := by
  obtain ⟨n, G, h1, h2, h3⟩ := h
  exact ⟨n, G, h1.below k, h2, h3⟩
theorem DegIs.drewN {w : World} {v : Value} {x : Int} (h : DegIs w v x) (q : Nat) : DegIs (w.drewN q) v x := h
theorem degIs_word {w : World} {v : Value} {xs : List Int} (h : RdI w v xs.length (fun j => xs[j]?.getD 0)) (hw : isW xs) : DegIs w v (sumL xs) :=
  ⟨_, _, h, fun i hi => by have := hw.nums i hi; exact ⟨this.1, by have h2 := this.2; unfold gOf at h2; omega⟩, rfl⟩

theorem l03Degree_is {w : World} {v : Value} {x : Int} (h : Hid (DegIs w v x)) (q : Nat) :
    Calls Try.prog 91 #[v] (w.drewN q) fun e w' => e = .returned (.int .i64 x) ∧ ∃ p, w' = (w.drewN q).drewN p := by
  obtain ⟨n, G, h1, h2, rfl⟩ := h.out
  exact (l03Degree_any v n G _ (h1.drewN q) h2).mono fun e w' ⟨he, hw⟩ => ⟨he, 0, hw.symm⟩
theorem degreeOfWord_is {w : World} {v : Value} {x : Int} (h : DegIs w v x) :
    Calls Try.prog 82 #[v] w fun e w' => e = .returned (.int .i64 x) ∧ w = w' := by
  obtain ⟨n, G, h1, h2, rfl⟩ := h
  exact degreeOfWord_any v n G _ h1 h2

end Go.Proofs.Ytggebkcmokpcmaa
end
