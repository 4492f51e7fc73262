/-
  Joined: WTermLaw, SIs.
-/
import Derived.Test.YtnfhfilconcajaaZtTotalSquare10
import Derived.Test.YtnfhfilconcajaaZtTotalSquare13
import Derived.Deep.RegionHeld3
section
namespace Go.Proofs.Ytnfhfilconcajaa
open Go.RowKit
set_option maxRecDepth 100000
set_option linter.unusedVariables false

/-- A call that only reads answers b. -/
def Says (b : Bool) (w : World) (e : Ending) (w' : World) : Prop := e = .returned (.bool b) ∧ ∃ q, w' = w.drewN q

/-- What each list must be. -/
def rowOk (X : Nat → List Int) (i : Nat) : Prop := (X i).length ≤ 20 ∧ stepOk X i

theorem implTerm_long (V : Value) (m : Nat) (X : Nat → List Int) (w : World) (h : RdSS w V m X) (hm : 2000 < m) :
    Calls Try.prog 51 #[V] w fun e w' => e = .returned (.bool false) ∧ w = w' := by
  obtain ⟨⟨a, cap, rfl⟩, hsm, VS, hc, hr⟩ := h
  clear hc hr
  have hm' : (2000 : Int) < (m : Int) := by omega
  go_enter Try.func51, Try.ntmps51
  go_wp2
  go_ret
  exact ⟨rfl, rfl⟩

/-- One round, where the list is as it must be (z: how far they are so; r: the answer). -/
theorem implTerm_some (V : Value) (m z : Nat) (r : Bool) (X : Nat → List Int) (w : World) (h : RdSS w V m X) (hm : m ≤ 2000) (h0 : 0 < m) (hz : z ≤ m) (hgood : ∀ i, i < z → rowOk X i)
    (hend : (z = m ∧ r = true) ∨ (z < m ∧ ¬ rowOk X z ∧ r = false)) :
    Calls Try.prog 51 #[V] w fun e w' => e = .returned (.bool r) ∧ w = w' := by
  obtain ⟨⟨a, cap, rfl⟩, hsm, VS, hc, hr⟩ := h
  obtain ⟨b, off, ⟨cap', e⟩, hc'⟩ := hc.resolve_left (by omega)
  cases e
  have hm' : (m : Int) ≤ 2000 := by omega
  have HC := Lib.hid hc'
  have HR := Lib.hid hr
  have HO := Lib.hid hgood
  have HE := Lib.hid hend
  clear hc hc' hr hgood hend
  go_enter Try.func51, Try.ntmps51
  go_wp2
  go_loop [3, 4, 10] (fun _ _ c => ∃ k : Nat, k ≤ z ∧ c = .int .i64 k) (fun _ _ c => m - (intOf c).toNat)
  case atStart => exact ⟨0, Nat.zero_le _, rfl⟩
  case round =>
    obtain ⟨k, hk, rfl⟩ := hrel
    by_cases hkm : k < m
    · have hlt' : (k : Int) < (m : Int) := by omega
      have c1 := HC.out k hkm
      obtain ⟨va, vc, hv, hvm, hvc⟩ := HR.out k hkm
      rw [hv] at c1
      have rk := HR.out k hkm
      rw [hv] at rk
      by_cases hlt : k < z
      · have h20 := (HO.out k hlt).1
        have h20' : ((X k).length : Int) ≤ 20 := by omega
        by_cases hk0 : k = 0
        · subst hk0
          rw [Nat.add_zero] at c1
          clear hv rk hvc
          generalize (X 0).length = n at *
          go_wp2
          go_round
          case rel => exact ⟨1, by omega, by go_num⟩
          case measure => simp [intOf]; omega
        · have hk1 : (0 : Int) < (k : Int) := by omega
          have hkm1 : (k : Int) - 1 < (m : Int) := by omega
          have c2 := HC.out (k - 1) (by omega)
          have hl := (HO.out k hlt).2 (by omega)
          have C := slicesCompare_any (VS (k - 1)) _ (X (k - 1)) (X k) w (HR.out (k - 1) (by omega)) rk
          have hneg := (lexCmp_lt _ _).2 hl
          have C := Lib.hid C
          clear hv rk hvc hl hk0
          generalize lexCmp (X (k - 1)) (X k) = z0 at C hneg
          generalize VS (k - 1) = v2 at c2 C
          generalize (X k).length = n at *
          go_wp2_with (go_at_call 82; refine C.out.mono ?_; rintro e w' ⟨rfl, rfl⟩)
          go_round
          case rel => exact ⟨k + 1, by omega, by go_num⟩
          case measure => simp [intOf]; omega
      · obtain rfl : k = z := by omega
        obtain ⟨_, hbad, hrf⟩ := HE.out.resolve_left (fun h => by omega)
        subst hrf
        by_cases h20 : (X k).length ≤ 20
        · have h20' : ((X k).length : Int) ≤ 20 := by omega
          have hst : ¬ stepOk X k := fun h => hbad ⟨h20, h⟩
          have hk0 : 0 < k := Decidable.byContradiction fun h => hst (fun h' => absurd h' h)
          have hk1 : (0 : Int) < (k : Int) := by omega
          have hkm1 : (k : Int) - 1 < (m : Int) := by omega
          have c2 := HC.out (k - 1) (by omega)
          have C := slicesCompare_any (VS (k - 1)) _ (X (k - 1)) (X k) w (HR.out (k - 1) (by omega)) rk
          have hnn : 0 ≤ lexCmp (X (k - 1)) (X k) := by
            apply Decidable.byContradiction
            intro hc
            exact hst (fun _ => (lexCmp_lt _ _).1 (by omega))
          have C := Lib.hid C
          clear hv rk hvc hst hbad
          generalize lexCmp (X (k - 1)) (X k) = z0 at C hnn
          generalize VS (k - 1) = v2 at c2 C
          generalize (X k).length = n at *
          go_wp2_with (go_at_call 82; refine C.out.mono ?_; rintro e w' ⟨rfl, rfl⟩)
          go_ret
          exact ⟨rfl, rfl⟩
        · have h20' : (20 : Int) < ((X k).length : Int) := by omega
          clear hv rk hvc hbad
          generalize (X k).length = n at *
          go_wp2
          go_ret
          exact ⟨rfl, rfl⟩
    · obtain rfl : k = m := by omega
      have hrt : r = true := by
        rcases HE.out with ⟨_, h⟩ | ⟨h, _⟩
        · exact h
        · omega
      subst hrt
      go_wp2
      go_ret
      exact ⟨rfl, rfl⟩

theorem implTerm_empty (V : Value) (X : Nat → List Int) (w : World) (h : RdSS w V 0 X) :
    Calls Try.prog 51 #[V] w fun e w' => e = .returned (.bool true) ∧ w = w' := by
  obtain ⟨⟨a, cap, rfl⟩, hsm, VS, hc, hr⟩ := h
  clear hc hr
  go_enter Try.func51, Try.ntmps51
  go_wp2
  refine wp_loop_rounds 1 ?_
  rw [rounds_succ]
  go_wp2
  go_ret
  exact ⟨rfl, rfl⟩

theorem okTerms_rows (X : Nat → List Int) (m : Nat) : okTerms X m ↔ m ≤ 2000 ∧ ∀ i, i < m → rowOk X i :=
  ⟨fun h => ⟨h.1, fun i hi => ⟨h.2.1 i hi, h.2.2 i hi⟩⟩, fun h => ⟨h.1, fun i hi => (h.2 i hi).1, fun i hi => (h.2 i hi).2⟩⟩

theorem implTerm_yes (V : Value) (m : Nat) (X : Nat → List Int) (w : World) (h : RdSS w V m X) (hok : okTerms X m) :
    Calls Try.prog 51 #[V] w fun e w' => e = .returned (.bool true) ∧ w = w' := by
  by_cases h0 : m = 0
  · subst h0; exact implTerm_empty V X w h
  · have h1 := (okTerms_rows X m).1 hok
    exact implTerm_some V m m true X w h hok.1 (by omega) (Nat.le_refl _) h1.2 (.inl ⟨rfl, rfl⟩)
theorem implTerm_no (V : Value) (m : Nat) (X : Nat → List Int) (w : World) (h : RdSS w V m X) (hok : ¬ okTerms X m) :
    Calls Try.prog 51 #[V] w fun e w' => e = .returned (.bool false) ∧ w = w' := by
  by_cases hm : m ≤ 2000
  · obtain ⟨z, hz, hbad, hgood⟩ := first_bad (rowOk X) m (fun h1 => hok ((okTerms_rows X m).2 ⟨hm, h1⟩))
    exact implTerm_some V m z false X w h hm (by omega) (by omega) hgood (.inr ⟨hz, hbad, rfl⟩)
  · exact implTerm_long V m X w h (by omega)

end Go.Proofs.Ytnfhfilconcajaa
end
section
namespace Go.Proofs.Ytnfhfilconcajaa
open Go.RowKit
set_option linter.unusedVariables false
set_option maxRecDepth 100000

/-- Their sum. -/
def sumL (xs : List Int) : Int := dsum (gOf xs) xs.length
/-- A word. -/
def isW (xs : List Int) : Prop := okWord (gOf xs) xs.length
def stepS (X : Nat → List Int) (i : Nat) : Prop := isW (X i) ∧ sumL (X i) = sumL (X 0)
/-- A sum of squares. -/
def okSq (X : Nat → List Int) (m : Nat) : Prop := okTerms X m ∧ ∀ i, i < m → stepS X i

/-- v reads as integers with the sum x. -/
def DegIs (w : World) (v : Value) (x : Int) : Prop := ∃ n G, RdI w v n G ∧ (∀ i, i ≤ n → 0 ≤ dsum G i ∧ dsum G i ≤ 1000000) ∧ dsum G n = x
theorem DegIs.below {w w' : World} {v : Value} {x : Int} (h : DegIs w v x) (k : Below w.heap.size w w') : DegIs w' v x := by
  obtain ⟨n, G, h1, h2, h3⟩ := h
  exact ⟨n, G, h1.below k, h2, h3⟩
theorem DegIs.drewN {w : World} {v : Value} {x : Int} (h : DegIs w v x) (q : Nat) : DegIs (w.drewN q) v x := h
theorem degIs_word {w : World} {v : Value} {xs : List Int} (h : RdI w v xs.length (fun j => xs[j]?.getD 0)) (hw : isW xs) : DegIs w v (sumL xs) :=
  ⟨_, _, h, fun i hi => by have := hw.nums i hi; exact ⟨this.1, by have h2 := this.2; unfold gOf at h2; omega⟩, rfl⟩

theorem l03Degree_is {w : World} {v : Value} {x : Int} (h : Hid (DegIs w v x)) (q : Nat) :
    Calls Try.prog 81 #[v] (w.drewN q) fun e w' => e = .returned (.int .i64 x) ∧ ∃ p, w' = (w.drewN q).drewN p := by
  obtain ⟨n, G, h1, h2, rfl⟩ := h.out
  exact (l03Degree_any v n G _ (h1.drewN q) h2).mono fun e w' ⟨he, hw⟩ => ⟨he, 0, hw.symm⟩
theorem degreeOfWord_is {w : World} {v : Value} {x : Int} (h : DegIs w v x) :
    Calls Try.prog 53 #[v] w fun e w' => e = .returned (.int .i64 x) ∧ w = w' := by
  obtain ⟨n, G, h1, h2, rfl⟩ := h
  exact degreeOfWord_any v n G _ h1 h2

end Go.Proofs.Ytnfhfilconcajaa
end
