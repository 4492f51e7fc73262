/-
  Joined: WTerm, KAsc.
-/
import Derived.Test.YtnfhfilconcajaaZtTotalSquare09
import Derived.Test.YtnfhfilconcajaaZtTotalSquare08
import Derived.Test.YtnfhfilconcajaaZtTotalSquare06
import Derived.Test.YtnfhfilconcajaaZtTotalSquare07
section
namespace Go.Proofs.Ytnfhfilconcajaa
open Go.RowKit
set_option maxRecDepth 100000
set_option linter.unusedVariables false

theorem first_bad (P : Nat → Prop) (n : Nat) (h : ¬ ∀ i, i < n → P i) : ∃ i, i < n ∧ ¬ P i ∧ ∀ j, j < i → P j := by
  induction n with
  | zero => exact absurd (fun i hi => absurd hi (Nat.not_lt_zero _)) h
  | succ n ih =>
    by_cases h1 : ∀ i, i < n → P i
    · refine ⟨n, Nat.lt_succ_self _, fun hp => h fun i hi => ?_, h1⟩
      by_cases e : i = n
      · subst e; exact hp
      · exact h1 i (by omega)
    · obtain ⟨i, a, b, c⟩ := ih h1
      exact ⟨i, by omega, b, c⟩

/-- The list before is less than the list i. -/
def stepOk (X : Nat → List Int) (i : Nat) : Prop := 0 < i → lexLt (X (i - 1)) (X i) = true
/-- A term list. -/
def okTerms (X : Nat → List Int) (m : Nat) : Prop := m ≤ 2000 ∧ (∀ i, i < m → (X i).length ≤ 20) ∧ ∀ i, i < m → stepOk X i

theorem asc_yes (V : Value) (m : Nat) (X : Nat → List Int) (w : World) (h : RdSS w V m X) (hok : ∀ i, i < m → stepOk X i) :
    Calls Try.prog 80 #[V] w fun e w' => e = .returned (.bool true) ∧ ∃ q, w' = w.drewN q := by
  obtain ⟨⟨a, cap, rfl⟩, hsm, VS, hc, hr⟩ := h
  unfold maxLen at hsm
  by_cases h0 : m = 0
  · subst h0
    clear hc hr hok
    go_enter Try.func80, Try.ntmps80
    go_wp2
    refine wp_loop_rounds 1 ?_
    rw [rounds_succ]
    go_wp2
    go_ret
    exact ⟨rfl, 0, rfl⟩
  · obtain ⟨b, off, ⟨cap', e⟩, hc'⟩ := hc.resolve_left h0
    cases e
    have HC := Lib.hid hc'
    have HR := Lib.hid hr
    have HO := Lib.hid hok
    clear hc hc' hr hok
    go_enter Try.func80, Try.ntmps80
    go_wp2
    go_loopw [3] (fun c wr => ∃ k q : Nat, 1 ≤ k ∧ k ≤ m ∧ c = .int .i64 k ∧ Hid (wr = w.drewN q)) (fun c _ => m - (intOf c).toNat)
    case atStart => exact ⟨1, 0, by omega, by omega, rfl, Lib.hid rfl⟩
    case round =>
      obtain ⟨k, q, hk1, hk2, rfl, hw⟩ := hrel
      by_cases hlt : k < m
      · have hlt' : (k : Int) < (m : Int) := by omega
        have hk1' : (1 : Int) ≤ (k : Int) := by omega
        have hkm' : (k : Int) - 1 < (m : Int) := by omega
        have c1 : wr.cell? ⟨b, off + k, none⟩ = some (VS k) := by rw [hw.out]; exact HC.out k hlt
        have c2 : wr.cell? ⟨b, off + (k - 1), none⟩ = some (VS (k - 1)) := by rw [hw.out]; exact HC.out (k - 1) (by omega)
        have E : ∀ n, Calls Try.prog 83 #[VS (k - 1), VS k] (wr.drewN n) fun e w' => e = .returned (.bool true) ∧ ∃ p, w' = (wr.drewN n).drewN p := by
          intro n
          have e1 : RdL (wr.drewN n) (VS (k - 1)) (X (k - 1)) := by rw [hw.out]; exact HR.out (k - 1) (by omega)
          have e2 : RdL (wr.drewN n) (VS k) (X k) := by rw [hw.out]; exact HR.out k hlt
          have := l01Less_any _ _ _ _ _ e1 e2
          rw [HO.out k hlt (by omega)] at this
          exact this
        have E := Lib.hid E
        generalize VS k = v1 at c1 E
        generalize VS (k - 1) = v2 at c2 E
        go_wp2
        go_quiet ((go_at_call 83; exact Calls.quiet_of (E.out _)))
        go_wp2
        go_roundw
        case rel => exact ⟨k + 1, q + nq, by omega, by omega, by go_num, Lib.hid (by rw [hw.out]; exact World.drewN_drewN ..)⟩
        case measure => simp [intOf]; omega
      · go_wp2
        go_ret
        exact ⟨rfl, q, hw.out⟩

theorem asc_no (V : Value) (m : Nat) (X : Nat → List Int) (w : World) (h : RdSS w V m X) (hok : ¬ ∀ i, i < m → stepOk X i) :
    Calls Try.prog 80 #[V] w fun e w' => e = .returned (.bool false) ∧ ∃ q, w' = w.drewN q := by
  obtain ⟨⟨a, cap, rfl⟩, hsm, VS, hc, hr⟩ := h
  unfold maxLen at hsm
  obtain ⟨z, hz, hbad, hgood⟩ := first_bad _ _ hok
  obtain ⟨b, off, ⟨cap', e⟩, hc'⟩ := hc.resolve_left (by omega)
  cases e
  have hz0 : 0 < z := Decidable.byContradiction fun h => hbad (fun h' => absurd h' h)
  have hless : lexLt (X (z - 1)) (X z) = false := by
    cases hb : lexLt (X (z - 1)) (X z) with
    | false => rfl
    | true => exact absurd (fun _ => hb) hbad
  have HC := Lib.hid hc'
  have HR := Lib.hid hr
  have HO := Lib.hid hgood
  have HB := Lib.hid hless
  clear hc hc' hr hok hbad hgood hless
  go_enter Try.func80, Try.ntmps80
  go_wp2
  go_loopw [3] (fun c wr => ∃ k q : Nat, 1 ≤ k ∧ k ≤ z ∧ c = .int .i64 k ∧ Hid (wr = w.drewN q)) (fun c _ => m - (intOf c).toNat)
  case atStart => exact ⟨1, 0, by omega, by omega, rfl, Lib.hid rfl⟩
  case round =>
    obtain ⟨k, q, hk1, hk2, rfl, hw⟩ := hrel
    have hlt' : (k : Int) < (m : Int) := by omega
    have hk1' : (1 : Int) ≤ (k : Int) := by omega
    have hkm' : (k : Int) - 1 < (m : Int) := by omega
    have c1 : wr.cell? ⟨b, off + k, none⟩ = some (VS k) := by rw [hw.out]; exact HC.out k (by omega)
    have c2 : wr.cell? ⟨b, off + (k - 1), none⟩ = some (VS (k - 1)) := by rw [hw.out]; exact HC.out (k - 1) (by omega)
    have E : ∀ n, Calls Try.prog 83 #[VS (k - 1), VS k] (wr.drewN n) fun e w' => e = .returned (.bool (lexLt (X (k - 1)) (X k))) ∧ ∃ p, w' = (wr.drewN n).drewN p := by
      intro n
      have e1 : RdL (wr.drewN n) (VS (k - 1)) (X (k - 1)) := by rw [hw.out]; exact HR.out (k - 1) (by omega)
      have e2 : RdL (wr.drewN n) (VS k) (X k) := by rw [hw.out]; exact HR.out k (by omega)
      exact l01Less_any _ _ _ _ _ e1 e2
    by_cases hlt : k < z
    · rw [HO.out k hlt (by omega)] at E
      have E := Lib.hid E
      generalize VS k = v1 at c1 E
      generalize VS (k - 1) = v2 at c2 E
      go_wp2
      go_quiet ((go_at_call 83; exact Calls.quiet_of (E.out _)))
      go_wp2
      go_roundw
      case rel => exact ⟨k + 1, q + nq, by omega, by omega, by go_num, Lib.hid (by rw [hw.out]; exact World.drewN_drewN ..)⟩
      case measure => simp [intOf]; omega
    · obtain rfl : k = z := by omega
      rw [HB.out] at E
      have E := Lib.hid E
      generalize VS k = v1 at c1 E
      generalize VS (k - 1) = v2 at c2 E
      go_wp2
      go_quiet ((go_at_call 83; exact Calls.quiet_of (E.out _)))
      go_wp2
      go_ret
      exact ⟨rfl, q + nq, by rw [hw.out]; exact World.drewN_drewN ..⟩
end Go.Proofs.Ytnfhfilconcajaa
end
section
namespace Go.Proofs.Ytnfhfilconcajaa
open Go.RowKit
set_option maxRecDepth 100000
set_option linter.unusedVariables false

theorem step_lt (X : Nat → List Int) (m : Nat) (h : ∀ i, i < m → stepOk X i) : ∀ j, j < m → ∀ i, i < j → lexLt (X i) (X j) = true := by
  intro j
  induction j with
  | zero => intro _ i hi; exact absurd hi (Nat.not_lt_zero _)
  | succ j ih =>
    intro hj i hi
    have h1 : lexLt (X j) (X (j + 1)) = true := h (j + 1) hj (Nat.succ_pos _)
    by_cases e : i = j
    · subst e; exact h1
    · exact lexLt_trans _ _ _ (ih (by omega) i (by omega)) h1
theorem asc_rows (X : Nat → List Int) (m : Nat) (h : ∀ i, i < m → stepOk X i) : Asc (rowsL X m) := by
  refine List.pairwise_iff_getElem.2 fun i j hi hj hij => ?_
  rw [rowsL_len] at hi hj
  simp only [rowsL, List.getElem_map, List.getElem_range]
  exact step_lt X m h j hj i hij

theorem mrg_short (X Y : Nat → List Int) (m n : Nat) (hX : ∀ i, i < m → (X i).length ≤ 20) (hY : ∀ i, i < n → (Y i).length ≤ 20) (i : Nat) : (rowsOf (mrg (rowsL X m) (rowsL Y n)) i).length ≤ 20 := by
  unfold rowsOf
  by_cases h : i < (mrg (rowsL X m) (rowsL Y n)).length
  · rw [List.getElem?_eq_getElem h]
    rcases mrg_sub _ _ _ (List.getElem_mem h) with h1 | h1
    · obtain ⟨j, hj, e⟩ := mem_rowsL h1
      show (mrg (rowsL X m) (rowsL Y n))[i].length ≤ 20
      rw [e]; exact hX j hj
    · obtain ⟨j, hj, e⟩ := mem_rowsL h1
      show (mrg (rowsL X m) (rowsL Y n))[i].length ≤ 20
      rw [e]; exact hY j hj
  · rw [List.getElem?_eq_none (by omega)]
    exact Nat.zero_le _

end Go.Proofs.Ytnfhfilconcajaa
end
