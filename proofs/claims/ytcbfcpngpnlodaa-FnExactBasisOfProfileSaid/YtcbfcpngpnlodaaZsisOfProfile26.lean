/-
  Joined: WDegreeLaw, WTerm.
-/
import Derived.Test.YtcbfcpngpnlodaaZsisOfProfile25
import Derived.Test.YtcbfcpngpnlodaaZsisOfProfile21
import Derived.Test.YtcbfcpngpnlodaaZsisOfProfile12
import Derived.Test.YtcbfcpngpnlodaaZsisOfProfile15
section
namespace Go.Proofs.Ytcbfcpngpnlodaa
open Go.RowKit
set_option maxRecDepth 100000
set_option linter.unusedVariables false

theorem spike_sp_num (j : Nat) (h : j ≤ 59) : wrap64 (wrap64 (2 ^ (j + 1)) - 1) = ((sp j : Nat) : Int) := by
  rw [spike_num (j + 1) (by omega)]
  have := sp_pow j
  congr 1
  omega

set_option maxRecDepth 100000 in
theorem l01Degree_any (v : Value) (n : Nat) (G : Nat → Int) (w : World) (h : RdI w v n G) (hn : n ≤ 10) :
    Calls Try.prog 94 #[v] w fun e w' => e = .returned (.int .i64 (dgr G n)) ∧ w = w' := by
  obtain ⟨a, cap, rfl, hm, hc⟩ := h
  by_cases h0 : n = 0
  · subst h0
    clear hc
    go_enter Try.func94, Try.ntmps94
    go_wp2
    refine wp_loop_rounds 1 ?_
    rw [rounds_succ]
    go_wp2
    go_ret
    exact ⟨rfl, rfl⟩
  · obtain ⟨b, off, rfl, hc'⟩ := hc.resolve_left h0
    have HC := Lib.hid hc'
    clear hc hc' h0
    go_enter Try.func94, Try.ntmps94
    go_wp2
    go_loop [3, 4] (fun t c => ∃ j : Nat, j ≤ n ∧ c = .int .i64 j ∧ t = .int .i64 (dgr G j)) (fun _ c => n - (intOf c).toNat)
    case atStart => exact ⟨0, by omega, rfl, rfl⟩
    case round =>
      obtain ⟨j, hj, rfl, rfl⟩ := hrel
      by_cases hlt : j < n
      · have hlt' : (j : Int) < (n : Int) := by omega
        have c1 := HC.out j hlt
        have HT : Hid (dgr G (j + 1) = wrap64 (dgr G j + wrap64 (G j * (sp j : Int)))) := Lib.hid rfl
        generalize G j = x at c1 HT
        generalize dgr G j = y at HT ⊢
        go_wp2
        go_round
        case rel => exact ⟨j + 1, by omega, by go_num, by rw [HT.out, ← spike_sp_num j (by omega)]⟩
        case measure => simp [intOf]; omega
      · obtain rfl : j = n := by omega
        generalize hy : dgr G j = y
        have HY := Lib.hid hy
        clear hy
        go_wp2
        go_ret
        exact ⟨by rw [HY.out]; rfl, rfl⟩

theorem implDegree_bad (v : Value) (n : Nat) (G : Nat → Int) (w : World) (h : RdI w v n G) (hok : ¬ okExp G n) :
    Calls Try.prog 96 #[v] w fun e w' => e = .returned (.tuple #[.int .i64 0, .int .i64 1]) ∧ w = w' := by
  have A := Lib.hid (isExp_no v n G w h hok)
  clear h hok
  go_enter Try.func96, Try.ntmps96
  go_wp2_with (go_at_call 105; refine A.out.mono ?_; rintro e w' ⟨rfl, rfl⟩)
  go_ret2
  exact ⟨rfl, rfl⟩

def dgV (x : Int) : Int := if 1000000000000 < x then 0 else x
def dgC (x : Int) : Int := if 1000000000000 < x then 3 else 0

theorem implDegree_ok (v : Value) (n : Nat) (G : Nat → Int) (w : World) (h : RdI w v n G) (hok : okExp G n) :
    Calls Try.prog 96 #[v] w fun e w' => e = .returned (.tuple #[.int .i64 (dgV (dgr G n)), .int .i64 (dgC (dgr G n))]) ∧ w = w' := by
  have A := Lib.hid (isExp_yes v n G w h hok)
  have hn := hok.1
  obtain ⟨a, cap, rfl, hm, hc⟩ := h
  by_cases h0 : n = 0
  · subst h0
    clear hc hok
    go_enter Try.func96, Try.ntmps96
    go_wp2_with (go_at_call 105; refine A.out.mono ?_; rintro e w' ⟨rfl, rfl⟩)
    refine wp_loop_rounds 1 ?_
    rw [rounds_succ]
    go_wp2
    go_ret2
    exact ⟨rfl, rfl⟩
  · obtain ⟨b, off, rfl, hc'⟩ := hc.resolve_left h0
    have HC := Lib.hid hc'
    clear hc hc' h0 hok
    go_enter Try.func96, Try.ntmps96
    go_wp2_with (go_at_call 105; refine A.out.mono ?_; rintro e w' ⟨rfl, rfl⟩)
    clear A
    go_loop [4, 5, 6, 12] (fun t _ _ c => ∃ j : Nat, j ≤ n ∧ c = .int .i64 j ∧ t = .int .i64 (dgr G j)) (fun _ _ _ c => n - (intOf c).toNat)
    case atStart => exact ⟨0, by omega, rfl, rfl⟩
    case round =>
      obtain ⟨j, hj, rfl, rfl⟩ := hrel
      by_cases hlt : j < n
      · have hlt' : (j : Int) < (n : Int) := by omega
        have c1 := HC.out j hlt
        have HT : Hid (dgr G (j + 1) = wrap64 (dgr G j + wrap64 (G j * (sp j : Int)))) := Lib.hid rfl
        have SP := fun (wx : World) => spike_sp j wx (by omega)
        generalize sp j = p at SP HT
        generalize G j = x at c1 HT
        generalize dgr G j = y at HT ⊢
        go_wp2_with (go_at_call 77; refine (SP _).mono ?_; rintro e w' ⟨rfl, rfl⟩)
        go_round
        case rel => exact ⟨j + 1, by omega, by go_num, by rw [HT.out]⟩
        case measure => simp [intOf]; omega
      · obtain rfl : j = n := by omega
        generalize hy : dgr G j = y
        have HY := Lib.hid hy
        clear hy
        by_cases hx : 1000000000000 < y
        · have E1 := Lib.hid (show dgV y = 0 by unfold dgV; rw [if_pos hx])
          have E2 := Lib.hid (show dgC y = 3 by unfold dgC; rw [if_pos hx])
          go_wp2
          go_ret2
          exact ⟨by rw [HY.out, E1.out, E2.out]; rfl, rfl⟩
        · have E1 := Lib.hid (show dgV y = y by unfold dgV; rw [if_neg hx])
          have E2 := Lib.hid (show dgC y = 0 by unfold dgC; rw [if_neg hx])
          go_wp2
          go_ret2
          exact ⟨by rw [HY.out, E1.out, E2.out]; rfl, rfl⟩

end Go.Proofs.Ytcbfcpngpnlodaa
end
section
namespace Go.Proofs.Ytcbfcpngpnlodaa
open Go.RowKit
set_option maxRecDepth 100000
set_option linter.unusedVariables false

theorem first_bad (P : Nat → Prop) (n : Nat) (h : ¬ ∀ i, i < n → P i) : ∃ i, i < n ∧ ¬ P i ∧ ∀ j, j < i → P j := by
  induction n with
  | zero => exact absurd (fun i hi => absurd hi (Nat.not_lt_zero _)) h
  | succ n ih =>
    by_cases h1 : ∀ i, i < n → P i
    · refine ⟨n, Nat.lt_succ_self _, fun hp => h fun i hi => ?_, h1⟩
      by_cases e : i = n
      · subst e; exact hp
      · exact h1 i (by omega)
    · obtain ⟨i, a, b, c⟩ := ih h1
      exact ⟨i, by omega, b, c⟩

/-- The list before is less than the list i. -/
def stepOk (X : Nat → List Int) (i : Nat) : Prop := 0 < i → lexLt (X (i - 1)) (X i) = true
/-- A term list. -/
def okTerms (X : Nat → List Int) (m : Nat) : Prop := m ≤ 2000 ∧ (∀ i, i < m → (X i).length ≤ 20) ∧ ∀ i, i < m → stepOk X i

theorem asc_yes (V : Value) (m : Nat) (X : Nat → List Int) (w : World) (h : RdSS w V m X) (hok : ∀ i, i < m → stepOk X i) :
    Calls Try.prog 92 #[V] w fun e w' => e = .returned (.bool true) ∧ ∃ q, w' = w.drewN q := by
  obtain ⟨⟨a, cap, rfl⟩, hsm, VS, hc, hr⟩ := h
  unfold maxLen at hsm
  by_cases h0 : m = 0
  · subst h0
    clear hc hr hok
    go_enter Try.func92, Try.ntmps92
    go_wp2
    refine wp_loop_rounds 1 ?_
    rw [rounds_succ]
    go_wp2
    go_ret
    exact ⟨rfl, 0, rfl⟩
  · obtain ⟨b, off, ⟨cap', e⟩, hc'⟩ := hc.resolve_left h0
    cases e
    have HC := Lib.hid hc'
    have HR := Lib.hid hr
    have HO := Lib.hid hok
    clear hc hc' hr hok
    go_enter Try.func92, Try.ntmps92
    go_wp2
    go_loopw [3] (fun c wr => ∃ k q : Nat, 1 ≤ k ∧ k ≤ m ∧ c = .int .i64 k ∧ Hid (wr = w.drewN q)) (fun c _ => m - (intOf c).toNat)
    case atStart => exact ⟨1, 0, by omega, by omega, rfl, Lib.hid rfl⟩
    case round =>
      obtain ⟨k, q, hk1, hk2, rfl, hw⟩ := hrel
      by_cases hlt : k < m
      · have hlt' : (k : Int) < (m : Int) := by omega
        have hk1' : (1 : Int) ≤ (k : Int) := by omega
        have hkm' : (k : Int) - 1 < (m : Int) := by omega
        have c1 : wr.cell? ⟨b, off + k, none⟩ = some (VS k) := by rw [hw.out]; exact HC.out k hlt
        have c2 : wr.cell? ⟨b, off + (k - 1), none⟩ = some (VS (k - 1)) := by rw [hw.out]; exact HC.out (k - 1) (by omega)
        have E : ∀ n, Calls Try.prog 104 #[VS (k - 1), VS k] (wr.drewN n) fun e w' => e = .returned (.bool true) ∧ ∃ p, w' = (wr.drewN n).drewN p := by
          intro n
          have e1 : RdL (wr.drewN n) (VS (k - 1)) (X (k - 1)) := by rw [hw.out]; exact HR.out (k - 1) (by omega)
          have e2 : RdL (wr.drewN n) (VS k) (X k) := by rw [hw.out]; exact HR.out k hlt
          have := l01Less_any _ _ _ _ _ e1 e2
          rw [HO.out k hlt (by omega)] at this
          exact this
        have E := Lib.hid E
        generalize VS k = v1 at c1 E
        generalize VS (k - 1) = v2 at c2 E
        go_wp2
        go_quiet ((go_at_call 104; exact Calls.quiet_of (E.out _)))
        go_wp2
        go_roundw
        case rel => exact ⟨k + 1, q + nq, by omega, by omega, by go_num, Lib.hid (by rw [hw.out]; exact World.drewN_drewN ..)⟩
        case measure => simp [intOf]; omega
      · go_wp2
        go_ret
        exact ⟨rfl, q, hw.out⟩

theorem asc_no (V : Value) (m : Nat) (X : Nat → List Int) (w : World) (h : RdSS w V m X) (hok : ¬ ∀ i, i < m → stepOk X i) :
    Calls Try.prog 92 #[V] w fun e w' => e = .returned (.bool false) ∧ ∃ q, w' = w.drewN q := by
  obtain ⟨⟨a, cap, rfl⟩, hsm, VS, hc, hr⟩ := h
  unfold maxLen at hsm
  obtain ⟨z, hz, hbad, hgood⟩ := first_bad _ _ hok
  obtain ⟨b, off, ⟨cap', e⟩, hc'⟩ := hc.resolve_left (by omega)
  cases e
  have hz0 : 0 < z := Decidable.byContradiction fun h => hbad (fun h' => absurd h' h)
  have hless : lexLt (X (z - 1)) (X z) = false := by
    cases hb : lexLt (X (z - 1)) (X z) with
    | false => rfl
    | true => exact absurd (fun _ => hb) hbad
  have HC := Lib.hid hc'
  have HR := Lib.hid hr
  have HO := Lib.hid hgood
  have HB := Lib.hid hless
  clear hc hc' hr hok hbad hgood hless
  go_enter Try.func92, Try.ntmps92
  go_wp2
  go_loopw [3] (fun c wr => ∃ k q : Nat, 1 ≤ k ∧ k ≤ z ∧ c = .int .i64 k ∧ Hid (wr = w.drewN q)) (fun c _ => m - (intOf c).toNat)
  case atStart => exact ⟨1, 0, by omega, by omega, rfl, Lib.hid rfl⟩
  case round =>
    obtain ⟨k, q, hk1, hk2, rfl, hw⟩ := hrel
    have hlt' : (k : Int) < (m : Int) := by omega
    have hk1' : (1 : Int) ≤ (k : Int) := by omega
    have hkm' : (k : Int) - 1 < (m : Int) := by omega
    have c1 : wr.cell? ⟨b, off + k, none⟩ = some (VS k) := by rw [hw.out]; exact HC.out k (by omega)
    have c2 : wr.cell? ⟨b, off + (k - 1), none⟩ = some (VS (k - 1)) := by rw [hw.out]; exact HC.out (k - 1) (by omega)
    have E : ∀ n, Calls Try.prog 104 #[VS (k - 1), VS k] (wr.drewN n) fun e w' => e = .returned (.bool (lexLt (X (k - 1)) (X k))) ∧ ∃ p, w' = (wr.drewN n).drewN p := by
      intro n
      have e1 : RdL (wr.drewN n) (VS (k - 1)) (X (k - 1)) := by rw [hw.out]; exact HR.out (k - 1) (by omega)
      have e2 : RdL (wr.drewN n) (VS k) (X k) := by rw [hw.out]; exact HR.out k (by omega)
      exact l01Less_any _ _ _ _ _ e1 e2
    by_cases hlt : k < z
    · rw [HO.out k hlt (by omega)] at E
      have E := Lib.hid E
      generalize VS k = v1 at c1 E
      generalize VS (k - 1) = v2 at c2 E
      go_wp2
      go_quiet ((go_at_call 104; exact Calls.quiet_of (E.out _)))
      go_wp2
      go_roundw
      case rel => exact ⟨k + 1, q + nq, by omega, by omega, by go_num, Lib.hid (by rw [hw.out]; exact World.drewN_drewN ..)⟩
      case measure => simp [intOf]; omega
    · obtain rfl : k = z := by omega
      rw [HB.out] at E
      have E := Lib.hid E
      generalize VS k = v1 at c1 E
      generalize VS (k - 1) = v2 at c2 E
      go_wp2
      go_quiet ((go_at_call 104; exact Calls.quiet_of (E.out _)))
      go_wp2
      go_ret
      exact ⟨rfl, q + nq, by rw [hw.out]; exact World.drewN_drewN ..⟩
end Go.Proofs.Ytcbfcpngpnlodaa
end
