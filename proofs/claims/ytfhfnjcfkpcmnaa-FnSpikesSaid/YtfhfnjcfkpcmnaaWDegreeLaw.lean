/-
  Contracts of spec.DegreeOf and impl.DegreeOf, and the walk of laws.FnExactDegreeOf.
-/
import Derived.Test.YtfhfnjcfkpcmnaaWDegree
namespace Go.Proofs.Ytfhfnjcfkpcmnaa
open Go.RowKit
set_option linter.unusedVariables false

theorem spike_sp_num (j : Nat) (h : j ≤ 59) : wrap64 (wrap64 (2 ^ (j + 1)) - 1) = ((sp j : Nat) : Int) := by
  rw [spike_num (j + 1) (by omega)]
  have := sp_pow j
  congr 1
  omega

set_option maxRecDepth 100000 in
theorem l01Degree_any (v : Value) (n : Nat) (G : Nat → Int) (w : World) (h : RdI w v n G) (hn : n ≤ 10) :
    Calls Try.prog 84 #[v] w fun e w' => e = .returned (.int .i64 (dgr G n)) ∧ w = w' := by
  obtain ⟨a, cap, rfl, hm, hc⟩ := h
  by_cases h0 : n = 0
  · subst h0
    clear hc
    go_enter Try.func84, Try.ntmps84
    go_wp2
    refine wp_loop_rounds 1 ?_
    rw [rounds_succ]
    go_wp2
    go_ret
    exact ⟨rfl, rfl⟩
  · obtain ⟨b, off, rfl, hc'⟩ := hc.resolve_left h0
    have HC := Lib.hid hc'
    clear hc hc' h0
    go_enter Try.func84, Try.ntmps84
    go_wp2
    go_loop [3, 4] (fun t c => ∃ j : Nat, j ≤ n ∧ c = .int .i64 j ∧ t = .int .i64 (dgr G j)) (fun _ c => n - (intOf c).toNat)
    case atStart => exact ⟨0, by omega, rfl, rfl⟩
    case round =>
      obtain ⟨j, hj, rfl, rfl⟩ := hrel
      by_cases hlt : j < n
      · have hlt' : (j : Int) < (n : Int) := by omega
        have c1 := HC.out j hlt
        have HT : Hid (dgr G (j + 1) = wrap64 (dgr G j + wrap64 (G j * (sp j : Int)))) := Lib.hid rfl
        generalize G j = x at c1 HT
        generalize dgr G j = y at HT ⊢
        go_wp2
        go_round
        case rel => exact ⟨j + 1, by omega, by go_num, by rw [HT.out, ← spike_sp_num j (by omega)]⟩
        case measure => simp [intOf]; omega
      · obtain rfl : j = n := by omega
        generalize hy : dgr G j = y
        have HY := Lib.hid hy
        clear hy
        go_wp2
        go_ret
        exact ⟨by rw [HY.out]; rfl, rfl⟩

theorem implDegree_bad (v : Value) (n : Nat) (G : Nat → Int) (w : World) (h : RdI w v n G) (hok : ¬ okExp G n) :
    Calls Try.prog 33 #[v] w fun e w' => e = .returned (.tuple #[.int .i64 0, .int .i64 1]) ∧ w = w' := by
  have A := Lib.hid (isExp_no v n G w h hok)
  clear h hok
  go_enter Try.func33, Try.ntmps33
  go_wp2_with (go_at_call 75; refine A.out.mono ?_; rintro e w' ⟨rfl, rfl⟩)
  go_ret2
  exact ⟨rfl, rfl⟩

theorem specDegree_bad (v : Value) (n : Nat) (G : Nat → Int) (w : World) (h : RdI w v n G) (hok : ¬ okExp G n) :
    Calls Try.prog 40 #[v] w fun e w' => e = .returned (.tuple #[.int .i64 0, .int .i64 1]) ∧ w = w' := by
  have A := Lib.hid (l01Exp_no v n G w h hok)
  clear h hok
  go_enter Try.func40, Try.ntmps40
  go_wp2_with (go_at_call 83; refine A.out.mono ?_; rintro e w' ⟨rfl, rfl⟩)
  go_ret2
  exact ⟨rfl, rfl⟩

def dgV (x : Int) : Int := if 1000000000000 < x then 0 else x
def dgC (x : Int) : Int := if 1000000000000 < x then 3 else 0

theorem specDegree_ok (v : Value) (n : Nat) (G : Nat → Int) (w : World) (h : RdI w v n G) (hok : okExp G n) :
    Calls Try.prog 40 #[v] w fun e w' => e = .returned (.tuple #[.int .i64 (dgV (dgr G n)), .int .i64 (dgC (dgr G n))]) ∧ w = w' := by
  have A := Lib.hid (l01Exp_yes v n G w h hok)
  have D := Lib.hid (l01Degree_any v n G w h hok.1)
  clear h hok
  generalize dgr G n = x at D
  by_cases hx : 1000000000000 < x
  · have E1 := Lib.hid (show dgV x = 0 by unfold dgV; rw [if_pos hx])
    have E2 := Lib.hid (show dgC x = 3 by unfold dgC; rw [if_pos hx])
    rw [E1.out, E2.out]
    go_enter Try.func40, Try.ntmps40
    go_wp2_with (first | (go_at_call 83; refine A.out.mono ?_; rintro e w' ⟨rfl, rfl⟩) | (go_at_call 84; refine D.out.mono ?_; rintro e w' ⟨rfl, rfl⟩))
    go_ret2
    exact ⟨rfl, rfl⟩
  · have E1 := Lib.hid (show dgV x = x by unfold dgV; rw [if_neg hx])
    have E2 := Lib.hid (show dgC x = 0 by unfold dgC; rw [if_neg hx])
    rw [E1.out, E2.out]
    go_enter Try.func40, Try.ntmps40
    go_wp2_with (first | (go_at_call 83; refine A.out.mono ?_; rintro e w' ⟨rfl, rfl⟩) | (go_at_call 84; refine D.out.mono ?_; rintro e w' ⟨rfl, rfl⟩))
    go_ret2
    exact ⟨rfl, rfl⟩

theorem implDegree_ok (v : Value) (n : Nat) (G : Nat → Int) (w : World) (h : RdI w v n G) (hok : okExp G n) :
    Calls Try.prog 33 #[v] w fun e w' => e = .returned (.tuple #[.int .i64 (dgV (dgr G n)), .int .i64 (dgC (dgr G n))]) ∧ w = w' := by
  have A := Lib.hid (isExp_yes v n G w h hok)
  have hn := hok.1
  obtain ⟨a, cap, rfl, hm, hc⟩ := h
  by_cases h0 : n = 0
  · subst h0
    clear hc hok
    go_enter Try.func33, Try.ntmps33
    go_wp2_with (go_at_call 75; refine A.out.mono ?_; rintro e w' ⟨rfl, rfl⟩)
    refine wp_loop_rounds 1 ?_
    rw [rounds_succ]
    go_wp2
    go_ret2
    exact ⟨rfl, rfl⟩
  · obtain ⟨b, off, rfl, hc'⟩ := hc.resolve_left h0
    have HC := Lib.hid hc'
    clear hc hc' h0 hok
    go_enter Try.func33, Try.ntmps33
    go_wp2_with (go_at_call 75; refine A.out.mono ?_; rintro e w' ⟨rfl, rfl⟩)
    clear A
    go_loop [4, 5, 6, 12] (fun t _ _ c => ∃ j : Nat, j ≤ n ∧ c = .int .i64 j ∧ t = .int .i64 (dgr G j)) (fun _ _ _ c => n - (intOf c).toNat)
    case atStart => exact ⟨0, by omega, rfl, rfl⟩
    case round =>
      obtain ⟨j, hj, rfl, rfl⟩ := hrel
      by_cases hlt : j < n
      · have hlt' : (j : Int) < (n : Int) := by omega
        have c1 := HC.out j hlt
        have HT : Hid (dgr G (j + 1) = wrap64 (dgr G j + wrap64 (G j * (sp j : Int)))) := Lib.hid rfl
        have SP := fun (wx : World) => spike_sp j wx (by omega)
        generalize sp j = p at SP HT
        generalize G j = x at c1 HT
        generalize dgr G j = y at HT ⊢
        go_wp2_with (go_at_call 74; refine (SP _).mono ?_; rintro e w' ⟨rfl, rfl⟩)
        go_round
        case rel => exact ⟨j + 1, by omega, by go_num, by rw [HT.out]⟩
        case measure => simp [intOf]; omega
      · obtain rfl : j = n := by omega
        generalize hy : dgr G j = y
        have HY := Lib.hid hy
        clear hy
        by_cases hx : 1000000000000 < y
        · have E1 := Lib.hid (show dgV y = 0 by unfold dgV; rw [if_pos hx])
          have E2 := Lib.hid (show dgC y = 3 by unfold dgC; rw [if_pos hx])
          go_wp2
          go_ret2
          exact ⟨by rw [HY.out, E1.out, E2.out]; rfl, rfl⟩
        · have E1 := Lib.hid (show dgV y = y by unfold dgV; rw [if_neg hx])
          have E2 := Lib.hid (show dgC y = 0 by unfold dgC; rw [if_neg hx])
          go_wp2
          go_ret2
          exact ⟨by rw [HY.out, E1.out, E2.out]; rfl, rfl⟩

theorem degree_same (n : Nat) (G : Nat → Int) : ∃ x c : Int,
    (∀ v w, RdI w v n G → Calls Try.prog 40 #[v] w fun e w' => e = .returned (.tuple #[.int .i64 x, .int .i64 c]) ∧ w = w') ∧
    (∀ v w, RdI w v n G → Calls Try.prog 33 #[v] w fun e w' => e = .returned (.tuple #[.int .i64 x, .int .i64 c]) ∧ w = w') := by
  by_cases hok : okExp G n
  · exact ⟨_, _, fun v w h => specDegree_ok v n G w h hok, fun v w h => implDegree_ok v n G w h hok⟩
  · exact ⟨0, 1, fun v w h => specDegree_bad v n G w h hok, fun v w h => implDegree_bad v n G w h hok⟩

theorem walk_FnExactDegreeOf (a0 : Option Addr) (len0 cap0 : Nat) (z0 : List Int) (w : World) (w0 : IsRow .i64 w a0 len0 cap0 z0) :
    Calls Try.prog 9 #[.slice a0 len0 cap0] w fun e w' => e = .returned (.bool true) ∧ Below w.heap.size w w' := by
  have hr := w0.rd
  clear w0
  generalize (fun i => z0.getD i 0) = G at hr
  by_cases hbig : len0 ≤ 1048576
  · have hbig' : (len0 : Int) ≤ 1048576 := by omega
    obtain ⟨x, c, S, I⟩ := degree_same len0 G
    have S := Lib.hid S
    have I := Lib.hid I
    have R := Lib.hid hr
    clear hr
    go_enter Try.func9, Try.ntmps9
    go_wp2_with fail
    refine (toInt64S_any _ len0 G _ (by omega) R.out).mono ?_
    rintro e w1 ⟨v1, rfl, o1, b1⟩
    have r1 := (rd_of_own o1 (cpy_length G len0 len0).symm).congr (cpy_get G len0)
    go_wp2_with fail
    refine (S.out _ _ r1).mono ?_
    rintro e w2 ⟨rfl, rfl⟩
    go_wp2_with fail
    refine (toInt64S_any _ len0 G _ (by omega) (R.out.below b1)).mono ?_
    rintro e w3 ⟨v3, rfl, o3, b3⟩
    have r3 := (rd_of_own o3 (cpy_length G len0 len0).symm).congr (cpy_get G len0)
    have b13 := b1.trans (b3.mono b1.size)
    go_wp2_with fail
    refine (I.out _ _ r3).mono ?_
    rintro e w4 ⟨rfl, rfl⟩
    go_wp2_with fail
    refine (toInt64S_any _ len0 G _ (by omega) (R.out.below b13)).mono ?_
    rintro e w5 ⟨v5, rfl, o5, b5⟩
    have r5 := (rd_of_own o5 (cpy_length G len0 len0).symm).congr (cpy_get G len0)
    have b15 := b13.trans (b5.mono b13.size)
    go_wp2_with fail
    refine (eqInt64S_same _ _ len0 G _ (r3.below b5) r5).mono ?_
    rintro e w6 ⟨rfl, q, rfl⟩
    go_wp2_with fail
    go_ret
    exact ⟨rfl, below_drewN b15 q⟩
  · have hbig' : (1048576 : Int) < (len0 : Int) := by omega
    go_enter Try.func9, Try.ntmps9
    go_wp2
    go_ret
    exact ⟨rfl, Below.refl _ _⟩
end Go.Proofs.Ytfhfnjcfkpcmnaa
