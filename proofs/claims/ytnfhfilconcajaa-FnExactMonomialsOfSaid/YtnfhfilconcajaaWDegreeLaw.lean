/-
  Contracts of spec.DegreeOf and impl.DegreeOf, and the walk of laws.FnExactDegreeOf.
-/
import Derived.Test.YtnfhfilconcajaaWDegree
namespace Go.Proofs.Ytnfhfilconcajaa
open Go.RowKit
set_option maxRecDepth 100000
set_option linter.unusedVariables false

theorem spike_sp_num (j : Nat) (h : j ≤ 59) : wrap64 (wrap64 (2 ^ (j + 1)) - 1) = ((sp j : Nat) : Int) := by
  rw [spike_num (j + 1) (by omega)]
  have := sp_pow j
  congr 1
  omega

set_option maxRecDepth 100000 in
theorem l01Degree_any (v : Value) (n : Nat) (G : Nat → Int) (w : World) (h : RdI w v n G) (hn : n ≤ 10) :
    Calls Try.prog 69 #[v] w fun e w' => e = .returned (.int .i64 (dgr G n)) ∧ w = w' := by
  obtain ⟨a, cap, rfl, hm, hc⟩ := h
  by_cases h0 : n = 0
  · subst h0
    clear hc
    go_enter Try.func69, Try.ntmps69
    go_wp2
    refine wp_loop_rounds 1 ?_
    rw [rounds_succ]
    go_wp2
    go_ret
    exact ⟨rfl, rfl⟩
  · obtain ⟨b, off, rfl, hc'⟩ := hc.resolve_left h0
    have HC := Lib.hid hc'
    clear hc hc' h0
    go_enter Try.func69, Try.ntmps69
    go_wp2
    go_loop [3, 4] (fun t c => ∃ j : Nat, j ≤ n ∧ c = .int .i64 j ∧ t = .int .i64 (dgr G j)) (fun _ c => n - (intOf c).toNat)
    case atStart => exact ⟨0, by omega, rfl, rfl⟩
    case round =>
      obtain ⟨j, hj, rfl, rfl⟩ := hrel
      by_cases hlt : j < n
      · have hlt' : (j : Int) < (n : Int) := by omega
        have c1 := HC.out j hlt
        have HT : Hid (dgr G (j + 1) = wrap64 (dgr G j + wrap64 (G j * (sp j : Int)))) := Lib.hid rfl
        generalize G j = x at c1 HT
        generalize dgr G j = y at HT ⊢
        go_wp2
        go_round
        case rel => exact ⟨j + 1, by omega, by go_num, by rw [HT.out, ← spike_sp_num j (by omega)]⟩
        case measure => simp [intOf]; omega
      · obtain rfl : j = n := by omega
        generalize hy : dgr G j = y
        have HY := Lib.hid hy
        clear hy
        go_wp2
        go_ret
        exact ⟨by rw [HY.out]; rfl, rfl⟩

theorem implDegree_bad (v : Value) (n : Nat) (G : Nat → Int) (w : World) (h : RdI w v n G) (hok : ¬ okExp G n) :
    Calls Try.prog 96 #[v] w fun e w' => e = .returned (.tuple #[.int .i64 0, .int .i64 1]) ∧ w = w' := by
  have A := Lib.hid (isExp_no v n G w h hok)
  clear h hok
  go_enter Try.func96, Try.ntmps96
  go_wp2_with (go_at_call 109; refine A.out.mono ?_; rintro e w' ⟨rfl, rfl⟩)
  go_ret2
  exact ⟨rfl, rfl⟩

def dgV (x : Int) : Int := if 1000000000000 < x then 0 else x
def dgC (x : Int) : Int := if 1000000000000 < x then 3 else 0

theorem implDegree_ok (v : Value) (n : Nat) (G : Nat → Int) (w : World) (h : RdI w v n G) (hok : okExp G n) :
    Calls Try.prog 96 #[v] w fun e w' => e = .returned (.tuple #[.int .i64 (dgV (dgr G n)), .int .i64 (dgC (dgr G n))]) ∧ w = w' := by
  have A := Lib.hid (isExp_yes v n G w h hok)
  have hn := hok.1
  obtain ⟨a, cap, rfl, hm, hc⟩ := h
  by_cases h0 : n = 0
  · subst h0
    clear hc hok
    go_enter Try.func96, Try.ntmps96
    go_wp2_with (go_at_call 109; refine A.out.mono ?_; rintro e w' ⟨rfl, rfl⟩)
    refine wp_loop_rounds 1 ?_
    rw [rounds_succ]
    go_wp2
    go_ret2
    exact ⟨rfl, rfl⟩
  · obtain ⟨b, off, rfl, hc'⟩ := hc.resolve_left h0
    have HC := Lib.hid hc'
    clear hc hc' h0 hok
    go_enter Try.func96, Try.ntmps96
    go_wp2_with (go_at_call 109; refine A.out.mono ?_; rintro e w' ⟨rfl, rfl⟩)
    clear A
    go_loop [4, 5, 6, 12] (fun t _ _ c => ∃ j : Nat, j ≤ n ∧ c = .int .i64 j ∧ t = .int .i64 (dgr G j)) (fun _ _ _ c => n - (intOf c).toNat)
    case atStart => exact ⟨0, by omega, rfl, rfl⟩
    case round =>
      obtain ⟨j, hj, rfl, rfl⟩ := hrel
      by_cases hlt : j < n
      · have hlt' : (j : Int) < (n : Int) := by omega
        have c1 := HC.out j hlt
        have HT : Hid (dgr G (j + 1) = wrap64 (dgr G j + wrap64 (G j * (sp j : Int)))) := Lib.hid rfl
        have SP := fun (wx : World) => spike_sp j wx (by omega)
        generalize sp j = p at SP HT
        generalize G j = x at c1 HT
        generalize dgr G j = y at HT ⊢
        go_wp2_with (go_at_call 100; refine (SP _).mono ?_; rintro e w' ⟨rfl, rfl⟩)
        go_round
        case rel => exact ⟨j + 1, by omega, by go_num, by rw [HT.out]⟩
        case measure => simp [intOf]; omega
      · obtain rfl : j = n := by omega
        generalize hy : dgr G j = y
        have HY := Lib.hid hy
        clear hy
        by_cases hx : 1000000000000 < y
        · have E1 := Lib.hid (show dgV y = 0 by unfold dgV; rw [if_pos hx])
          have E2 := Lib.hid (show dgC y = 3 by unfold dgC; rw [if_pos hx])
          go_wp2
          go_ret2
          exact ⟨by rw [HY.out, E1.out, E2.out]; rfl, rfl⟩
        · have E1 := Lib.hid (show dgV y = y by unfold dgV; rw [if_neg hx])
          have E2 := Lib.hid (show dgC y = 0 by unfold dgC; rw [if_neg hx])
          go_wp2
          go_ret2
          exact ⟨by rw [HY.out, E1.out, E2.out]; rfl, rfl⟩

end Go.Proofs.Ytnfhfilconcajaa
