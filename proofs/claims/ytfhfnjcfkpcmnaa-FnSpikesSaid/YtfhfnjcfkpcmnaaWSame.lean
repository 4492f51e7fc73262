/-
  laws.likeInts, laws.rows5 and laws.sum.
-/
import Derived.Test.YtfhfnjcfkpcmnaaWFam
namespace Go.Proofs.Ytfhfnjcfkpcmnaa
open Go.RowKit
set_option linter.unusedVariables false

theorem likeInts_same (va vb : Value) (n : Nat) (G : Nat → Int) (w : World) (ha : RdI w va n G) (hb : RdI w vb n G) :
    Calls Try.prog 27 #[va, vb] w fun e w' => e = .returned (.bool true) ∧ ∃ q, w' = w.drewN q := by
  obtain ⟨aa, capa, rfl, hm, ha⟩ := ha
  obtain ⟨ab, capb, rfl, _, hb⟩ := hb
  unfold maxLen at hm
  by_cases h0 : n = 0
  · subst h0
    clear ha hb
    go_enter Try.func27, Try.ntmps27
    go_wp2
    refine wp_loop_rounds 1 ?_
    rw [rounds_succ]
    go_wp2
    go_ret
    exact ⟨rfl, 0, rfl⟩
  · obtain ⟨ba, offa, rfl, hca⟩ := ha.resolve_left h0
    obtain ⟨bb, offb, rfl, hcb⟩ := hb.resolve_left h0
    clear ha hb
    have hpos : 0 < n := by omega
    have HA := Lib.hid hca
    have HB := Lib.hid hcb
    clear hca hcb h0
    go_enter Try.func27, Try.ntmps27
    go_wp2
    go_loopw [5] (fun i wr => ∃ k q : Nat, k ≤ n ∧ i = .int .i64 k ∧ Hid (wr = w.drewN q)) (fun i _ => n - (intOf i).toNat)
    case atStart => exact ⟨0, 0, by omega, rfl, Lib.hid rfl⟩
    case round =>
      obtain ⟨k, q, hk, rfl, hw⟩ := hrel
      by_cases hlt : k < n
      · have c1 : wr.cell? ⟨ba, offa + k, none⟩ = some (.int .i64 (G k)) := by rw [hw.out]; exact HA.out k hlt
        have c2 : wr.cell? ⟨bb, offb + k, none⟩ = some (.int .i64 (G k)) := by rw [hw.out]; exact HB.out k hlt
        have hlt' : (k : Int) < (n : Int) := by omega
        go_wp2
        go_quiet (fail)
        go_wp2
        go_roundw
        case rel => exact ⟨k + 1, q + nq, by omega, by go_num, Lib.hid (by rw [hw.out]; exact World.drewN_drewN ..)⟩
        case measure => simp [intOf]; omega
      · go_wp2
        go_ret
        exact ⟨rfl, q, hw.out⟩

theorem rows5_same (Va Vb : Value) (m : Nat) (Ba Bb : Nat) (VA VB : Nat → Value) (Y : Nat → List Int) (w : World) (ha : Fam w Ba Va m VA Y) (hb : Fam w Bb Vb m VB Y) :
    Calls Try.prog 31 #[Va, Vb] w fun e w' => e = .returned (.bool true) ∧ ∃ q, w' = w.drewN q := by
  obtain ⟨aa, capa, rfl, hm, hca⟩ := ha.head
  obtain ⟨ab, capb, rfl, _, hcb⟩ := hb.head
  unfold maxLen at hm
  have RA := Lib.hid ha.rd
  have RB := Lib.hid hb.rd
  clear ha hb
  by_cases h0 : m = 0
  · subst h0
    clear hca hcb RA RB
    go_enter Try.func31, Try.ntmps31
    go_wp2
    refine wp_loop_rounds 1 ?_
    rw [rounds_succ]
    go_wp2
    go_ret
    exact ⟨rfl, 0, rfl⟩
  · obtain ⟨ba, rfl, hca'⟩ := hca.resolve_left h0
    obtain ⟨bb, rfl, hcb'⟩ := hcb.resolve_left h0
    have hpos : 0 < m := by omega
    have HA := Lib.hid hca'
    have HB := Lib.hid hcb'
    clear hca hcb hca' hcb' h0
    go_enter Try.func31, Try.ntmps31
    go_wp2
    go_loopw [5] (fun i wr => ∃ k q : Nat, k ≤ m ∧ i = .int .i64 k ∧ Hid (wr = w.drewN q)) (fun i _ => m - (intOf i).toNat)
    case atStart => exact ⟨0, 0, by omega, rfl, Lib.hid rfl⟩
    case round =>
      obtain ⟨k, q, hk, rfl, hw⟩ := hrel
      by_cases hlt : k < m
      · have c1 : wr.cell? ⟨ba, k, none⟩ = some (VA k) := by rw [hw.out]; exact HA.out k hlt
        have c2 : wr.cell? ⟨bb, k, none⟩ = some (VB k) := by rw [hw.out]; exact HB.out k hlt
        have hlt' : (k : Int) < (m : Int) := by omega
        have E : ∀ n, Calls Try.prog 27 #[VA k, VB k] (wr.drewN n) fun e w' => e = .returned (.bool true) ∧ ∃ p, w' = (wr.drewN n).drewN p := by
          intro n
          have e1 : RdI (wr.drewN n) (VA k) (Y k).length (fun j => (Y k)[j]?.getD 0) := by rw [hw.out]; exact RA.out k hlt
          have e2 : RdI (wr.drewN n) (VB k) (Y k).length (fun j => (Y k)[j]?.getD 0) := by rw [hw.out]; exact RB.out k hlt
          exact likeInts_same _ _ _ _ _ e1 e2
        have E := Lib.hid E
        generalize VA k = va at c1 E
        generalize VB k = vb at c2 E
        go_wp2
        go_quiet ((go_at_call 27; exact Calls.quiet_of (E.out _)))
        go_wp2
        go_roundw
        case rel => exact ⟨k + 1, q + nq, by omega, by go_num, Lib.hid (by rw [hw.out]; exact World.drewN_drewN ..)⟩
        case measure => simp [intOf]; omega
      · go_wp2
        go_ret
        exact ⟨rfl, q, hw.out⟩

/-- The sum of the first numbers. -/
def smr (G : Nat → Int) : Nat → Int
  | 0 => 0
  | j + 1 => wrap64 (smr G j + G j)

theorem sum_any (v : Value) (n : Nat) (G : Nat → Int) (w : World) (h : RdI w v n G) :
    Calls Try.prog 45 #[v] w fun e w' => e = .returned (.int .i64 (smr G n)) ∧ w' = w := by
  obtain ⟨a, cap, rfl, hm, hc⟩ := h
  unfold maxLen at hm
  by_cases h0 : n = 0
  · subst h0
    clear hc
    go_enter Try.func45, Try.ntmps45
    go_wp2
    refine wp_loop_rounds 1 ?_
    rw [rounds_succ]
    go_wp2
    go_ret
    exact ⟨rfl, rfl⟩
  · obtain ⟨b, off, rfl, hc'⟩ := hc.resolve_left h0
    have HC := Lib.hid hc'
    clear hc hc' h0
    go_enter Try.func45, Try.ntmps45
    go_wp2
    go_loop [3, 4] (fun t c => ∃ j : Nat, j ≤ n ∧ c = .int .i64 j ∧ t = .int .i64 (smr G j)) (fun _ c => n - (intOf c).toNat)
    case atStart => exact ⟨0, by omega, rfl, rfl⟩
    case round =>
      obtain ⟨j, hj, rfl, rfl⟩ := hrel
      by_cases hlt : j < n
      · have hlt' : (j : Int) < (n : Int) := by omega
        have c1 := HC.out j hlt
        have HT : Hid (smr G (j + 1) = wrap64 (smr G j + G j)) := Lib.hid rfl
        generalize G j = x at c1 HT
        generalize smr G j = y at HT ⊢
        go_wp2
        go_round
        case rel => exact ⟨j + 1, by omega, by go_num, by rw [HT.out]⟩
        case measure => simp [intOf]; omega
      · obtain rfl : j = n := by omega
        generalize hy : smr G j = y
        have HY := Lib.hid hy
        clear hy
        go_wp2
        go_ret
        exact ⟨by rw [HY.out]; rfl, rfl⟩
end Go.Proofs.Ytfhfnjcfkpcmnaa
