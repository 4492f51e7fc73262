/-
  Contracts: unitRows, reduceAll with the method remainder; InverseMatrix, both sides.
-/
import Derived.Test.YtdojblmffmefgaaDoorDSolve
namespace Go.Proofs.YtdojblmffmefgaaDoor
open Go.RowKit
set_option linter.unusedVariables false
set_option maxRecDepth 100000

/-- Unit rows, the first j. -/
def uni (j : Nat) : Nat → TR := fun i => if i < j then (2 ^ i, 0) else (0, 0)
theorem uni_zero : uni 0 = fun _ => (0, 0) := by funext i; simp [uni]
theorem uni_succ (j : Nat) : (fun i => if i = j then (2 ^ j, (uni j j).2) else uni j i) = uni (j + 1) := by
  funext i
  unfold uni
  by_cases e : i = j
  · subst e; simp
  · by_cases h : i < j
    · rw [if_neg e, if_pos h, if_pos (by omega)]
    · rw [if_neg e, if_neg h, if_neg (by omega)]

theorem unitRows_any (n : Nat) (w : World) (hn : n ≤ 60) :
    Calls Tryd.prog 101 #[.int .i64 n] w fun e w' => ∃ u, e = .returned u ∧ w'.ownsRow w.heap.size 91 2 u n (tc (fun i => (2 ^ i, 0)) n) ∧ Below w.heap.size w w' := by
  obtain ⟨i0, hi, hz0, hz1, hz2⟩ := info_parts Tryd.infoT
  have t3 := Tryd.underlying91
  go_enter Tryd.func101, Tryd.ntmps101
  go_wp2_with (at_make; refine wpList_make_full _ rfl _ _ 95 rfl w.heap.size 91 i0 (.agg #[.int .i64 0, .int .i64 0]) 2 Tryd.underlying95 hi hz0 hz1 .i64 .i64 (n : Int) (n : Int) n rfl rfl rfl rfl (by rw [hz2]; omega) (by unfold maxLen; omega) (Nat.le_refl _) ?_; intro w1 hown hgrow; rw [tc_made, ← uni_zero] at hown; have H1 := Lib.hid hown; have G1 := Lib.hid hgrow; clear hown hgrow)
  have B1 : Below w.heap.size w w1 := (Below.refl _ w).grown G1.out (Nat.le_refl _) (by intro k hk; cases hk)
  clear G1
  go_loopw [4, 9] (fun _ c wr => ∃ j : Nat, j ≤ n ∧ c = .int .i64 j ∧ Hid (wr.ownsRow w.heap.size 91 2 (.slice (some ⟨w.heap.size, 0, none⟩) n n) n (tc (uni j) n)) ∧ Below w.heap.size w wr) (fun _ c _ => n - (intOf c).toNat)
  case atStart => exact ⟨0, by omega, rfl, H1, B1⟩
  case round =>
    clear H1 B1
    obtain ⟨j, hj, rfl, ho, hb⟩ := hrel
    by_cases hlt : j < n
    · have hlt' : (j : Int) < (n : Int) := by omega
      have c2 := ho.out.cellAt (j * 2) (by omega)
      rw [tc_at0 _ _ _ hlt] at c2
      have f2 := ho.out.frozenAt (j * 2)
      have hst := ho.out.stored (j * 2) (.int .i64 (wrap64 (2 ^ j)))
      rw [wrap_two j (by omega), tc_set0, uni_succ] at hst
      rw [← wrap_two j (by omega)] at hst
      have HS := Lib.hid hst
      have BS := Lib.hid (hb.setCell (p := ⟨w.heap.size, j * 2, none⟩) (Nat.le_refl _) (.int .i64 (wrap64 (2 ^ j))))
      clear hst ho
      generalize (uni j j).1 = y at c2
      go_wp2
      go_roundw
      case rel => exact ⟨j + 1, by omega, by go_num, Lib.hid HS.out.1, BS.out⟩
      case measure => simp [intOf]; omega
    · obtain rfl : j = n := by omega
      have E : Hid (tc (uni j) j = tc (fun i => (2 ^ i, 0)) j) := Lib.hid (tc_congr fun i hi => by unfold uni; rw [if_pos hi])
      go_wp2
      go_ret
      exact ⟨_, rfl, by rw [← E.out]; exact ho.out, hb⟩

set_option maxHeartbeats 2000000 in
theorem reduceRem_any (g : Nat) (S : Nat → TR) (v : Value) (n : Nat) (R : Nat → TR) (w : World) (hv : RdT w v n R) (hS : Sp w g S) (hp : okS S) (hR : ∀ i, i < n → (R i).1 < 2 ^ 60 ∧ (R i).2 < 2 ^ 60) (hn : n ≤ 200) :
    Calls Tryd.prog 91 #[v, .func (.func 90) #[.pointer (some ⟨g, 0, none⟩)] #[]] w fun e w' => ∃ u, e = .returned u ∧ w'.ownsRow w.heap.size 91 2 u n (tc (fun i => rmd S (R i) 60) n) ∧ Below w.heap.size w w' := by
  obtain ⟨i0, hi, hz0, hz1, hz2⟩ := info_parts Tryd.infoT
  have HV := Lib.hid hv
  have HS := Lib.hid hS
  have HR := Lib.hid hR
  have HP := Lib.hid hp
  obtain ⟨a, cap, rfl, _⟩ := hv
  generalize hF : (fun i => rmd S (R i) 60) = F0
  have HF : Hid (∀ i, rmd S (R i) 60 = F0 i) := Lib.hid (fun i => by rw [← hF])
  clear hS hp hR hF
  have t3 := Tryd.underlying91
  go_enter Tryd.func91, Tryd.ntmps91
  go_wp2_with (at_make; refine wpList_make_full _ rfl _ _ 95 rfl w.heap.size 91 i0 (.agg #[.int .i64 0, .int .i64 0]) 2 Tryd.underlying95 hi hz0 hz1 .i64 .i64 (n : Int) (n : Int) n rfl rfl rfl rfl (by rw [hz2]; omega) (by unfold maxLen; omega) (Nat.le_refl _) ?_; intro w1 hown hgrow; rw [tc_made, ← upTo_zero F0] at hown; have H1 := Lib.hid hown; have G1 := Lib.hid hgrow; clear hown hgrow)
  have B1 := Lib.hid ((Below.refl w.heap.size w).grown G1.out (Nat.le_refl _) (by intro k hk; cases hk))
  clear G1
  go_loopw [6, 7, 13] (fun _ _ c wr => ∃ j : Nat, j ≤ n ∧ c = .int .i64 j ∧ Hid (wr.ownsRow w.heap.size 91 2 (.slice (some ⟨w.heap.size, 0, none⟩) n n) n (tc (upTo F0 j) n)) ∧ Hid (Below w.heap.size w wr)) (fun _ _ c _ => n - (intOf c).toNat)
  case atStart => exact ⟨0, by omega, rfl, H1, B1⟩
  case round =>
    clear H1 B1
    obtain ⟨j, hj, rfl, ho, hb⟩ := hrel
    by_cases hlt : j < n
    · have hlt' : (j : Int) < (n : Int) := by omega
      obtain ⟨b, rfl, c0, c1⟩ := (HV.out.up hb.out).at hlt
      have rj := HR.out j hlt
      have AD := Lib.hid (remainder_any g S (R j) _ ((HS.out.up hb.out).up ((Below.refl wr.heap.size wr).alloc (Nat.le_refl _) (.cells #[.int .i64 (((R j).1 : Nat) : Int), .int .i64 (((R j).2 : Nat) : Int)] 91))) HP.out rj)
      have EL := Lib.hid (HF.out j)
      have HO := Lib.hid (own_below ho.out ((Below.refl wr.heap.size wr).alloc (Nat.le_refl _) (.cells #[.int .i64 (((R j).1 : Nat) : Int), .int .i64 (((R j).2 : Nat) : Int)] 91)))
      have GA := Lib.hid (hb.out.alloc hb.out.size (.cells #[.int .i64 (((R j).1 : Nat) : Int), .int .i64 (((R j).2 : Nat) : Int)] 91))
      clear ho hb rj
      unfold tv at AD
      generalize R j = r at *
      go_wp2_with fail
      refine AD.out.mono ?_
      rintro e w2 ⟨rfl, k2⟩
      have HO2 := Lib.hid (own_below HO.out k2)
      have GA2 := Lib.hid (GA.out.trans (k2.mono GA.out.size))
      clear k2 AD HO GA c0 c1
      generalize rmd S r 60 = l at *
      have x0 := HO2.out.cellAt (j * 2) (by omega)
      have x1 := HO2.out.cellAt (j * 2 + 1) (by omega)
      rw [tc_at0 _ _ _ hlt] at x0
      rw [tc_at1 _ _ _ hlt] at x1
      have f0 := HO2.out.frozenAt (j * 2)
      have f1 := HO2.out.frozenAt (j * 2 + 1)
      have O3 := ((HO2.out.stored (j * 2) (.int .i64 ((l.1 : Nat) : Int))).1.stored (j * 2 + 1) (.int .i64 ((l.2 : Nat) : Int))).1
      rw [tc_set, EL.out, upTo_succ] at O3
      rw [← EL.out] at O3
      have O3 := Lib.hid O3
      have G3 := Lib.hid ((GA2.out.setCell (p := ⟨w.heap.size, j * 2, none⟩) (Nat.le_refl _) (.int .i64 ((l.1 : Nat) : Int))).setCell (p := ⟨w.heap.size, j * 2 + 1, none⟩) (Nat.le_refl _) (.int .i64 ((l.2 : Nat) : Int)))
      clear HO2 GA2
      generalize (upTo F0 j j).1 = y0 at x0
      generalize (upTo F0 j j).2 = y1 at x1
      go_wp2
      go_roundw
      case rel => exact ⟨j + 1, by omega, by go_num, O3, G3⟩
      case measure => simp [intOf]; omega
    · obtain rfl : j = n := by omega
      have E : Hid (tc (upTo F0 j) j = tc F0 j) := Lib.hid (tc_congr fun i hi => by unfold upTo; rw [if_pos hi])
      go_wp2
      go_ret
      exact ⟨_, rfl, by rw [← E.out]; exact ho.out, hb.out⟩
end Go.Proofs.YtdojblmffmefgaaDoor
