/-
  Contract of (*impl.rowSpace).remainder.
-/
import Derived.Test.YtdojblmffmefgaaDoorDTz
import Derived.BigRegion
namespace Go.Proofs.YtdojblmffmefgaaDoor
open Go.RowKit
set_option linter.unusedVariables false
set_option maxRecDepth 100000

theorem digitN_any (x j : Nat) (w : World) (h : x < 2 ^ 60) (hj : j < 60) :
    Calls Tryd.prog 84 #[.int .i64 x, .int .i64 j] w fun e w' => e = .returned (.int .i64 (if x.testBit j then 1 else 0)) ∧ w = w' := by
  rw [← digit_test x j h hj]
  exact digit_any x j w (by omega)

/-- Bounds of an array of rows. -/
def okS (S : Nat → TR) : Prop := ∀ j, j < 60 → (S j).1 < 2 ^ 60 ∧ (S j).2 < 2 ^ 60
theorem rmd_ok {S : Nat → TR} (h : okS S) (r : TR) (h1 : r.1 < 2 ^ 60 ∧ r.2 < 2 ^ 60) (k : Nat) (hk : k ≤ 60) : (rmd S r k).1 < 2 ^ 60 ∧ (rmd S r k).2 < 2 ^ 60 := by
  induction k with
  | zero => exact h1
  | succ k ih =>
    obtain ⟨a, b⟩ := ih (by omega)
    rw [rmd_succ]; unfold stp
    split
    · exact ⟨Nat.xor_lt_two_pow a (h k (by omega)).1, Nat.xor_lt_two_pow b (h k (by omega)).2⟩
    · exact ⟨a, b⟩

set_option maxHeartbeats 2000000 in
theorem remainder_any (g : Nat) (S : Nat → TR) (r : TR) (w : World) (hS : Sp w g S) (ok : okS S) (hr : r.1 < 2 ^ 60 ∧ r.2 < 2 ^ 60) :
    Calls Tryd.prog 90 #[.pointer (some ⟨g, 0, none⟩), tv r] w fun e w' => e = .returned (tv (rmd S r 60)) ∧ Below w.heap.size w w' := by
  have HS := Lib.hid hS
  have OK := Lib.hid ok
  have HR := Lib.hid hr
  have t3 := Tryd.underlying91
  have t4 := Tryd.underlying94
  have GL := Lib.hid hS.lt
  have B2 : Hid (Below w.heap.size w ((w.alloc (.cells #[.int .i64 ((r.1 : Nat) : Int), .int .i64 ((r.2 : Nat) : Int)] 91)).alloc (.cells #[.int .i64 0, .int .i64 0] 91))) := Lib.hid (((Below.refl w.heap.size w).alloc (Nat.le_refl _) _).alloc (by simp) _)
  have XA : Hid (Box ((w.alloc (.cells #[.int .i64 ((r.1 : Nat) : Int), .int .i64 ((r.2 : Nat) : Int)] 91)).alloc (.cells #[.int .i64 0, .int .i64 0] 91)) w.heap.size 91 (.int .i64 ((r.1 : Nat) : Int)) (.int .i64 ((r.2 : Nat) : Int))) := Lib.hid ((Box.new w _ _ _).alloc _)
  have XR : Hid (Box ((w.alloc (.cells #[.int .i64 ((r.1 : Nat) : Int), .int .i64 ((r.2 : Nat) : Int)] 91)).alloc (.cells #[.int .i64 0, .int .i64 0] 91)) (w.heap.size + 1) 91 (.int .i64 0) (.int .i64 0)) := Lib.hid (by have := Box.new (w.alloc (.cells #[.int .i64 ((r.1 : Nat) : Int), .int .i64 ((r.2 : Nat) : Int)] 91)) 91 (.int .i64 0) (.int .i64 0); simpa using this)
  clear hS ok hr
  unfold tv
  go_enter Tryd.func90, Tryd.ntmps90
  go_wp2_with fail
  generalize ((w.alloc (.cells #[.int .i64 ((r.1 : Nat) : Int), .int .i64 ((r.2 : Nat) : Int)] 91)).alloc (.cells #[.int .i64 0, .int .i64 0] 91)) = w2 at *
  go_loopw [5, 6, 9] (fun _ _ c wr => ∃ j : Nat, j ≤ 60 ∧ c = .int .i64 j ∧ Hid (Below w.heap.size w wr) ∧ Hid (Box wr w.heap.size 91 (.int .i64 (((rmd S r j).1 : Nat) : Int)) (.int .i64 (((rmd S r j).2 : Nat) : Int))) ∧ Hid (Box wr (w.heap.size + 1) 91 (.int .i64 0) (.int .i64 0))) (fun _ _ c _ => 60 - (intOf c).toNat)
  case atStart => exact ⟨0, by omega, rfl, B2, XA, XR⟩
  case round =>
    clear B2 XA XR
    obtain ⟨j, hj, rfl, B, XA, XR⟩ := hrel
    by_cases hlt : j < 60
    · have hlt' : (j : Int) < 60 := by omega
      have SJ := HS.out.below B.out GL.out
      have c0 := SJ.c0 j hlt
      have c1 := SJ.c1 j hlt
      have SZ0 := SJ.up ((Below.refl wr.heap.size wr).alloc (Nat.le_refl _) (.cells #[.int .i64 0, .int .i64 0] 91))
      have c0' := SZ0.c0 j hlt
      have c1' := SZ0.c1 j hlt
      have okj := OK.out j hlt
      have rj := rmd_ok OK.out r HR.out j hj
      have HN := Lib.hid (rmd_succ S r j)
      generalize rmd S r j = q at *
      have PL := Lib.hid (fun w => plus_any q (S j) w rj okj)
      have DG := Lib.hid (fun w => digitN_any q.1 j w rj.1 hlt)
      generalize S j = o at *
      clear okj rj SJ SZ0
      have xa0 := XA.out.c0
      have xa1 := XA.out.c1
      have xa0' := (XA.out.alloc (.cells #[.int .i64 ((o.1 : Nat) : Int), .int .i64 ((o.2 : Nat) : Int)] 91)).c0
      have xa1' := (XA.out.alloc (.cells #[.int .i64 ((o.1 : Nat) : Int), .int .i64 ((o.2 : Nat) : Int)] 91)).c1
      go_wp2_with fail
      go_region
      have B5 : Hid (Below w.heap.size w ((wr.alloc (.cells #[.int .i64 ((o.1 : Nat) : Int), .int .i64 ((o.2 : Nat) : Int)] 91)).drew)) := Lib.hid (B.out.alloc B.out.size _).drew
      have XA5 : Hid (Box ((wr.alloc (.cells #[.int .i64 ((o.1 : Nat) : Int), .int .i64 ((o.2 : Nat) : Int)] 91)).drew) w.heap.size 91 (.int .i64 ((q.1 : Nat) : Int)) (.int .i64 ((q.2 : Nat) : Int))) := Lib.hid (XA.out.alloc _)
      have XR5 : Hid (Box ((wr.alloc (.cells #[.int .i64 ((o.1 : Nat) : Int), .int .i64 ((o.2 : Nat) : Int)] 91)).drew) (w.heap.size + 1) 91 (.int .i64 0) (.int .i64 0)) := Lib.hid (XR.out.alloc _)
      have XO5 : Hid (Box ((wr.alloc (.cells #[.int .i64 ((o.1 : Nat) : Int), .int .i64 ((o.2 : Nat) : Int)] 91)).drew) wr.heap.size 91 (.int .i64 ((o.1 : Nat) : Int)) (.int .i64 ((o.2 : Nat) : Int))) := Lib.hid (Box.new wr _ _ _)
      have GE : Hid (w.heap.size + 1 < wr.heap.size) := Lib.hid XR.out.lt
      clear xa0 xa1 xa0' xa1' c0 c1 c0' c1' XA XR B
      generalize ((wr.alloc (.cells #[.int .i64 ((o.1 : Nat) : Int), .int .i64 ((o.2 : Nat) : Int)] 91)).drew) = w5 at *
      generalize wr.heap.size = go at *
      have xo0 := XO5.out.c0
      have xo1 := XO5.out.c1
      have xa0 := XA5.out.c0
      have xa1 := XA5.out.c1
      by_cases h0 : o.1 = 0
      · have hb : (((o.1 : Nat) : Int) != 0) = false := by rw [h0]; rfl
        have HM : Hid (rmd S r (j + 1) = q) := Lib.hid (by rw [HN.out]; unfold stp; rw [if_neg (fun h => h.1 h0)])
        clear h0 HN
        go_wp2
        go_roundw
        case rel => exact ⟨j + 1, by omega, by go_num, B5, by rw [HM.out]; exact XA5, XR5⟩
        case measure => simp [intOf]; omega
      · have hb : (((o.1 : Nat) : Int) != 0) = true := by rw [bne_iff_ne]; omega
        cases ht : q.1.testBit j with
        | false =>
          have HM : Hid (rmd S r (j + 1) = q) := Lib.hid (by rw [HN.out]; unfold stp; rw [if_neg (fun h => by rw [ht] at h; cases h.2)])
          rw [ht] at DG
          clear h0 HN ht
          go_wp2_with (go_at_call 84; refine (DG.out _).mono ?_; rintro e w' ⟨rfl, rfl⟩)
          go_roundw
          case rel => exact ⟨j + 1, by omega, by go_num, B5, by rw [HM.out]; exact XA5, XR5⟩
          case measure => simp [intOf]; omega
        | true =>
          have HM : Hid (rmd S r (j + 1) = addTR q o) := Lib.hid (by rw [HN.out]; unfold stp; rw [if_pos ⟨h0, ht⟩])
          rw [ht] at DG
          clear h0 HN ht
          go_wp2_with (go_at_call 84; refine (DG.out _).mono ?_; rintro e w' ⟨rfl, rfl⟩)
          refine (PL.out w5).mono ?_
          rintro e w6 ⟨rfl, b6⟩
          have B6 := Lib.hid (B5.out.trans (b6.mono B5.out.size))
          have XA6 := Lib.hid (XA5.out.up b6)
          have XR6 := Lib.hid (XR5.out.up b6)
          clear b6 xo0 xo1 xa0 xa1
          have xa0 := XA6.out.c0
          have xa1 := XA6.out.c1
          have fa0 := XA6.out.fr 0
          have fa1 := XA6.out.fr 1
          have XA7 := Lib.hid ((XA6.out.set0 (.int .i64 (((addTR q o).1 : Nat) : Int))).set1 (.int .i64 (((addTR q o).2 : Nat) : Int)))
          have XR7 := Lib.hid ((XR6.out.other ⟨w.heap.size, 0, none⟩ (.int .i64 (((addTR q o).1 : Nat) : Int)) (by simp)).other ⟨w.heap.size, 1, none⟩ (.int .i64 (((addTR q o).2 : Nat) : Int)) (by simp))
          have B7 := Lib.hid ((B6.out.setCell (p := ⟨w.heap.size, 0, none⟩) (Nat.le_refl _) (.int .i64 (((addTR q o).1 : Nat) : Int))).setCell (p := ⟨w.heap.size, 1, none⟩) (Nat.le_refl _) (.int .i64 (((addTR q o).2 : Nat) : Int)))
          unfold tv
          generalize (addTR q o) = q2 at *
          go_wp2
          go_roundw
          case rel => exact ⟨j + 1, by omega, by go_num, B7, by rw [HM.out]; exact XA7, XR7⟩
          case measure => simp [intOf]; omega
    · obtain rfl : j = 60 := by omega
      have xa0 := XA.out.c0
      have xa1 := XA.out.c1
      have xr0 := XR.out.c0
      have xr1 := XR.out.c1
      have fr0 := XR.out.fr 0
      have fr1 := XR.out.fr 1
      have F1 := Lib.hid ((XR.out.set0 (.int .i64 (((rmd S r 60).1 : Nat) : Int))).set1 (.int .i64 (((rmd S r 60).2 : Nat) : Int)))
      have F2 := Lib.hid ((B.out.setCell (p := ⟨w.heap.size + 1, 0, none⟩) (by simp) (.int .i64 (((rmd S r 60).1 : Nat) : Int))).setCell (p := ⟨w.heap.size + 1, 1, none⟩) (by simp) (.int .i64 (((rmd S r 60).2 : Nat) : Int)))
      generalize hq : rmd S r 60 = q at *
      have HQ := Lib.hid hq
      clear hq
      go_wp2
      refine bodyPost_ret (results_cell_row rfl _ _ (w.heap.size + 1) 91 _ (0, 0) _ rfl F1.out t3 rfl (by kernel_rfl)) rfl ?_
      exact ⟨by rw [HQ.out], F2.out⟩
end Go.Proofs.YtdojblmffmefgaaDoor
