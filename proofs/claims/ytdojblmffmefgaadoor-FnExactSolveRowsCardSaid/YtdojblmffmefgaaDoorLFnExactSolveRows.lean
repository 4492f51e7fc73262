/-
  The walk of laws.FnExactSolveRows.
-/
import Derived.Test.YtdojblmffmefgaaDoorDSolB
import Derived.Test.YtdojblmffmefgaaDoorMLaw
namespace Go.Proofs.YtdojblmffmefgaaDoor
open Go.RowKit
set_option linter.unusedVariables false
set_option maxRecDepth 100000

theorem walk_FnExactSolveRows (c0 : Int) (a0 : Option Addr) (len0 cap0 : Nat) (z0 : List Int) (x0 : Int) (w : World) (w0 : IsRow .i64 w a0 len0 cap0 z0) (wx0 : (Lit.int .i64 x0).wf = true) (hT : T0 w) :
    Calls Tryd.prog 10 #[.agg #[.int .i64 c0, .slice a0 len0 cap0], .int .i64 x0] w fun e w' => e = .returned (.bool true) ∧ Below w.heap.size w w' := by
  have hr := w0.rd
  have HT := Lib.hid hT
  clear hT
  clear w0
  clear wx0
  generalize (fun i => z0.getD i 0) = G at hr
  have hm : len0 ≤ maxLen := by obtain ⟨_, _, e, hm, _⟩ := hr; cases e; exact hm
  have t1 := Tryd.underlying58
  have t2 := Tryd.underlying26
  by_cases hbig : len0 ≤ 1048576
  · have hge : ¬ (1048576 : Int) - (len0 : Int) < 0 := by omega
    obtain ⟨v, cd, SP, IM⟩ := SolveRows_both c0 len0 G x0
    have SP := Lib.hid SP
    have IM := Lib.hid IM
    have S1 : Hid (StA w c0 a0 len0 cap0 G (w.alloc (.cells #[.int .i64 c0, .slice a0 len0 cap0] 58))) := Lib.hid (StA.start hr)
    clear hr
    go_enter Tryd.func10, Tryd.ntmps10
    go_wp2_with fail
    generalize (w.alloc (.cells #[.int .i64 c0, .slice a0 len0 cap0] 58)) = w1 at *
    refine (szMatrix_yes c0 a0 len0 cap0 1048576 w1 (by omega) (by omega)).mono ?_
    rintro e w2 ⟨rfl, b2⟩
    have S2 := Lib.hid (S1.out.up b2)
    have d0 := S2.out.box.c0
    have d1 := S2.out.box.c1
    clear b2 S1
    go_wp2_with fail
    refine (toMatrix_any c0 _ len0 G w2 (by omega) S2.out.rd).mono ?_
    rintro e w3 ⟨u3, rfl, o3, b3⟩
    have S3 := Lib.hid (S2.out.up b3)
    clear S2 d0 d1
    go_wp2_with fail
    refine (SP.out w3 u3 ((rd_of_own o3 (cpy_length G len0 len0).symm).congr (cpy_get G len0))).mono ?_
    rintro e w4 ⟨rfl, b4⟩
    have S4 := Lib.hid (S3.out.up b4)
    have d0 := S4.out.box.c0
    have d1 := S4.out.box.c1
    clear o3 b3 b4 S3
    go_wp2_with fail
    refine (toMatrix_any c0 _ len0 G w4 (by omega) S4.out.rd).mono ?_
    rintro e w6 ⟨u6, rfl, o6, b6⟩
    obtain ⟨ua6, uc6, rfl⟩ := o6.shape
    have S6 := Lib.hid (S4.out.up b6)
    have O6 := Lib.hid (own_base o6 S4.out.bel.size)
    clear b6 o6 S4 d0 d1
    go_wp2_with fail
    have A7 : ∃ w7, w7 = w6.alloc (.cells #[.int .i64 c0, .slice ua6 len0 uc6] 26) := ⟨_, rfl⟩
    obtain ⟨w7, hw7⟩ := A7
    have S7 : Hid (StA w c0 a0 len0 cap0 G w7) := Lib.hid (by rw [hw7]; exact S6.out.alloc _)
    have Q7 : Hid (OwnB w w6.heap.size c0 (.slice ua6 len0 uc6) (cpy G len0 len0) w7) := Lib.hid (by rw [hw7]; exact OwnB.start' S6.out.bel.size O6.out (cpy_length ..))
    rw [← hw7]
    clear hw7 S6 O6
    generalize w6.heap.size = g6 at *
    have R7 := Lib.hid (Q7.out.rdc)
    refine (IM.out w7 _ R7.out (HT.out.below S7.out.bel)).mono ?_
    rintro e w10 ⟨rfl, b8⟩
    have S10 := Lib.hid (S7.out.up b8)
    have Q10 := Lib.hid (Q7.out.up b8)
    clear b8 S7 Q7 R7
    have R10 := Lib.hid Q10.out.rdc
    have KEEP : Hid (∀ wx, Below w10.heap.size w10 wx → (wx.cell? ⟨g6, 0, none⟩ = some (.int .i64 c0) ∧ wx.cell? ⟨g6, 1, none⟩ = some (.slice ua6 len0 uc6) ∧ wx.cell? ⟨w.heap.size, 0, none⟩ = some (.int .i64 c0) ∧ wx.cell? ⟨w.heap.size, 1, none⟩ = some (.slice a0 len0 cap0) ∧ Below w10.heap.size w10 wx)) :=
      Lib.hid (fun wx hb => ⟨(Q10.out.box.up hb).c0, (Q10.out.box.up hb).c1, (S10.out.box.up hb).c0, (S10.out.box.up hb).c1, hb⟩)
    go_wp2_with fail
    go_region_held3 (fun wx => wx.cell? ⟨g6, 0, none⟩ = some (.int .i64 c0) ∧ wx.cell? ⟨g6, 1, none⟩ = some (.slice ua6 len0 uc6) ∧ wx.cell? ⟨w.heap.size, 0, none⟩ = some (.int .i64 c0) ∧ wx.cell? ⟨w.heap.size, 1, none⟩ = some (.slice a0 len0 cap0) ∧ Below w10.heap.size w10 wx)
      (first | exact KEEP.out _ (Below.refl _ _).drew | exact KEEP.out _ (by assumption))
      (first | (go_at_call 60; refine (toMatrix_any c0 _ len0 G _ (by omega) (S10.out.rd.drewN 1)).mono ?_; rintro e w11 ⟨u11, rfl, o11, b11⟩; have r11 := (rd_of_own o11 (cpy_length G len0 len0).symm).congr (cpy_get G len0); have q11 := (R10.out.drewN 1).below b11; have z11 := below_drew1 b11) | (go_at_call 61; refine (eqMatrix_same c0 _ _ len0 G _ ?_ ?_).mono ?_; assumption; assumption; rintro e w12 ⟨rfl, b12⟩; have Z12 := z11.trans (b12.mono z11.size)))
    have B12 := Lib.hid (S10.out.bel.trans (Z12.mono S10.out.bel.size))
    clear Z12 z11 b11 b12 r11 q11 o11 S10 Q10 R10 KEEP
    go_wp2_with fail
    go_ret
    exact ⟨rfl, B12.out⟩
  · have hlt : (1048576 : Int) < (len0 : Int) := by omega
    have B0 : Hid (Below w.heap.size w (w.alloc (.cells #[.int .i64 c0, .slice a0 len0 cap0] 58))) := Lib.hid ((Below.refl w.heap.size w).alloc (Nat.le_refl _) _)
    go_enter Tryd.func10, Tryd.ntmps10
    go_wp2_with fail
    refine (szMatrix_no c0 a0 len0 cap0 1048576 _ hlt (by omega) hm).mono ?_
    rintro e w2 ⟨rfl, b2⟩
    have B2 := Lib.hid (B0.out.trans (b2.mono B0.out.size))
    go_wp2_with fail
    go_ret
    exact ⟨rfl, B2.out⟩
end Go.Proofs.YtdojblmffmefgaaDoor
