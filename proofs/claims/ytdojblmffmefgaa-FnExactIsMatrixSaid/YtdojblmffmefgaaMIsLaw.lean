/-
  The walk of laws.FnExactIsMatrix.
-/
import Derived.Test.YtdojblmffmefgaaMIs
import Derived.Deep.RegionWith
namespace Go.Proofs.Ytdojblmffmefgaa
open Go.RowKit
set_option linter.unusedVariables false

theorem specIsMatrix_any (c : Int) (s : Value) (n : Nat) (G : Nat → Int) (w : World) (h : RdI w s n G) :
    Calls Try.prog 10 #[.agg #[.int .i64 c, s]] w fun e w' => e = .returned (.bool (isMat c n G)) ∧ Below w.heap.size w w' := by
  have B0 : Hid (Below w.heap.size w (w.alloc (.cells #[.int .i64 c, s] 27))) := Lib.hid ((Below.refl w.heap.size w).alloc (Nat.le_refl _) _)
  have S := Lib.hid (fun w' h => specIs_any c s n G w' h)
  have R := Lib.hid (h.below B0.out)
  clear h
  have t2 := Try.underlying27
  go_enter Try.func10, Try.ntmps10
  go_wp2_with fail
  refine (S.out _ R.out).mono ?_
  rintro e w2 ⟨rfl, b2⟩
  have B2 := Lib.hid (B0.out.trans (b2.mono B0.out.size))
  go_wp2_with fail
  go_ret
  exact ⟨rfl, B2.out⟩

theorem walk_FnExactIsMatrix (c0 : Int) (a0 : Option Addr) (len0 cap0 : Nat) (z0 : List Int) (w : World) (w0 : IsRow .i64 w a0 len0 cap0 z0) :
    Calls Try.prog 3 #[.agg #[.int .i64 c0, .slice a0 len0 cap0]] w fun e w' => e = .returned (.bool true) ∧ Below w.heap.size w w' := by
  have hr := w0.rd
  clear w0
  generalize (fun i => z0.getD i 0) = G at hr
  have hm : len0 ≤ maxLen := by obtain ⟨_, _, e, hm, _⟩ := hr; cases e; exact hm
  have t1 := Try.underlying24
  have t2 := Try.underlying27
  have B0 : Hid (Below w.heap.size w (w.alloc (.cells #[.int .i64 c0, .slice a0 len0 cap0] 24))) := Lib.hid ((Below.refl w.heap.size w).alloc (Nat.le_refl _) _)
  have BX : Hid (Box (w.alloc (.cells #[.int .i64 c0, .slice a0 len0 cap0] 24)) w.heap.size 24 (.int .i64 c0) (.slice a0 len0 cap0)) := Lib.hid (Box.new w _ _ _)
  have R0 := Lib.hid (hr.below B0.out)
  clear hr
  by_cases hbig : len0 ≤ 1048576
  · have hge : ¬ (1048576 : Int) - (len0 : Int) < 0 := by omega
    go_enter Try.func3, Try.ntmps3
    go_wp2_with fail
    generalize (w.alloc (.cells #[.int .i64 c0, .slice a0 len0 cap0] 24)) = w1 at *
    refine (szMatrix_yes c0 a0 len0 cap0 1048576 w1 (by omega) (by omega)).mono ?_
    rintro e w2 ⟨rfl, b2⟩
    have B2 := Lib.hid (B0.out.trans (b2.mono B0.out.size))
    have BX2 := Lib.hid (BX.out.up b2)
    have R2 := Lib.hid (R0.out.below b2)
    have d0 := BX2.out.c0
    have d1 := BX2.out.c1
    clear b2 B0 BX R0
    go_wp2_with fail
    refine (toMatrix_any c0 _ len0 G w2 (by omega) R2.out).mono ?_
    rintro e w3 ⟨u3, rfl, o3, b3⟩
    have R3 := Lib.hid ((rd_of_own o3 (cpy_length G len0 len0).symm).congr (cpy_get G len0))
    have B3 := Lib.hid (B2.out.trans (b3.mono B2.out.size))
    have BX3 := Lib.hid (BX2.out.up b3)
    have R0 := Lib.hid (R2.out.below b3)
    clear o3 b3 B2 BX2 R2 d0 d1
    go_wp2_with fail
    refine (specIsMatrix_any c0 u3 len0 G w3 R3.out).mono ?_
    rintro e w4 ⟨rfl, b4⟩
    have B4 := Lib.hid (B3.out.trans (b4.mono B3.out.size))
    have BX4 := Lib.hid (BX3.out.up b4)
    have R4 := Lib.hid (R0.out.below b4)
    have d0 := BX4.out.c0
    have d1 := BX4.out.c1
    clear b4 B3 BX3 R3 R0
    go_wp2_with fail
    refine (toMatrix_any c0 _ len0 G w4 (by omega) R4.out).mono ?_
    rintro e w5 ⟨u5, rfl, o5, b5⟩
    have R5 := Lib.hid ((rd_of_own o5 (cpy_length G len0 len0).symm).congr (cpy_get G len0))
    have B5 := Lib.hid (B4.out.trans (b5.mono B4.out.size))
    have BX5 := Lib.hid (BX4.out.up b5)
    have R0 := Lib.hid (R4.out.below b5)
    obtain ⟨ua, ucap, rfl⟩ := o5.shape
    clear o5 b5 B4 BX4 R4 d0 d1
    go_wp2_with fail
    have B6 : Hid (Below w.heap.size w (w5.alloc (.cells #[.int .i64 c0, .slice ua len0 ucap] 27))) := Lib.hid (B5.out.trans ((Below.refl w5.heap.size w5).alloc (Nat.le_refl _) _ |>.mono B5.out.size))
    have R6 : Hid (RdI (w5.alloc (.cells #[.int .i64 c0, .slice ua len0 ucap] 27)) (.slice ua len0 ucap) len0 G) := Lib.hid (R5.out.below ((Below.refl w5.heap.size w5).alloc (Nat.le_refl _) _))
    have S6 : Hid (RdI (w5.alloc (.cells #[.int .i64 c0, .slice ua len0 ucap] 27)) (.slice a0 len0 cap0) len0 G) := Lib.hid (R0.out.below ((Below.refl w5.heap.size w5).alloc (Nat.le_refl _) _))
    have BX6 : Hid (Box (w5.alloc (.cells #[.int .i64 c0, .slice ua len0 ucap] 27)) w.heap.size 24 (.int .i64 c0) (.slice a0 len0 cap0)) := Lib.hid (BX5.out.alloc _)
    have BY6 : Hid (Box (w5.alloc (.cells #[.int .i64 c0, .slice ua len0 ucap] 27)) w5.heap.size 27 (.int .i64 c0) (.slice ua len0 ucap)) := Lib.hid (Box.new _ _ _ _)
    clear B5 R5 R0 BX5
    generalize (w5.alloc (.cells #[.int .i64 c0, .slice ua len0 ucap] 27)) = w6 at *
    refine (implIs_any c0 _ len0 G w6 R6.out).mono ?_
    rintro e w7 ⟨rfl, b7⟩
    have B7 := Lib.hid (B6.out.trans (b7.mono B6.out.size))
    have BX7 := Lib.hid (BX6.out.up b7)
    have BY7 := Lib.hid (BY6.out.up b7)
    have R7 := Lib.hid (R6.out.below b7)
    have S7 := Lib.hid (S6.out.below b7)
    have d0 := BX7.out.c0
    have d1 := BX7.out.c1
    have e0 := BY7.out.c0
    have e1 := BY7.out.c1
    clear b7 B6 R6 S6 BX6 BY6
    go_wp2_with fail
    go_region_with (first | (go_at_call 11; refine (toMatrix_any c0 _ len0 G _ (by omega) (S7.out.drewN 1)).mono ?_; rintro e w8 ⟨u8, rfl, o8, b8⟩; have r8 := (rd_of_own o8 (cpy_length G len0 len0).symm).congr (cpy_get G len0); have q8 := (R7.out.drewN 1).below b8; have x8 := ((BY7.out.drewN 1).up b8).c0; have y8 := ((BY7.out.drewN 1).up b8).c1; have z8 := B7.out.drew.trans (b8.mono B7.out.size)) | (go_at_call 13; refine (eqMatrix_same c0 _ _ len0 G _ ?_ ?_).mono ?_; assumption; assumption; rintro e w9 ⟨rfl, b9⟩))
    all_goals
      rename_i z8
      have B9 := Lib.hid (z8.trans (b9.mono z8.size))
      go_wp2_with fail
      go_ret
      exact ⟨rfl, B9.out⟩
  · have hlt : (1048576 : Int) < (len0 : Int) := by omega
    go_enter Try.func3, Try.ntmps3
    go_wp2_with fail
    refine (szMatrix_no c0 a0 len0 cap0 1048576 _ hlt (by omega) hm).mono ?_
    rintro e w2 ⟨rfl, b2⟩
    have B2 := Lib.hid (B0.out.trans (b2.mono B0.out.size))
    go_wp2_with fail
    go_ret
    exact ⟨rfl, B2.out⟩
end Go.Proofs.Ytdojblmffmefgaa
