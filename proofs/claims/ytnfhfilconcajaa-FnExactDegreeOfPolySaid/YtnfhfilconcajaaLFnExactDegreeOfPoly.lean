/-
  The walk of laws.FnExactDegreeOfPoly.
-/
import Derived.Test.YtnfhfilconcajaaYDeg
import Derived.Test.YtnfhfilconcajaaYLaw2
namespace Go.Proofs.Ytnfhfilconcajaa.Pl
open Go.RowKit
set_option linter.unusedVariables false
set_option maxRecDepth 100000

theorem walk_FnExactDegreeOfPoly (c0 : Int) (a0 : Option Addr) (len0 cap0 : Nat) (z0 : Nat → List Int) (w : World) (w0 : IsRows w a0 len0 cap0 z0) :
    Calls Try.prog 6 #[.agg #[.int .i64 c0, .slice a0 len0 cap0]] w fun e w' => e = .returned (.bool true) ∧ Below w.heap.size w w' := by
  have hr : RdSS w (.slice a0 len0 cap0) len0 z0 := w0
  clear w0
  have t1 := Try.underlying24
  have t2 := Try.underlying27
  have B0 : Hid (Below w.heap.size w (w.alloc (.cells #[.int .i64 c0, .slice a0 len0 cap0] 24))) := Lib.hid ((Below.refl w.heap.size w).alloc (Nat.le_refl _) _)
  have BX : Hid (Box (w.alloc (.cells #[.int .i64 c0, .slice a0 len0 cap0] 24)) w.heap.size 24 (.int .i64 c0) (.slice a0 len0 cap0)) := Lib.hid (Box.new w _ _ _)
  have R0 := Lib.hid (hr.below B0.out)
  clear hr
  by_cases hbig : len0 + tot z0 len0 ≤ 1048576
  · obtain ⟨x, cd, S, I⟩ := DegP_both c0 z0 len0
    have S := Lib.hid S
    have I := Lib.hid I
    have HX : Hid (∀ i, i < len0 → (z0 i).length ≤ 1048576) := Lib.hid (fun i hi => by have := tot_one z0 i len0 hi; omega)
    have hm : len0 ≤ 1048576 := by omega
    go_enter Try.func6, Try.ntmps6
    go_wp2_with fail
    generalize (w.alloc (.cells #[.int .i64 c0, .slice a0 len0 cap0] 24)) = w1 at *
    have SZ := Lib.hid (szPoly_yes c0 _ len0 z0 1048576 w1 R0.out (by omega) hbig)
    have hge : ¬ ((1048576 : Nat) : Int) - ((len0 + tot z0 len0 : Nat) : Int) < 0 := by omega
    generalize ((1048576 : Nat) : Int) - ((len0 + tot z0 len0 : Nat) : Int) = lf at SZ hge
    clear hbig
    refine SZ.out.mono ?_
    rintro e w2 ⟨rfl, b2⟩
    have B2 := Lib.hid (B0.out.trans (b2.mono B0.out.size))
    have BX2 := Lib.hid (BX.out.up b2)
    have R2 := Lib.hid (R0.out.below b2)
    have d0 := BX2.out.c0
    have d0b := BX2.out.c1
    clear b2 B0 BX R0 SZ
    go_wp2_with fail
    refine (toPoly_any c0 _ len0 z0 w2 hm HX.out R2.out).mono ?_
    rintro e w3 ⟨u3, us3, rfl, f3, b3, _⟩
    have F3 := Lib.hid f3.rdss
    have B3 := Lib.hid (B2.out.trans (b3.mono B2.out.size))
    have BX3 := Lib.hid (BX2.out.up b3)
    have R3 := Lib.hid (R2.out.below b3)
    clear f3 b3 B2 BX2 R2 d0 d0b
    go_wp2_with fail
    refine (S.out u3 w3 F3.out).mono ?_
    rintro e w4 ⟨rfl, b4⟩
    have B4 := Lib.hid (B3.out.trans (b4.mono B3.out.size))
    have BX4 := Lib.hid (BX3.out.up b4)
    have R4 := Lib.hid (R3.out.below b4)
    have d0 := BX4.out.c0
    have d0b := BX4.out.c1
    clear b4 B3 BX3 R3 F3
    go_wp2_with fail
    refine (toPoly_any c0 _ len0 z0 w4 hm HX.out R4.out).mono ?_
    rintro e w5 ⟨u5, us5, rfl, f5, b5, _⟩
    obtain ⟨ua, uc, rfl, _⟩ := f5.head
    have F5 := Lib.hid (f5.base (Nat.zero_le _))
    have B5 := Lib.hid (B4.out.trans (b5.mono B4.out.size))
    have BX5 := Lib.hid (BX4.out.up b5)
    have R5 := Lib.hid (R4.out.below b5)
    clear f5 b5 B4 BX4 R4 d0 d0b
    go_wp2_with fail
    have b6 : Below w5.heap.size w5 (w5.alloc (.cells #[.int .i64 c0, .slice ua len0 uc] 27)) := (Below.refl _ _).alloc (Nat.le_refl _) _
    have BY6 : Hid (Box (w5.alloc (.cells #[.int .i64 c0, .slice ua len0 uc] 27)) w5.heap.size 27 (.int .i64 c0) (.slice ua len0 uc)) := Lib.hid (Box.new _ _ _ _)
    have B6 := Lib.hid (B5.out.trans (b6.mono B5.out.size))
    have BX6 := Lib.hid (BX5.out.up b6)
    have F6 := Lib.hid (F5.out.below b6)
    have R6 := Lib.hid (R5.out.below b6)
    clear b6 B5 BX5 R5 F5
    generalize (w5.alloc (.cells #[.int .i64 c0, .slice ua len0 uc] 27)) = w6 at *
    refine (I.out _ w6 F6.out.rdss).mono ?_
    rintro e w7 ⟨rfl, b7⟩
    have BX7 := Lib.hid (BX6.out.up b7)
    have BY7 := Lib.hid (BY6.out.up b7)
    have F7 := Lib.hid (F6.out.below b7)
    have R7 := Lib.hid (R6.out.below b7)
    have B7 := Lib.hid (B6.out.trans (b7.mono B6.out.size))
    clear b7 B6 BX6 BY6 R6 F6
    have KEEP : Hid (∀ wx, Below w7.heap.size w7 wx → (wx.cell? ⟨w5.heap.size, 0, none⟩ = some (.int .i64 c0) ∧ wx.cell? ⟨w5.heap.size, 1, none⟩ = some (.slice ua len0 uc) ∧ wx.cell? ⟨w.heap.size, 0, none⟩ = some (.int .i64 c0) ∧ wx.cell? ⟨w.heap.size, 1, none⟩ = some (.slice a0 len0 cap0) ∧ Below w7.heap.size w7 wx)) :=
      Lib.hid (fun wx hb => ⟨(BY7.out.up hb).c0, (BY7.out.up hb).c1, (BX7.out.up hb).c0, (BX7.out.up hb).c1, hb⟩)
    have z0 : Below w7.heap.size w7 w7.drew := (Below.refl _ _).drew
    go_wp2_with fail
    go_region_held3 (fun wx => wx.cell? ⟨w5.heap.size, 0, none⟩ = some (.int .i64 c0) ∧ wx.cell? ⟨w5.heap.size, 1, none⟩ = some (.slice ua len0 uc) ∧ wx.cell? ⟨w.heap.size, 0, none⟩ = some (.int .i64 c0) ∧ wx.cell? ⟨w.heap.size, 1, none⟩ = some (.slice a0 len0 cap0) ∧ Below w7.heap.size w7 wx)
      (first | exact KEEP.out _ (Below.refl _ _).drew | exact KEEP.out _ (by assumption))
      (first | (go_at_call 14; refine (toPoly_any c0 _ len0 _ _ hm HX.out (R7.out.below z0)).mono ?_; rintro e w8 ⟨u8, us8, rfl, f8, b8, _⟩; have q8 := (F7.out.below z0).below b8; have z8 := z0.step1 b8) | (go_at_call 16; refine (eqPoly_same c0 _ _ len0 _ _ _ _ _ _ q8 f8).mono ?_; rintro e w9 ⟨rfl, b9⟩; have z9 := z8.step1 b9))
    have B9 := Lib.hid (B7.out.trans (z9.mono B7.out.size))
    go_wp2_with fail
    go_ret
    exact ⟨rfl, B9.out⟩
  · go_enter Try.func6, Try.ntmps6
    go_wp2_with fail
    refine (szPoly_over c0 _ len0 z0 1048576 _ R0.out (by omega) (by omega)).mono ?_
    rintro e w2 ⟨rfl, b2⟩
    have B2 := Lib.hid (B0.out.trans (b2.mono B0.out.size))
    go_wp2_with fail
    go_ret
    exact ⟨rfl, B2.out⟩
end Go.Proofs.Ytnfhfilconcajaa.Pl
