/-
  Joined: LFnExactIsInPart.
-/
import Derived.Test.YtcbfcpngpnlodaaZxactIsInPart45
import Derived.Test.YtcbfcpngpnlodaaZxactIsInPart11
import Derived.Test.YtcbfcpngpnlodaaZxactIsInPart29
import Derived.Deep.RegionHeld3
section
namespace Go.Proofs.Ytcbfcpngpnlodaa.Ml
open Go.RowKit
set_option linter.unusedVariables false
set_option maxRecDepth 100000

set_option maxHeartbeats 4000000 in
theorem walk_FnExactIsInPart (a0 : Option Addr) (len0 cap0 : Nat) (z0 : Nat → List Int) (a1 : Option Addr) (len1 cap1 : Nat) (z1 : List Int) (w : World) (w0 : IsRows w a0 len0 cap0 z0) (w1 : IsRow .i64 w a1 len1 cap1 z1) :
    Calls Try.prog 9 #[.agg #[.slice a0 len0 cap0], .slice a1 len1 cap1] w fun e w' => e = .returned (.bool true) ∧ Below w.heap.size w w' := by
  have hr : RdSS w (.slice a0 len0 cap0) len0 z0 := w0
  have hr1 := w1.rd
  clear w0 w1
  generalize (fun i => z1.getD i 0) = G1 at hr1
  have RW1 := Lib.hid (fun wx (hx : Below w.heap.size w wx) => hr1.below hx)
  clear hr1
  have t1 := Try.underlying37
  have t2 := Try.underlying40
  have B0 : Hid (Below w.heap.size w (w.alloc (.cells #[.slice a0 len0 cap0] 37))) := Lib.hid ((Below.refl w.heap.size w).alloc (Nat.le_refl _) _)
  have BX : Hid (Box1 (w.alloc (.cells #[.slice a0 len0 cap0] 37)) w.heap.size 37 (.slice a0 len0 cap0)) := Lib.hid (Box1.new w _ _)
  have R0 := Lib.hid (hr.below B0.out)
  have HR := Lib.hid (fun wx (hx : Below w.heap.size w wx) => hr.below hx)
  clear hr
  by_cases hbig1 : len1 ≤ 1048576
  · have hbig1' : (len1 : Int) ≤ 1048576 := by omega
    by_cases hbig : len0 + tot z0 len0 ≤ 1048576
    · obtain ⟨x, cd, S, I⟩ := IsInPart_both len0 z0 len1 G1
      have S := Lib.hid S
      have I := Lib.hid I
      have hx1 : (x != x) = false := bne_self_eq_false _
      have hx2 : (cd != cd) = false := bne_self_eq_false _
      have HX : Hid (∀ i, i < len0 → (z0 i).length ≤ 1048576) := Lib.hid (fun i hi => by have := tot_one z0 i len0 hi; omega)
      have hm : len0 ≤ 1048576 := by omega
      go_enter Try.func9, Try.ntmps9
      go_wp2_with fail
      generalize (w.alloc (.cells #[.slice a0 len0 cap0] 37)) = w1 at *
      have SZ := Lib.hid (szMilnor_yes _ len0 z0 1048576 w1 R0.out (by omega) hbig)
      have hge : ¬ ((1048576 : Nat) : Int) - ((len0 + tot z0 len0 : Nat) : Int) < 0 := by omega
      generalize ((1048576 : Nat) : Int) - ((len0 + tot z0 len0 : Nat) : Int) = lf at SZ hge
      clear hbig
      refine SZ.out.mono ?_
      rintro e w2 ⟨rfl, b2⟩
      have B2 := Lib.hid (B0.out.trans (b2.mono B0.out.size))
      have BX2 := Lib.hid (BX.out.up b2)
      have R2 := Lib.hid (R0.out.below b2)
      have d0 := BX2.out.c
      clear b2 B0 BX R0 SZ
      go_wp2_with fail
      refine (toMilnor_any _ len0 z0 w2 hm HX.out R2.out).mono ?_
      rintro e w3 ⟨u3, us3, rfl, f3, b3, _⟩
      have F3 := Lib.hid f3.rdss
      have B3 := Lib.hid (B2.out.trans (b3.mono B2.out.size))
      have BX3 := Lib.hid (BX2.out.up b3)
      have R3 := Lib.hid (R2.out.below b3)
      clear f3 b3 B2 BX2 R2 d0
      go_wp2_with fail
      refine (toInt64S_any _ len1 G1 _ (by omega) (RW1.out _ B3.out)).mono ?_
      rintro e w4 ⟨v4, rfl, o4, b4⟩
      have F4 := Lib.hid (F3.out.below b4)
      have U4 := Lib.hid (rd_cpy o4)
      have B4 := Lib.hid (B3.out.trans (b4.mono B3.out.size))
      have BX4 := Lib.hid (BX3.out.up b4)
      have R4 := Lib.hid (R3.out.below b4)
      clear o4 b4 B3 BX3 R3 F3
      go_wp2_with fail
      refine (S.out u3 v4 w4 F4.out U4.out).mono ?_
      rintro e w5 ⟨rfl, b5⟩
      have B5 := Lib.hid (B4.out.trans (b5.mono B4.out.size))
      have BX5 := Lib.hid (BX4.out.up b5)
      have R5 := Lib.hid (R4.out.below b5)
      have d0 := BX5.out.c
      clear b5 B4 BX4 R4 F4 U4
      go_wp2_with fail
      refine (toMilnor_any _ len0 z0 w5 hm HX.out R5.out).mono ?_
      rintro e w6 ⟨u6, us6, rfl, f6, b6, s6⟩
      obtain ⟨ua, uc, rfl, _⟩ := f6.head
      have F6 := Lib.hid (f6.base B5.out.size)
      have B6 := Lib.hid (B5.out.trans (b6.mono B5.out.size))
      have BX6 := Lib.hid (BX5.out.up b6)
      have R6 := Lib.hid (R5.out.below b6)
      clear f6 s6 b6 B5 BX5 R5 d0
      go_wp2_with fail
      have b7 : Below w6.heap.size w6 (w6.alloc (.cells #[.slice ua len0 uc] 40)) := (Below.refl _ _).alloc (Nat.le_refl _) _
      have BY7 : Hid (Box1 (w6.alloc (.cells #[.slice ua len0 uc] 40)) w6.heap.size 40 (.slice ua len0 uc)) := Lib.hid (Box1.new _ _ _)
      have B7 := Lib.hid (B6.out.trans (b7.mono B6.out.size))
      have BX7 := Lib.hid (BX6.out.up b7)
      have F7 := Lib.hid (F6.out.below b7)
      have R7 := Lib.hid (R6.out.below b7)
      clear b7 B6 BX6 R6 F6
      generalize (w6.alloc (.cells #[.slice ua len0 uc] 40)) = w7 at *
      generalize w6.heap.size = g6 at *
      refine (toInt64S_any _ len1 G1 _ (by omega) (RW1.out _ B7.out)).mono ?_
      rintro e w8 ⟨v8, rfl, o8, b8⟩
      have U8 := Lib.hid (own_base o8 B7.out.size)
      have F8 := Lib.hid (F7.out.below b8)
      have BX8 := Lib.hid (BX7.out.up b8)
      have BY8 := Lib.hid (BY7.out.up b8)
      have R8 := Lib.hid (R7.out.below b8)
      have B8 := Lib.hid (B7.out.step1 b8)
      clear o8 b8 F7 BX7 BY7 R7 B7
      have d0 := BY8.out.c
      go_wp2_with fail
      refine (I.out _ _ w8 F8.out.rdss (rd_cpy U8.out)).mono ?_
      rintro e w9 ⟨rfl, b9⟩
      have U9 := Lib.hid (own_below U8.out b9)
      have F9 := Lib.hid (F8.out.below b9)
      have BX9 := Lib.hid (BX8.out.up b9)
      have BY9 := Lib.hid (BY8.out.up b9)
      have R9 := Lib.hid (R8.out.below b9)
      have B9 := Lib.hid (B8.out.step1 b9)
      clear b9 F8 BX8 BY8 R8 B8 U8 d0
      have KEEP : Hid (∀ wx, Below w9.heap.size w9 wx → (wx.cell? ⟨g6, 0, none⟩ = some (.slice ua len0 uc) ∧ wx.cell? ⟨w.heap.size, 0, none⟩ = some (.slice a0 len0 cap0) ∧ Below w9.heap.size w9 wx)) :=
        Lib.hid (fun wx hb => ⟨(BY9.out.up hb).c, (BX9.out.up hb).c, hb⟩)
      have z0' : Below w9.heap.size w9 w9.drew := (Below.refl _ _).drew
      go_wp2_with fail
      go_region_held3 (fun wx => wx.cell? ⟨g6, 0, none⟩ = some (.slice ua len0 uc) ∧ wx.cell? ⟨w.heap.size, 0, none⟩ = some (.slice a0 len0 cap0) ∧ Below w9.heap.size w9 wx)
        (first | exact KEEP.out _ (Below.refl _ _).drew | exact KEEP.out _ (by assumption))
        (first | (go_at_call 34; refine (toMilnor_any _ len0 _ _ hm HX.out (R9.out.below z0')).mono ?_; rintro e wa ⟨ua9, us9, rfl, f9, b9, _⟩; have q9 := (F9.out.below z0').below b9; have z9 := z0'.step1 b9) | (go_at_call 36; refine (eqMilnor_same _ _ len0 _ _ _ _ _ _ q9 f9).mono ?_; rintro e wb ⟨rfl, b10⟩; have z10 := z9.step1 b10))
      have B10 := Lib.hid (B9.out.step1 z10)
      have U10 := Lib.hid (own_below U9.out z10)
      clear z10 z9 z0' b9 b10 q9 f9 KEEP U9 BX9 BY9 F9 R9 B9
      go_wp2_with fail
      refine (toInt64S_any _ len1 G1 _ (by omega) (RW1.out _ B10.out)).mono ?_
      rintro e w11 ⟨v11, rfl, o11, b11⟩
      have U11 := Lib.hid (own_below U10.out b11)
      have B11 := Lib.hid (B10.out.step1 b11)
      have O11 := Lib.hid o11
      clear o11 b11 U10 B10
      go_wp2_with fail
      refine (eqInt64S_same _ _ len1 _ _ (rd_cpy U11.out) (rd_cpy O11.out)).mono ?_
      rintro e w12 ⟨rfl, q12, rfl⟩
      have B12 := Lib.hid (below_drewN B11.out q12)
      go_wp2_with fail
      go_ret
      exact ⟨rfl, B12.out⟩
    · go_enter Try.func9, Try.ntmps9
      go_wp2_with fail
      refine (szMilnor_over _ len0 z0 1048576 _ R0.out (by omega) (by omega)).mono ?_
      rintro e w2 ⟨rfl, b2⟩
      have B2 := Lib.hid (B0.out.trans (b2.mono B0.out.size))
      go_wp2_with fail
      go_ret
      exact ⟨rfl, B2.out⟩
  · have hbig1' : (1048576 : Int) < (len1 : Int) := by omega
    go_enter Try.func9, Try.ntmps9
    go_wp2
    go_ret
    exact ⟨rfl, B0.out⟩
end Go.Proofs.Ytcbfcpngpnlodaa.Ml
end
