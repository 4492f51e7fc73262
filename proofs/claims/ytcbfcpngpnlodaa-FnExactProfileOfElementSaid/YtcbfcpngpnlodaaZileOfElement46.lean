/-
  Joined: LFnExactProfileOfElement.
-/
import Derived.Test.YtcbfcpngpnlodaaZileOfElement43
import Derived.Deep.RegionHeld3
import Derived.Test.YtcbfcpngpnlodaaZileOfElement45
section
namespace Go.Proofs.Ytcbfcpngpnlodaa.Ml
open Go.RowKit
set_option linter.unusedVariables false
set_option maxRecDepth 100000

/-- A row beside a family that is marked. -/
theorem own_restE {w w' : World} {B B' n k : Nat} {e : TypeId} {v V' : Value} {xs : List Value} {VB : Nat → Value} {Y : Nat → List Int} (h : w.ownsRow B e 1 v k xs) (f : Fam w B' V' n VB Y) (r : MRestK n VB w w') (ap : ∀ j, j < n → v.ownBlock = none ∨ v.ownBlock ≠ (VB j).ownBlock) : w'.ownsRow B e 1 v k xs :=
  own_sameblock h fun g hg => r.2 g (h.lt g hg).2 fun j hj e2 => by
    rcases ap j hj with h1 | h1
    · rw [h1] at hg; cases hg
    · exact h1 (hg.trans e2.symm)

set_option maxHeartbeats 4000000 in
theorem walk_FnExactProfileOfElement (a0 : Option Addr) (len0 cap0 : Nat) (z0 : Nat → List Int) (w : World) (w0 : IsRows w a0 len0 cap0 z0) :
    Calls Try.prog 15 #[.agg #[.slice a0 len0 cap0]] w fun e w' => e = .returned (.bool true) ∧ Below w.heap.size w w' := by
  have hr : RdSS w (.slice a0 len0 cap0) len0 z0 := w0
  clear w0
  have t1 := Try.underlying37
  have t2 := Try.underlying40
  have B0 : Hid (Below w.heap.size w (w.alloc (.cells #[.slice a0 len0 cap0] 37))) := Lib.hid ((Below.refl w.heap.size w).alloc (Nat.le_refl _) _)
  have BX : Hid (Box1 (w.alloc (.cells #[.slice a0 len0 cap0] 37)) w.heap.size 37 (.slice a0 len0 cap0)) := Lib.hid (Box1.new w _ _)
  have R0 := Lib.hid (hr.below B0.out)
  have HR := Lib.hid (fun wx (hx : Below w.heap.size w wx) => hr.below hx)
  clear hr
  by_cases hbig : len0 + tot z0 len0 ≤ 1048576
  · obtain ⟨zs, cd, hzl, S, I⟩ := ProfileOfElement_both len0 z0
    have S := Lib.hid S
    have I := Lib.hid I
    have HZ := Lib.hid hzl
    have HX : Hid (∀ i, i < len0 → (z0 i).length ≤ 1048576) := Lib.hid (fun i hi => by have := tot_one z0 i len0 hi; omega)
    have hm : len0 ≤ 1048576 := by omega
    have OX : Hid (off 1 (fun i => (z0 i).length) len0 ≤ 1152921504606846976) := Lib.hid (by rw [off_any]; omega)
    have OX0 : ¬ off 1 (fun i => (z0 i).length) len0 < 0 := by rw [off_any]; omega
    obtain ⟨kx, hkx⟩ : ∃ kx, off 1 (fun i => (z0 i).length) len0 = kx := ⟨_, rfl⟩
    rw [hkx] at OX0
    have HKX := Lib.hid hkx
    have hz0 : ¬ (1 : Int) + (zs.length : Int) < 0 := by omega
    clear hkx hzl
    go_enter Try.func15, Try.ntmps15
    go_wp2_with fail
    generalize (w.alloc (.cells #[.slice a0 len0 cap0] 37)) = w1 at *
    have SZ := Lib.hid (szMilnor_yes _ len0 z0 1048576 w1 R0.out (by omega) hbig)
    have hge : ¬ ((1048576 : Nat) : Int) - ((len0 + tot z0 len0 : Nat) : Int) < 0 := by omega
    generalize ((1048576 : Nat) : Int) - ((len0 + tot z0 len0 : Nat) : Int) = lf at SZ hge
    clear hbig
    refine SZ.out.mono ?_
    rintro e w2 ⟨rfl, b2⟩
    have B2 := Lib.hid (B0.out.trans (b2.mono B0.out.size))
    have BX2 := Lib.hid (BX.out.up b2)
    have R2 := Lib.hid (R0.out.below b2)
    have d0 := BX2.out.c
    clear b2 B0 BX R0 SZ
    go_wp2_with fail
    refine (toMilnor_any _ len0 z0 w2 hm HX.out R2.out).mono ?_
    rintro e w3 ⟨u3, us3, rfl, f3, b3, _⟩
    have F3 := Lib.hid f3.rdss
    have B3 := Lib.hid (B2.out.trans (b3.mono B2.out.size))
    have BX3 := Lib.hid (BX2.out.up b3)
    have R3 := Lib.hid (R2.out.below b3)
    clear f3 b3 B2 BX2 R2 d0
    go_wp2_with fail
    refine (S.out u3 w3 F3.out).mono ?_
    rintro e w4 ⟨v4, rfl, o4, b4⟩
    obtain ⟨va4, vc4, rfl, _⟩ := own_len o4
    have U4 := Lib.hid (own_base o4 B3.out.size)
    have B4 := Lib.hid (B3.out.trans (b4.mono B3.out.size))
    have BX4 := Lib.hid (BX3.out.up b4)
    have R4 := Lib.hid (R3.out.below b4)
    have d0 := BX4.out.c
    clear o4 b4 B3 BX3 R3 F3
    go_wp2_with fail
    refine (toMilnor_any _ len0 z0 w4 hm HX.out R4.out).mono ?_
    rintro e w5 ⟨u5, us5, rfl, f5, b5, s5⟩
    obtain ⟨ua, uc, rfl, _⟩ := f5.head
    have N45 := Lib.hid (fun j hj => own_apart U4.out (f5.inn j hj))
    have F5 := Lib.hid (f5.base B4.out.size)
    have S5 := Lib.hid s5
    have U5 := Lib.hid (own_below U4.out b5)
    have B5 := Lib.hid (B4.out.trans (b5.mono B4.out.size))
    have BX5 := Lib.hid (BX4.out.up b5)
    have R5 := Lib.hid (R4.out.below b5)
    clear f5 s5 b5 B4 BX4 R4 U4 d0
    go_wp2_with fail
    have b6 : Below w5.heap.size w5 (w5.alloc (.cells #[.slice ua len0 uc] 40)) := (Below.refl _ _).alloc (Nat.le_refl _) _
    have BY6 : Hid (Box1 (w5.alloc (.cells #[.slice ua len0 uc] 40)) w5.heap.size 40 (.slice ua len0 uc)) := Lib.hid (Box1.new _ _ _)
    have B6 := Lib.hid (B5.out.trans (b6.mono B5.out.size))
    have BX6 := Lib.hid (BX5.out.up b6)
    have F6 := Lib.hid (F5.out.below b6)
    have U6 := Lib.hid (own_below U5.out b6)
    have R6 := Lib.hid (R5.out.below b6)
    clear b6 B5 BX5 R5 F5 U5
    generalize (w5.alloc (.cells #[.slice ua len0 uc] 40)) = w6 at *
    generalize w5.heap.size = g6 at *
    have d0 := BY6.out.c
    go_wp2_with fail
    refine (I.out _ w6 F6.out.rdss).mono ?_
    rintro e w7 ⟨v7, rfl, o7, b7⟩
    obtain ⟨va7, vc7, rfl, _⟩ := own_len o7
    have N57 := Lib.hid (fun j hj => apart_swap (own_apart (F6.out.inn j hj) o7))
    have N47 := Lib.hid (own_apart U6.out o7)
    have V7 := Lib.hid (own_base o7 B6.out.size)
    have U7 := Lib.hid (own_below U6.out b7)
    have BX7 := Lib.hid (BX6.out.up b7)
    have BY7 := Lib.hid (BY6.out.up b7)
    have F7 := Lib.hid (F6.out.below b7)
    have R7 := Lib.hid (R6.out.below b7)
    have B7 := Lib.hid (B6.out.trans (b7.mono B6.out.size))
    clear o7 b7 B6 BX6 BY6 R6 F6 U6 d0
    go_wp2_with fail
    refine (eqInt64S_same _ _ zs.length _ w7 (rd_of_own V7.out rfl) (rd_of_own U7.out rfl)).mono ?_
    rintro e w8 ⟨rfl, q8, rfl⟩
    have c78 : Below w7.heap.size w7 (w7.drewN q8) := below_drewN (Below.refl _ _) q8
    have V8 := Lib.hid (own_below V7.out c78)
    have U8 := Lib.hid (own_below U7.out c78)
    have BX8 := Lib.hid (BX7.out.up c78)
    have BY8 := Lib.hid (BY7.out.up c78)
    have F8 := Lib.hid (F7.out.below c78)
    have R8 := Lib.hid (R7.out.below c78)
    have B8 := Lib.hid (B7.out.step1 c78)
    clear c78 V7 U7 BX7 BY7 F7 R7 B7
    generalize w7.drewN q8 = w8 at *
    have KEEP : Hid (∀ wx, Below w8.heap.size w8 wx → (wx.cell? ⟨g6, 0, none⟩ = some (.slice ua len0 uc) ∧ wx.cell? ⟨w.heap.size, 0, none⟩ = some (.slice a0 len0 cap0) ∧ Below w8.heap.size w8 wx)) :=
      Lib.hid (fun wx hb => ⟨(BY8.out.up hb).c, (BX8.out.up hb).c, hb⟩)
    have z0' : Below w8.heap.size w8 w8.drew := (Below.refl _ _).drew
    go_wp2_with fail
    go_region_held3 (fun wx => wx.cell? ⟨g6, 0, none⟩ = some (.slice ua len0 uc) ∧ wx.cell? ⟨w.heap.size, 0, none⟩ = some (.slice a0 len0 cap0) ∧ Below w8.heap.size w8 wx)
      (first | exact KEEP.out _ (Below.refl _ _).drew | exact KEEP.out _ (by assumption))
      (first | (go_at_call 34; refine (toMilnor_any _ len0 _ _ hm HX.out (R8.out.below z0')).mono ?_; rintro e w9 ⟨u9, us9, rfl, f9, b9, _⟩; have q9 := (F8.out.below z0').below b9; have z9 := z0'.step1 b9) | (go_at_call 36; refine (eqMilnor_same _ _ len0 _ _ _ _ _ _ q9 f9).mono ?_; rintro e w10 ⟨rfl, b10⟩; have z10 := z9.step1 b10))
    have B10 := Lib.hid (B8.out.step1 z10)
    have V10 := Lib.hid (own_below V8.out z10)
    have U10 := Lib.hid (own_below U8.out z10)
    have BX10 := Lib.hid (BX8.out.up z10)
    have BY10 := Lib.hid (BY8.out.up z10)
    have F10 := Lib.hid (F8.out.below z10)
    have R10 := Lib.hid (R8.out.below z10)
    clear z10 z9 z0' b9 b10 q9 f9 KEEP V8 U8 BX8 BY8 F8 R8 B8
    have d0 := BY10.out.c
    go_wp2_with fail
    refine (markMilnor_from 1 (by omega) _ len0 w.heap.size us5 z0 w10 F10.out S5.out B10.out.size OX.out).mono ?_
    rintro e w11 ⟨rfl, _, k11, r11⟩
    have U11 := Lib.hid (own_restE U10.out F10.out r11 N45.out)
    have V11 := Lib.hid (own_restE V10.out F10.out r11 N57.out)
    have BX11 := Lib.hid (BX10.out.restK (B' := 0) (by decide) F10.out r11)
    have B11 := Lib.hid (B10.out.trans k11)
    rw [HKX.out]
    clear k11 r11 V10 U10 BX10 BY10 F10 d0 B10
    go_wp2_with fail
    refine (eqInt64S_same _ _ zs.length _ w11 (rd_of_own V11.out rfl) (rd_of_own U11.out rfl)).mono ?_
    rintro e w12 ⟨rfl, q12, rfl⟩
    have c12 : Below w11.heap.size w11 (w11.drewN q12) := below_drewN (Below.refl _ _) q12
    have V12 := Lib.hid (own_below V11.out c12)
    have U12 := Lib.hid (own_below U11.out c12)
    have BX12 := Lib.hid (BX11.out.up c12)
    have B12 := Lib.hid (B11.out.step1 c12)
    clear c12 V11 U11 BX11 B11
    generalize w11.drewN q12 = w12 at *
    go_wp2_with fail
    refine (markInt64S_own _ zs.length _ 1 _ w12 (by omega) (by omega) (by have := HZ.out; omega) V12.out).mono ?_
    rintro e w13 ⟨rfl, m13, g13, _⟩
    have V13 := Lib.hid m13
    have U13 := Lib.hid (U12.out.kept g13 N47.out)
    have BX13 : Hid (Box1 w13 w.heap.size 37 (.slice a0 len0 cap0)) := Lib.hid ((g13.block _ BX12.out.lt (fun e => BX12.out.ne_own V12.out (by decide) _ e.symm rfl)).trans BX12.out)
    have B13 := Lib.hid (B12.out.grown g13 B12.out.size (fun x hx => (V12.out.lt x (hx.symm ▸ rfl)).1))
    clear m13 g13 V12 U12 BX12 B12
    go_wp2_with fail
    refine (heldInt64S_own _ zs.length 1 _ w13 (by omega) (by omega) (by have := HZ.out; omega) V13.out).mono ?_
    rintro e w14 ⟨rfl, rfl⟩
    have RB := Lib.hid (HR.out _ B13.out)
    have d0 := BX13.out.c
    go_wp2_with fail
    refine (toMilnor_any _ len0 z0 w13 hm HX.out RB.out).mono ?_
    rintro e w15 ⟨u15, us15, rfl, f15, b15, _⟩
    have F15 := Lib.hid f15.rdss
    have V15 := Lib.hid (own_below V13.out b15)
    have U15 := Lib.hid (own_below U13.out b15)
    have B15 := Lib.hid (B13.out.step1 b15)
    clear f15 b15 V13 U13 BX13 B13 RB d0
    go_wp2_with fail
    refine (I.out _ w15 F15.out).mono ?_
    rintro e w16 ⟨v16, rfl, o16, b16⟩
    have T16 := Lib.hid (own_base o16 B15.out.size)
    have V16 := Lib.hid (own_below V15.out b16)
    have U16 := Lib.hid (own_below U15.out b16)
    have B16 := Lib.hid (B15.out.step1 b16)
    clear o16 b16 V15 U15 B15 F15
    go_wp2_with fail
    refine (eqInt64S_same _ _ zs.length _ w16 (rd_of_own T16.out rfl) (rd_of_own U16.out rfl)).mono ?_
    rintro e w17 ⟨rfl, q17, rfl⟩
    have c17 : Below w16.heap.size w16 (w16.drewN q17) := below_drewN (Below.refl _ _) q17
    have V17 := Lib.hid (own_below V16.out c17)
    have B17 := Lib.hid (B16.out.step1 c17)
    clear c17 T16 V16 U16 B16
    generalize w16.drewN q17 = w17 at *
    go_wp2_with fail
    refine (heldInt64S_own _ zs.length 1 _ w17 (by omega) (by omega) (by have := HZ.out; omega) V17.out).mono ?_
    rintro e w18 ⟨rfl, rfl⟩
    go_wp2_with fail
    go_ret
    exact ⟨rfl, B17.out⟩
  · go_enter Try.func15, Try.ntmps15
    go_wp2_with fail
    refine (szMilnor_over _ len0 z0 1048576 _ R0.out (by omega) (by omega)).mono ?_
    rintro e w2 ⟨rfl, b2⟩
    have B2 := Lib.hid (B0.out.trans (b2.mono B0.out.size))
    go_wp2_with fail
    go_ret
    exact ⟨rfl, B2.out⟩
end Go.Proofs.Ytcbfcpngpnlodaa.Ml
end
