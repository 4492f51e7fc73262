/-
  The walk of laws.FnExactSumOfTermLists.
-/
import Derived.Test.YthbibkehhnggfaaKRes
import Derived.Test.YthbibkehhnggfaaKMark
import Derived.Test.YthbibkehhnggfaaOpenRowsW
namespace Go.Proofs.Ythbibkehhnggfaa
open Go.RowKit
set_option linter.unusedVariables false
set_option maxRecDepth 100000

set_option maxHeartbeats 2000000 in
theorem walk_FnExactSumOfTermLists (a0 : Option Addr) (m cap0 : Nat) (X : Nat → List Int) (a1 : Option Addr) (n cap1 : Nat) (Y : Nat → List Int) (w : World) (w0 : IsRowsW w a0 m cap0 X) (w1 : IsRowsW w a1 n cap1 Y) :
    Calls Try.prog 3 #[.slice a0 m cap0, .slice a1 n cap1] w fun e w' => e = .returned (.bool true) ∧ Below w.heap.size w w' := by
  have ha : RdSS w (.slice a0 m cap0) m X := w0.1
  have hb : RdSS w (.slice a1 n cap1) n Y := w1.1
  obtain ⟨L, cd, hL, hL20, SP, IM⟩ := SumOfTermLists_both m n X Y w0.2 w1.2
  clear w0 w1
  by_cases hbig : m + tot X m ≤ 1048576
  · obtain ⟨l1, hl1⟩ : ∃ l1 : Nat, ((1048576 : Nat) : Int) - ((m + tot X m : Nat) : Int) = (l1 : Int) := ⟨1048576 - (m + tot X m), by omega⟩
    have SZ := szSS_any _ m X 1048576 w ha (by omega) hbig
    rw [hl1] at SZ
    have SZ := Lib.hid SZ
    have hge1 : ¬ (l1 : Int) < 0 := by omega
    by_cases hbig1 : n + tot Y n ≤ l1
    · have SZ1 := Lib.hid (szSS_any _ n Y l1 w hb (by omega) hbig1)
      have hge : ¬ (l1 : Int) - ((n + tot Y n : Nat) : Int) < 0 := by omega
      have HX : Hid (∀ i, i < m → (X i).length ≤ 1048576) := Lib.hid (fun i hi => by have := tot_one X i m hi; omega)
      have HY : Hid (∀ i, i < n → (Y i).length ≤ 1048576) := Lib.hid (fun i hi => by have := tot_one Y i n hi; omega)
      have hm : m ≤ 1048576 := by omega
      have hn : n ≤ 1048576 := by omega
      have OX : Hid (off 1 (fun i => (X i).length) m ≤ 1152921504606846976) := Lib.hid (by rw [off_any]; omega)
      have OX0 : 0 ≤ off 1 (fun i => (X i).length) m := by rw [off_any]; omega
      have OY : Hid (off (off 1 (fun i => (X i).length) m) (fun i => (Y i).length) n ≤ 1152921504606846976) := Lib.hid (by rw [off_any, off_any]; omega)
      have OY0 : ¬ off (off 1 (fun i => (X i).length) m) (fun i => (Y i).length) n < 0 := by rw [off_any, off_any]; omega
      have OL : Hid (off 1 (fun i => (rowsOf L i).length) L.length ≤ 1152921504606846976) := Lib.hid (by rw [off_any]; have := tot_bound (rowsOf L) 20 L.length hL20; omega)
      have OL0 : ¬ off 1 (fun i => (rowsOf L i).length) L.length < 0 := by rw [off_any]; omega
      generalize (l1 : Int) - ((n + tot Y n : Nat) : Int) = lf at SZ1 hge
      have RA := Lib.hid ha
      have RB := Lib.hid hb
      have SP := Lib.hid SP
      have IM := Lib.hid IM
      obtain ⟨kx, hkx⟩ : ∃ kx, off 1 (fun i => (X i).length) m = kx := ⟨_, rfl⟩
      rw [hkx] at OY OY0 OX0
      obtain ⟨ky, hky⟩ : ∃ ky, off kx (fun i => (Y i).length) n = ky := ⟨_, rfl⟩
      rw [hky] at OY0
      obtain ⟨kl, hkl⟩ : ∃ kl, off 1 (fun i => (rowsOf L i).length) L.length = kl := ⟨_, rfl⟩
      rw [hkl] at OL0
      have HKX := Lib.hid hkx
      have HKY := Lib.hid hky
      have HKL := Lib.hid hkl
      have HL := Lib.hid hL
      clear ha hb hbig hbig1 hl1 hkx hky hkl hL hL20
      go_enter Try.func3, Try.ntmps3
      go_wp2_with fail
      refine SZ.out.mono ?_
      rintro e w' ⟨rfl, rfl⟩
      go_wp2_with fail
      refine SZ1.out.mono ?_
      rintro e w' ⟨rfl, rfl⟩
      go_wp2_with fail
      refine (toSS_any _ m X w hm HX.out RA.out).mono ?_
      rintro e w1 ⟨U1, US1, rfl, f1, b1, _⟩
      have F1 := Lib.hid f1
      have B1 := Lib.hid b1
      clear f1 b1
      go_wp2_with fail
      refine (toSS_any _ n Y w1 hn HY.out (RB.out.below B1.out)).mono ?_
      rintro e w2 ⟨U2, US2, rfl, f2, b2, _⟩
      have F2 := Lib.hid f2
      have F12 := Lib.hid (F1.out.below b2)
      have B2 := Lib.hid (B1.out.trans (b2.mono B1.out.size))
      clear f2 b2 F1 B1
      go_wp2_with fail
      refine (SP.out _ _ US1 US2 _ _ w2 F12.out F2.out).mono ?_
      rintro e w3 ⟨V3, VS3, rfl, f3, s3, b3⟩
      have P3 := Lib.hid (f3.base B2.out.size)
      have B3 := Lib.hid (B2.out.trans (b3.mono B2.out.size))
      clear f3 s3 b3 F12 F2 B2
      go_wp2_with fail
      refine (toSS_any _ m X w3 hm HX.out (RA.out.below B3.out)).mono ?_
      rintro e w4 ⟨U4, US4, rfl, f4, b4, s4⟩
      have A34 := Lib.hid (fam_apart P3.out f4)
      have P4 := Lib.hid (P3.out.below b4)
      have X4 := Lib.hid (f4.base B3.out.size)
      have SX := Lib.hid s4
      have B4 := Lib.hid (B3.out.trans (b4.mono B3.out.size))
      clear f4 b4 s4 P3 B3
      go_wp2_with fail
      refine (toSS_any _ n Y w4 hn HY.out (RB.out.below B4.out)).mono ?_
      rintro e w5 ⟨U5, US5, rfl, f5, b5, s5⟩
      have A35 := Lib.hid (fam_apart P4.out f5)
      have A45 := Lib.hid (fam_apart X4.out f5)
      have P5 := Lib.hid (P4.out.below b5)
      have X5 := Lib.hid (X4.out.below b5)
      have Y5 := Lib.hid (f5.base B4.out.size)
      have SY := Lib.hid s5
      have B5 := Lib.hid (B4.out.trans (b5.mono B4.out.size))
      clear f5 b5 s5 P4 X4 B4
      go_wp2_with fail
      refine (IM.out _ _ w5 X5.out.rdss Y5.out.rdss).mono ?_
      rintro e w6 ⟨V6, VS6, rfl, f6, s6, b6⟩
      have A36 := Lib.hid (fam_apart P5.out f6)
      have A46 := Lib.hid (fam_apart X5.out f6)
      have A56 := Lib.hid (fam_apart Y5.out f6)
      have P6 := Lib.hid (P5.out.below b6)
      have X6 := Lib.hid (X5.out.below b6)
      have Y6 := Lib.hid (Y5.out.below b6)
      have G6 := Lib.hid (f6.base B5.out.size)
      have SG := Lib.hid s6
      have B6 := Lib.hid (B5.out.trans (b6.mono B5.out.size))
      clear f6 b6 s6 P5 X5 Y5 B5
      go_wp2_with fail
      refine (eqInt64SS_same V6 V3 L.length _ _ VS6 VS3 (rowsOf L) w6 G6.out P6.out).mono ?_
      rintro e w7 ⟨rfl, q, rfl⟩
      have P7 := Lib.hid (P6.out.drewN q)
      have X7 := Lib.hid (X6.out.drewN q)
      have Y7 := Lib.hid (Y6.out.drewN q)
      have G7 := Lib.hid (G6.out.drewN q)
      have B7 := Lib.hid (below_drewN B6.out q)
      clear P6 X6 Y6 G6 B6
      generalize w6.drewN q = w7 at *
      go_wp2_with fail
      refine (toSS_any _ m X w7 hm HX.out (RA.out.below B7.out)).mono ?_
      rintro e w8 ⟨U8, US8, rfl, f8, b8, _⟩
      have E8 := Lib.hid f8
      have P8 := Lib.hid (P7.out.below b8)
      have X8 := Lib.hid (X7.out.below b8)
      have Y8 := Lib.hid (Y7.out.below b8)
      have G8 := Lib.hid (G7.out.below b8)
      have B8 := Lib.hid (B7.out.trans (b8.mono B7.out.size))
      clear f8 b8 P7 X7 Y7 G7 B7
      go_wp2_with fail
      refine (eqInt64SS_same _ U8 m _ _ US4 US8 X w8 X8.out E8.out).mono ?_
      rintro e w9 ⟨rfl, q, rfl⟩
      have P9 := Lib.hid (P8.out.drewN q)
      have X9 := Lib.hid (X8.out.drewN q)
      have Y9 := Lib.hid (Y8.out.drewN q)
      have G9 := Lib.hid (G8.out.drewN q)
      have B9 := Lib.hid (below_drewN B8.out q)
      clear P8 X8 Y8 G8 B8 E8
      generalize w8.drewN q = w9 at *
      go_wp2_with fail
      refine (toSS_any _ n Y w9 hn HY.out (RB.out.below B9.out)).mono ?_
      rintro e w10 ⟨U10, US10, rfl, f10, b10, _⟩
      have E10 := Lib.hid f10
      have P10 := Lib.hid (P9.out.below b10)
      have X10 := Lib.hid (X9.out.below b10)
      have Y10 := Lib.hid (Y9.out.below b10)
      have G10 := Lib.hid (G9.out.below b10)
      have B10 := Lib.hid (B9.out.trans (b10.mono B9.out.size))
      clear f10 b10 P9 X9 Y9 G9 B9
      go_wp2_with fail
      refine (eqInt64SS_same _ U10 n _ _ US5 US10 Y w10 Y10.out E10.out).mono ?_
      rintro e w11 ⟨rfl, q, rfl⟩
      have P11 := Lib.hid (P10.out.drewN q)
      have X11 := Lib.hid (X10.out.drewN q)
      have Y11 := Lib.hid (Y10.out.drewN q)
      have G11 := Lib.hid (G10.out.drewN q)
      have B11 := Lib.hid (below_drewN B10.out q)
      clear P10 X10 Y10 G10 B10 E10
      generalize w10.drewN q = w11 at *
      go_wp2_with fail
      refine (markSS_from 1 (by omega) _ m w.heap.size US4 X w11 X11.out SX.out OX.out).mono ?_
      rintro e w12 ⟨rfl, _, b12, r12⟩
      have P12 := Lib.hid (P11.out.rest X11.out r12 A34.out)
      have Y12 := Lib.hid (Y11.out.rest X11.out r12 A45.out.symm)
      have G12 := Lib.hid (G11.out.rest X11.out r12 A46.out.symm)
      have B12 := Lib.hid (B11.out.trans b12)
      rw [HKX.out]
      clear b12 r12 P11 X11 Y11 G11 B11
      go_wp2_with fail
      refine (markSS_from kx OX0 _ n w.heap.size US5 Y w12 Y12.out SY.out OY.out).mono ?_
      rintro e w13 ⟨rfl, _, b13, r13⟩
      have P13 := Lib.hid (P12.out.rest Y12.out r13 A35.out)
      have G13 := Lib.hid (G12.out.rest Y12.out r13 A56.out.symm)
      have B13 := Lib.hid (B12.out.trans b13)
      rw [HKY.out]
      clear b13 r13 P12 Y12 G12 B12
      go_wp2_with fail
      refine (eqInt64SS_same V6 V3 L.length _ _ VS6 VS3 (rowsOf L) w13 G13.out P13.out).mono ?_
      rintro e w14 ⟨rfl, q, rfl⟩
      have P14 := Lib.hid (P13.out.drewN q)
      have G14 := Lib.hid (G13.out.drewN q)
      have B14 := Lib.hid (below_drewN B13.out q)
      clear P13 G13 B13
      generalize w13.drewN q = w14 at *
      go_wp2_with fail
      refine (markSS_from 1 (by omega) V6 L.length w.heap.size VS6 (rowsOf L) w14 G14.out SG.out OL.out).mono ?_
      rintro e w15 ⟨rfl, f15, b15, r15⟩
      have M15 := Lib.hid f15
      have P15 := Lib.hid (P14.out.rest G14.out r15 A36.out)
      have B15 := Lib.hid (B14.out.trans b15)
      rw [HKL.out]
      clear f15 b15 r15 P14 G14 B14
      go_wp2_with fail
      refine (heldInt64SS_own V6 L.length w.heap.size VS6 (rowsOf L) w15 M15.out OL.out).mono ?_
      rintro e w16 ⟨rfl, rfl⟩
      rw [HKL.out]
      go_wp2_with fail
      refine (toSS_any _ m X w15 hm HX.out (RA.out.below B15.out)).mono ?_
      rintro e w17 ⟨U17, US17, rfl, f17, b17, _⟩
      have F17 := Lib.hid f17
      have M17 := Lib.hid (M15.out.below b17)
      have P17 := Lib.hid (P15.out.below b17)
      have B17 := Lib.hid (B15.out.trans (b17.mono B15.out.size))
      clear f17 b17 P15 B15 M15
      go_wp2_with fail
      refine (toSS_any _ n Y w17 hn HY.out (RB.out.below B17.out)).mono ?_
      rintro e w18 ⟨U18, US18, rfl, f18, b18, _⟩
      have F18 := Lib.hid (F17.out.below b18)
      have E18 := Lib.hid f18
      have M18 := Lib.hid (M17.out.below b18)
      have P18 := Lib.hid (P17.out.below b18)
      have B18 := Lib.hid (B17.out.trans (b18.mono B17.out.size))
      clear f18 b18 P17 B17 M17 F17
      go_wp2_with fail
      refine (IM.out _ _ w18 F18.out.rdss E18.out.rdss).mono ?_
      rintro e w19 ⟨V19, VS19, rfl, f19, _, b19⟩
      have F19 := Lib.hid f19
      have M19 := Lib.hid (M18.out.below b19)
      have P19 := Lib.hid (P18.out.below b19)
      have B19 := Lib.hid (B18.out.trans (b19.mono B18.out.size))
      clear f19 b19 P18 B18 M18 F18 E18
      go_wp2_with fail
      refine (eqInt64SS_same V19 V3 L.length _ _ VS19 VS3 (rowsOf L) w19 F19.out P19.out).mono ?_
      rintro e w20 ⟨rfl, q, rfl⟩
      have M20 := Lib.hid (M19.out.drewN q)
      have B20 := Lib.hid (below_drewN B19.out q)
      clear P19 F19 M19 B19
      generalize w19.drewN q = w20 at *
      go_wp2_with fail
      refine (heldInt64SS_own V6 L.length w.heap.size VS6 (rowsOf L) w20 M20.out OL.out).mono ?_
      rintro e w21 ⟨rfl, rfl⟩
      rw [HKL.out]
      go_wp2_with fail
      go_ret
      exact ⟨rfl, B20.out⟩
    · have SZ1 := Lib.hid (szSS_over _ n Y l1 w hb (by omega) (by omega))
      clear ha hb hbig1 hl1 SP IM hL hL20
      go_enter Try.func3, Try.ntmps3
      go_wp2_with fail
      refine SZ.out.mono ?_
      rintro e w' ⟨rfl, rfl⟩
      go_wp2_with fail
      refine SZ1.out.mono ?_
      rintro e w' ⟨rfl, rfl⟩
      go_wp2_with fail
      go_ret
      exact ⟨rfl, Below.refl _ _⟩
  · have SZ := Lib.hid (szSS_over _ m X 1048576 w ha (by omega) (by omega))
    clear ha hb SP IM hL hL20
    go_enter Try.func3, Try.ntmps3
    go_wp2_with fail
    refine SZ.out.mono ?_
    rintro e w1 ⟨rfl, rfl⟩
    go_wp2_with fail
    go_ret
    exact ⟨rfl, Below.refl _ _⟩
end Go.Proofs.Ythbibkehhnggfaa
