/-
  The walk of laws.FnMatrices.
-/
import Derived.Test.YtdojblmffmefgaaDoorDMats
import Derived.Test.YtdojblmffmefgaaDoorDDice
import Derived.Test.YtdojblmffmefgaaDoorDDrawL
import Derived.Test.YtdojblmffmefgaaDoorMLaw2
namespace Go.Proofs.YtdojblmffmefgaaDoor
open Go.RowKit
set_option linter.unusedVariables false
set_option maxRecDepth 100000

/-- A family, its world last. -/
def FamW (B : Nat) (V : Value) (m : Nat) (VS : Nat → Value) (Y : Nat → List Int) (w : World) : Prop := Fam w B V m VS Y
theorem FamW.up {B m : Nat} {V : Value} {VS : Nat → Value} {Y : Nat → List Int} {w w' : World} (h : FamW B V m VS Y w) (k : Below w.heap.size w w') : FamW B V m VS Y w' := Fam.below h k
theorem FamW.alloc {B m : Nat} {V : Value} {VS : Nat → Value} {Y : Nat → List Int} {w : World} (h : FamW B V m VS Y w) (o : Obj) : FamW B V m VS Y (w.alloc o) := h.up ((Below.refl _ _).alloc (Nat.le_refl _) _)
def RdW (V : Value) (m : Nat) (X : Nat → List Int) (w : World) : Prop := RdSS w V m X
theorem RdW.up {m : Nat} {V : Value} {X : Nat → List Int} {w w' : World} (h : RdW V m X w) (k : Below w.heap.size w w') : RdW V m X w' := RdSS.below h k
theorem RdW.alloc {m : Nat} {V : Value} {X : Nat → List Int} {w : World} (h : RdW V m X w) (o : Obj) : RdW V m X (w.alloc o) := h.up ((Below.refl _ _).alloc (Nat.le_refl _) _)

theorem shl_cap (n : Nat) : ∃ k : Nat, k ≤ 40 ∧ k ≤ n ∧ IntKind.i64.wrap (2 ^ min (IntKind.u64.wrap (if 40 < (n : Int) then 40 else (n : Int))).toNat 64) = ((2 ^ k : Nat) : Int) := by
  obtain ⟨k, hk, hn, e⟩ : ∃ k : Nat, k ≤ 40 ∧ k ≤ n ∧ (if 40 < (n : Int) then 40 else (n : Int)) = (k : Int) := by
    by_cases h : 40 < (n : Int)
    · exact ⟨40, by omega, by omega, by rw [if_pos h]; rfl⟩
    · exact ⟨n, by omega, by omega, by rw [if_neg h]⟩
  have e2 : (IntKind.u64.wrap (k : Int)).toNat = k := by rw [IntKind.wrap_u64]; omega
  have hp : (2 : Nat) ^ k ≤ 2 ^ 40 := Nat.pow_le_pow_right (by decide) hk
  have e3 : (2 : Int) ^ k = ((2 ^ k : Nat) : Int) := by simp
  refine ⟨k, hk, hn, ?_⟩
  rw [e, e2, Nat.min_eq_left (by omega), e3]
  generalize (2 : Nat) ^ k = p at *
  rw [IntWalk.i64_in (p : Int) (by omega)]
/-- What a drawn number below 2^k gives. -/
def DLow (B n : Nat) (w : World) (e : Ending) (w' : World) : Prop := ∃ x : Nat, e = .returned (.int .i64 (x : Int)) ∧ x < 2 ^ n ∧ Below B w w'
theorem shl_caps (n : Nat) : 1 ≤ IntKind.i64.wrap (2 ^ min (IntKind.u64.wrap (if 40 < (n : Int) then 40 else (n : Int))).toNat 64) ∧ IntKind.i64.wrap (2 ^ min (IntKind.u64.wrap (if 40 < (n : Int) then 40 else (n : Int))).toNat 64) ≤ 2000000000000000 ∧ IntKind.i64.wrap (2 ^ min (IntKind.u64.wrap (if 40 < (n : Int) then 40 else (n : Int))).toNat 64) ≤ ((2 ^ n : Nat) : Int) := by
  obtain ⟨k, hk, hn, e⟩ := shl_cap n
  rw [e]
  have hp : (2 : Nat) ^ k ≤ 2 ^ 40 := Nat.pow_le_pow_right (by decide) hk
  have hp1 : 1 ≤ (2 : Nat) ^ k := Nat.one_le_two_pow
  have hp2 : (2 : Nat) ^ k ≤ 2 ^ n := Nat.pow_le_pow_right (by decide) hn
  generalize (2 : Nat) ^ k = p at *
  generalize (2 : Nat) ^ n = q at *
  omega
theorem dice_le (n g B : Nat) (N : Int) (w : World) (hs : Dice w g B) (h1 : 1 ≤ N) (h2 : N ≤ 2000000000000000) (h3 : N ≤ ((2 ^ n : Nat) : Int)) : Calls Tryd.prog 33 #[.pointer (some ⟨g, 0, none⟩), .int .i64 N] w (DLow B n w) := by
  refine (dice_below g B N w hs h1 h2).mono ?_
  rintro e2 w' ⟨x, rfl, h0, h1, b⟩
  obtain ⟨y, rfl⟩ := Int.eq_ofNat_of_zero_le h0
  exact ⟨y, rfl, by omega, b⟩

set_option maxHeartbeats 8000000 in
theorem walk_FnMatrices (a0 : Option Addr) (len0 cap0 : Nat) (z0 : List Int) (w : World) (w0 : IsRow .u8 w a0 len0 cap0 z0) (hT : T0 w) :
    Calls Tryd.prog 3 #[.slice a0 len0 cap0] w fun e w' => e = .returned (.bool true) ∧ Below w.heap.size w w' := by
  obtain ⟨hc, hM⟩ := w0.code
  clear w0
  have HT := Lib.hid hT
  clear hT
  have t2 := Tryd.underlying26
  by_cases hm : len0 ≤ 4096
  · have HC := Lib.hid hc
    have DR := Lib.hid (DrawIs_any a0 len0 cap0 w hc hm)
    clear hc
    go_enter Tryd.func3, Tryd.ntmps3
    go_wp2_with fail
    refine (big_no a0 len0 cap0 w hm).mono ?_
    rintro e wx ⟨rfl, hwx⟩
    obtain rfl : w = wx := hwx.symm
    go_wp2_with fail
    refine DR.out.mono ?_
    rintro e w1 ⟨cm, Lm, u, rfl, hlm, o1, b1⟩
    obtain ⟨vm, qm, rfl⟩ := o1.shape
    have B1 := Lib.hid b1
    have O1 := Lib.hid o1
    clear o1 b1 DR
    obtain ⟨mm, Y, lcd, CT, LT, tcd, CF, LF, fcd, RA⟩ := mta_all cm Lm.length (fun i => Lm[i]?.getD 0)
    have hlt := RA.lt
    have hlf := RA.lf
    have RA := Lib.hid RA
    have A2' : ∃ w2, w2 = w1.alloc (.cells #[.int .i64 cm, .slice vm Lm.length qm] 26) := ⟨_, rfl⟩
    obtain ⟨w2, hw2⟩ := A2'
    have M2 : Hid (OwnB w w1.heap.size cm (.slice vm Lm.length qm) Lm w2) := Lib.hid (by rw [hw2]; exact OwnB.start B1.out.size O1.out)
    have B2 : Hid (Below w.heap.size w w2) := Lib.hid (by rw [hw2]; exact B1.out.alloc B1.out.size _)
    go_wp2_with fail
    rw [← hw2]
    clear hw2 O1 B1 
    generalize w1.heap.size = g3 at *
    refine (RA.out.iL w2 _ M2.out.rd).mono ?_
    rintro e w3 ⟨U, US, rfl, f3⟩
    have b3 := f3.bel
    have F3 : Hid (FamW w2.heap.size U mm US Y w3) := Lib.hid f3.fam
    clear f3
    generalize w2.heap.size = fB at F3
    have B3 := Lib.hid (B2.out.trans (b3.mono B2.out.size))
    have M3 := Lib.hid (M2.out.up b3)
    clear b3 B2 M2
    have xMc0 := M3.out.box.c0
    have xMc1 := M3.out.box.c1
    go_wp2_with fail
    clear xMc0 xMc1
    refine (RA.out.sL w3 _ M3.out.rd).mono ?_
    rintro e w4 ⟨U2, US2, rfl, f4⟩
    have b4 := f4.bel
    have D4 : Hid (FamW w3.heap.size U2 mm US2 Y w4) := Lib.hid f4.fam
    clear f4
    generalize w3.heap.size = dB at D4
    have B4 := Lib.hid (B3.out.trans (b4.mono B3.out.size))
    have M4 := Lib.hid (M3.out.up b4)
    have F4 := Lib.hid (F3.out.up b4)
    clear b4 B3 M3 F3
    have KEEP : Hid (∀ wx, Below w4.heap.size w4 wx → (wx.cell? ⟨g3, 0, none⟩ = some (.int .i64 cm) ∧ wx.cell? ⟨g3, 1, none⟩ = some (.slice vm Lm.length qm) ∧ Below w4.heap.size w4 wx)) :=
      Lib.hid (fun wx hb => ⟨(M4.out.box.up hb).c0, (M4.out.box.up hb).c1, hb⟩)
    have FD := Lib.hid (F4.out.up (Below.refl w4.heap.size w4).drew)
    have DD := Lib.hid (D4.out.up (Below.refl w4.heap.size w4).drew)
    go_wp2_with fail
    go_region_held3 (fun wx => wx.cell? ⟨g3, 0, none⟩ = some (.int .i64 cm) ∧ wx.cell? ⟨g3, 1, none⟩ = some (.slice vm Lm.length qm) ∧ Below w4.heap.size w4 wx)
      (first | exact KEEP.out _ (Below.refl _ _).drew | exact KEEP.out _ (by assumption))
      (first | (go_at_call 19; refine (same9_same U U2 mm _ _ US US2 Y _ FD.out DD.out).mono ?_; rintro e wa ⟨rfl, q, rfl⟩; have za := below_drewN (Below.refl w4.heap.size w4) (1 + q)) | (go_at_call 20; refine (implIs_any cm _ Lm.length _ _ (M4.out.rd.below za)).mono ?_; rintro e wb ⟨rfl, bb⟩; have zb := za.step bb) | (go_at_call 21; refine (specIsMatrix_any cm _ Lm.length _ _ (M4.out.rd.below zb)).mono ?_; rintro e w5 ⟨rfl, bc⟩; have b5 := zb.step bc))
    clear KEEP FD DD za zb bb bc
    have B5 := Lib.hid (B4.out.trans (b5.mono B4.out.size))
    have M5 := Lib.hid (M4.out.up b5)
    have F5 := Lib.hid (F4.out.up b5)
    clear b5 B4 M4 F4
    go_wp2_with fail
    refine (DrawLists_any a0 len0 cap0 w5 (code_mono (HC.out.below B5.out) B5.out.size) hm).mono ?_
    rintro e w6 ⟨zl, V, ml, X, rfl, r6, b6⟩
    have R6 : Hid (RdW V ml X w6) := Lib.hid r6
    clear r6
    have B6 := Lib.hid (B5.out.trans (b6.mono B5.out.size))
    have M6 := Lib.hid (M5.out.up b6)
    have F6 := Lib.hid (F5.out.up b6)
    clear b6 B5 M5 F5
    obtain ⟨CL, LL, lc2, hll, SPL, IML⟩ := MatrixOfLists_both zl ml X
    have SPL := Lib.hid SPL
    have IML := Lib.hid IML
    go_wp2_with fail
    refine (IML.out w6 V R6.out).mono ?_
    rintro e w7 ⟨u, rfl, o7, b7⟩
    obtain ⟨vl, ql, rfl⟩ := o7.shape
    have O7 := Lib.hid (own_base o7 B6.out.size)
    clear o7
    have B7 := Lib.hid (B6.out.trans (b7.mono B6.out.size))
    have M7 := Lib.hid (M6.out.up b7)
    have F7 := Lib.hid (F6.out.up b7)
    have R7 := Lib.hid (R6.out.up b7)
    clear b7 B6 M6 F6 R6
    have A8' : ∃ w8, w8 = w7.alloc (.cells #[.int .i64 CL, .slice vl LL.length ql] 26) := ⟨_, rfl⟩
    obtain ⟨w8, hw8⟩ := A8'
    have A8 : Hid (OwnB w w7.heap.size CL (.slice vl LL.length ql) LL w8) := Lib.hid (by rw [hw8]; exact OwnB.start B7.out.size O7.out)
    have B8 : Hid (Below w.heap.size w w8) := Lib.hid (by rw [hw8]; exact B7.out.alloc B7.out.size _)
    have M8 : Hid (OwnB w g3 cm (.slice vm Lm.length qm) Lm w8) := Lib.hid (by rw [hw8]; exact M7.out.alloc _)
    have F8 : Hid (FamW fB U mm US Y w8) := Lib.hid (by rw [hw8]; exact F7.out.alloc _)
    have R8 : Hid (RdW V ml X w8) := Lib.hid (by rw [hw8]; exact R7.out.alloc _)
    go_wp2_with fail
    rw [← hw8]
    clear hw8 O7 B7 M7 F7 R7
    generalize w7.heap.size = g10 at *
    refine (SPL.out w8 V R8.out).mono ?_
    rintro e w9 ⟨u, rfl, o9, b9⟩
    obtain ⟨vq, qq, rfl⟩ := o9.shape
    have O9 := Lib.hid (own_base o9 B8.out.size)
    clear o9
    have B9 := Lib.hid (B8.out.trans (b9.mono B8.out.size))
    have M9 := Lib.hid (M8.out.up b9)
    have F9 := Lib.hid (F8.out.up b9)
    have A9 := Lib.hid (A8.out.up b9)
    clear b9 B8 M8 F8 A8
    have A10' : ∃ w10, w10 = w9.alloc (.cells #[.int .i64 CL, .slice vq LL.length qq] 26) := ⟨_, rfl⟩
    obtain ⟨w10, hw10⟩ := A10'
    have Q10 : Hid (OwnB w w9.heap.size CL (.slice vq LL.length qq) LL w10) := Lib.hid (by rw [hw10]; exact OwnB.start B9.out.size O9.out)
    have B10 : Hid (Below w.heap.size w w10) := Lib.hid (by rw [hw10]; exact B9.out.alloc B9.out.size _)
    have M10 : Hid (OwnB w g3 cm (.slice vm Lm.length qm) Lm w10) := Lib.hid (by rw [hw10]; exact M9.out.alloc _)
    have F10 : Hid (FamW fB U mm US Y w10) := Lib.hid (by rw [hw10]; exact F9.out.alloc _)
    have A10 : Hid (OwnB w g10 CL (.slice vl LL.length ql) LL w10) := Lib.hid (by rw [hw10]; exact A9.out.alloc _)
    have xAc0 := (A9.out.alloc (.cells #[.int .i64 CL, .slice vq LL.length qq] 26)).box.c0
    have xAc1 := (A9.out.alloc (.cells #[.int .i64 CL, .slice vq LL.length qq] 26)).box.c1
    go_wp2_with fail
    rw [← hw10]
    clear hw10 O9 B9 M9 F9 A9 xAc0 xAc1
    generalize w9.heap.size = g12 at *
    refine (matrix9_same CL _ _ LL.length _ w10 A10.out.rd Q10.out.rd).mono ?_
    rintro e w11 ⟨rfl, b11⟩
    have B11 := Lib.hid (B10.out.trans (b11.mono B10.out.size))
    have M11 := Lib.hid (M10.out.up b11)
    have F11 := Lib.hid (F10.out.up b11)
    clear b11 B10 M10 F10
    clear Q10 A10 R8 SPL IML
    go_wp2_with fail
    refine (DrawTimes_any a0 len0 cap0 w11 (code_mono (HC.out.below B11.out) B11.out.size) hm).mono ?_
    rintro e w12 ⟨xt, ct, Lt, u, rfl, hlt2, o12, b12⟩
    obtain ⟨vt, qt, rfl⟩ := o12.shape
    have O12 := Lib.hid (own_base o12 B11.out.size)
    clear o12
    have B12 := Lib.hid (B11.out.trans (b12.mono B11.out.size))
    have M12 := Lib.hid (M11.out.up b12)
    have F12 := Lib.hid (F11.out.up b12)
    clear b12 B11 M11 F11
    obtain ⟨tv, tcd2, ST, IT⟩ := TimesRow_both ct Lt.length (fun i => Lt[i]?.getD 0) xt
    have ST := Lib.hid ST
    have IT := Lib.hid IT
    have A13' : ∃ w13, w13 = w12.alloc (.cells #[.int .i64 ct, .slice vt Lt.length qt] 26) := ⟨_, rfl⟩
    obtain ⟨w13, hw13⟩ := A13'
    have N13 : Hid (OwnB w w12.heap.size ct (.slice vt Lt.length qt) Lt w13) := Lib.hid (by rw [hw13]; exact OwnB.start B12.out.size O12.out)
    have B13 : Hid (Below w.heap.size w w13) := Lib.hid (by rw [hw13]; exact B12.out.alloc B12.out.size _)
    have M13 : Hid (OwnB w g3 cm (.slice vm Lm.length qm) Lm w13) := Lib.hid (by rw [hw13]; exact M12.out.alloc _)
    have F13 : Hid (FamW fB U mm US Y w13) := Lib.hid (by rw [hw13]; exact F12.out.alloc _)
    go_wp2_with fail
    rw [← hw13]
    clear hw13 O12 B12 M12 F12
    generalize w12.heap.size = g15 at *
    refine (IT.out w13 _ N13.out.rd).mono ?_
    rintro e w14 ⟨rfl, b14⟩
    have B14 := Lib.hid (B13.out.trans (b14.mono B13.out.size))
    have M14 := Lib.hid (M13.out.up b14)
    have F14 := Lib.hid (F13.out.up b14)
    have N14 := Lib.hid (N13.out.up b14)
    clear b14 B13 M13 F13 N13
    have xNc0 := N14.out.box.c0
    have xNc1 := N14.out.box.c1
    go_wp2_with fail
    clear xNc0 xNc1
    refine (ST.out w14 _ N14.out.rd).mono ?_
    rintro e w15 ⟨rfl, b15⟩
    have B15 := Lib.hid (B14.out.trans (b15.mono B14.out.size))
    have M15 := Lib.hid (M14.out.up b15)
    have F15 := Lib.hid (F14.out.up b15)
    clear b15 B14 M14 F14
    clear N14 ST IT
    go_wp2_with fail
    refine (DrawMul_any a0 len0 cap0 w15 (code_mono (HC.out.below B15.out) B15.out.size) hm).mono ?_
    rintro e w16 ⟨ca, La, u1, cb, Lb, u2, rfl, hla, hlb, oa16, ob16, b16⟩
    obtain ⟨va, qa, rfl⟩ := oa16.shape
    obtain ⟨vb, qb, rfl⟩ := ob16.shape
    have OA16 := Lib.hid (own_base oa16 B15.out.size)
    have OB16 := Lib.hid (own_base ob16 B15.out.size)
    clear oa16 ob16
    have B16 := Lib.hid (B15.out.trans (b16.mono B15.out.size))
    have M16 := Lib.hid (M15.out.up b16)
    have F16 := Lib.hid (F15.out.up b16)
    clear b16 B15 M15 F15
    obtain ⟨CP, LP, pcd, RM⟩ := mtm_all ca La.length (fun i => La[i]?.getD 0) cb Lb.length (fun i => Lb[i]?.getD 0)
    have hlp := RM.lp
    have RM := Lib.hid RM
    have A18' : ∃ w18, w18 = ((w16.alloc (.cells #[.int .i64 ca, .slice va La.length qa] 26)).alloc (.cells #[.int .i64 cb, .slice vb Lb.length qb] 26)) := ⟨_, rfl⟩
    obtain ⟨w18, hw18⟩ := A18'
    have b18 : Below w16.heap.size w16 w18 := by rw [hw18]; exact ((Below.refl _ _).alloc (Nat.le_refl _) _).alloc (by simp) _
    have E18 : Hid (OwnB w w16.heap.size ca (.slice va La.length qa) La w18) := Lib.hid ⟨own_below OA16.out b18, by rw [hw18]; exact (Box.new w16 _ _ _).alloc _, B16.out.size⟩
    have G18 : Hid (OwnB w (w16.heap.size + 1) cb (.slice vb Lb.length qb) Lb w18) := Lib.hid ⟨own_below OB16.out b18, by
      rw [hw18]
      have := Box.new (w16.alloc (.cells #[.int .i64 ca, .slice va La.length qa] 26)) 26 (.int .i64 cb) (.slice vb Lb.length qb)
      simpa using this, by have := B16.out.size; omega⟩
    have B18 := Lib.hid (B16.out.trans (b18.mono B16.out.size))
    have M18 := Lib.hid (M16.out.up b18)
    have F18 := Lib.hid (F16.out.up b18)
    clear b18 B16 M16 F16 OA16 OB16
    go_wp2_with fail
    rw [← hw18]
    clear hw18
    generalize w16.heap.size + 1 = g21 at *
    generalize w16.heap.size = g20 at *
    refine (RM.out.iP w18 _ _ E18.out.rd G18.out.rd).mono ?_
    rintro e w19 ⟨u, rfl, o19, b19⟩
    obtain ⟨vp, qp, rfl⟩ := o19.shape
    have O19 := Lib.hid (own_base o19 B18.out.size)
    clear o19
    have B19 := Lib.hid (B18.out.trans (b19.mono B18.out.size))
    have M19 := Lib.hid (M18.out.up b19)
    have F19 := Lib.hid (F18.out.up b19)
    have E19 := Lib.hid (E18.out.up b19)
    have G19 := Lib.hid (G18.out.up b19)
    clear b19 B18 M18 F18 E18 G18
    have A20' : ∃ w20, w20 = w19.alloc (.cells #[.int .i64 CP, .slice vp LP.length qp] 26) := ⟨_, rfl⟩
    obtain ⟨w20, hw20⟩ := A20'
    have P20 : Hid (OwnB w w19.heap.size CP (.slice vp LP.length qp) LP w20) := Lib.hid (by rw [hw20]; exact OwnB.start B19.out.size O19.out)
    have B20 : Hid (Below w.heap.size w w20) := Lib.hid (by rw [hw20]; exact B19.out.alloc B19.out.size _)
    have M20 : Hid (OwnB w g3 cm (.slice vm Lm.length qm) Lm w20) := Lib.hid (by rw [hw20]; exact M19.out.alloc _)
    have F20 : Hid (FamW fB U mm US Y w20) := Lib.hid (by rw [hw20]; exact F19.out.alloc _)
    have E20 : Hid (OwnB w g20 ca (.slice va La.length qa) La w20) := Lib.hid (by rw [hw20]; exact E19.out.alloc _)
    have G20 : Hid (OwnB w g21 cb (.slice vb Lb.length qb) Lb w20) := Lib.hid (by rw [hw20]; exact G19.out.alloc _)
    have xEc0 := (E19.out.alloc (.cells #[.int .i64 CP, .slice vp LP.length qp] 26)).box.c0
    have xEc1 := (E19.out.alloc (.cells #[.int .i64 CP, .slice vp LP.length qp] 26)).box.c1
    have xGc0 := (G19.out.alloc (.cells #[.int .i64 CP, .slice vp LP.length qp] 26)).box.c0
    have xGc1 := (G19.out.alloc (.cells #[.int .i64 CP, .slice vp LP.length qp] 26)).box.c1
    go_wp2_with fail
    rw [← hw20]
    clear hw20 O19 B19 M19 F19 E19 G19 xEc0 xEc1 xGc0 xGc1
    generalize w19.heap.size = g22 at *
    refine (RM.out.sP w20 _ _ E20.out.rd G20.out.rd).mono ?_
    rintro e w21 ⟨u, rfl, o21, b21⟩
    obtain ⟨vq2, qq2, rfl⟩ := o21.shape
    have O21 := Lib.hid (own_base o21 B20.out.size)
    clear o21
    have B21 := Lib.hid (B20.out.trans (b21.mono B20.out.size))
    have M21 := Lib.hid (M20.out.up b21)
    have F21 := Lib.hid (F20.out.up b21)
    have E21 := Lib.hid (E20.out.up b21)
    have G21 := Lib.hid (G20.out.up b21)
    have P21 := Lib.hid (P20.out.up b21)
    clear b21 B20 M20 F20 E20 G20 P20
    have A22' : ∃ w22, w22 = w21.alloc (.cells #[.int .i64 CP, .slice vq2 LP.length qq2] 26) := ⟨_, rfl⟩
    obtain ⟨w22, hw22⟩ := A22'
    have Q22 : Hid (OwnB w w21.heap.size CP (.slice vq2 LP.length qq2) LP w22) := Lib.hid (by rw [hw22]; exact OwnB.start B21.out.size O21.out)
    have B22 : Hid (Below w.heap.size w w22) := Lib.hid (by rw [hw22]; exact B21.out.alloc B21.out.size _)
    have M22 : Hid (OwnB w g3 cm (.slice vm Lm.length qm) Lm w22) := Lib.hid (by rw [hw22]; exact M21.out.alloc _)
    have F22 : Hid (FamW fB U mm US Y w22) := Lib.hid (by rw [hw22]; exact F21.out.alloc _)
    have E22 : Hid (OwnB w g20 ca (.slice va La.length qa) La w22) := Lib.hid (by rw [hw22]; exact E21.out.alloc _)
    have G22 : Hid (OwnB w g21 cb (.slice vb Lb.length qb) Lb w22) := Lib.hid (by rw [hw22]; exact G21.out.alloc _)
    have P22 : Hid (OwnB w g22 CP (.slice vp LP.length qp) LP w22) := Lib.hid (by rw [hw22]; exact P21.out.alloc _)
    have xPc0 := (P21.out.alloc (.cells #[.int .i64 CP, .slice vq2 LP.length qq2] 26)).box.c0
    have xPc1 := (P21.out.alloc (.cells #[.int .i64 CP, .slice vq2 LP.length qq2] 26)).box.c1
    go_wp2_with fail
    rw [← hw22]
    clear hw22 O21 B21 M21 F21 E21 G21 P21 xPc0 xPc1
    generalize w21.heap.size = g24 at *
    refine (matrix9_same CP _ _ LP.length _ w22 P22.out.rd Q22.out.rd).mono ?_
    rintro e w23 ⟨rfl, b23⟩
    have B23 := Lib.hid (B22.out.trans (b23.mono B22.out.size))
    have M23 := Lib.hid (M22.out.up b23)
    have F23 := Lib.hid (F22.out.up b23)
    have E23 := Lib.hid (E22.out.up b23)
    have G23 := Lib.hid (G22.out.up b23)
    have P23 := Lib.hid (P22.out.up b23)
    clear b23 B22 M22 F22 E22 G22 P22
    clear Q22
    go_upto_region 23 with fail
    go_cut [174] from 155 to 174 (fun s wx => ∃ bb : Bool, s = .bool bb ∧ (bb = true → (pcd = 0 ∧ La.length ≤ 60 ∧ Lb.length ≤ 60)) ∧ wx = w23)
    case first =>
      have ec1 := E23.out.box.c1
      have gc1 := G23.out.box.c1
      by_cases h1 : pcd = 0
      · subst h1
        by_cases h2 : 0 < La.length
        · have h2' : (0 : Int) < (La.length : Int) := by omega
          by_cases h3 : La.length ≤ 60
          · have h3' : (La.length : Int) ≤ 60 := by omega
            by_cases h4 : Lb.length ≤ 60
            · have h4' : (Lb.length : Int) ≤ 60 := by omega
              go_wp2_with fail
              go_meet
              first | exact ⟨true, rfl, fun _ => ⟨trivial, h3, h4⟩, rfl⟩ | exact ⟨true, rfl, fun _ => ⟨rfl, h3, h4⟩, rfl⟩
            · have h4' : ¬ (Lb.length : Int) ≤ 60 := by omega
              go_wp2_with fail
              go_meet
              exact ⟨false, rfl, (fun h => by cases h), rfl⟩
          · have h3' : ¬ (La.length : Int) ≤ 60 := by omega
            go_wp2_with fail
            go_meet
            exact ⟨false, rfl, (fun h => by cases h), rfl⟩
        · have h2' : ¬ (0 : Int) < (La.length : Int) := by omega
          go_wp2_with fail
          go_meet
          exact ⟨false, rfl, (fun h => by cases h), rfl⟩
      · have h1' : (pcd == 0) = false := by rw [beq_eq_false_iff_ne]; exact h1
        go_wp2_with fail
        go_meet
        exact ⟨false, rfl, (fun h => by cases h), rfl⟩
    case rest =>
      obtain ⟨bb, rfl, hbb, hwc⟩ := hcut
      rw [hwc]
      clear hwc
      go_upto_if 174 with fail
      go_cut [26, 27, 28, 29, 30, 31, 32] from 175 to 216 (fun _ _ _ _ _ _ _ wx => Hid (Below w.heap.size w wx) ∧ Hid (OwnB w g3 cm (.slice vm Lm.length qm) Lm wx) ∧ Hid (FamW fB U mm US Y wx))
      case first =>
        cases bb
        · go_wp2_with fail
          go_meet
          exact ⟨B23, M23, F23⟩
        · obtain ⟨h1, h3, h4⟩ := hbb rfl
          subst h1
          have ec1 := E23.out.box.c1
          have YES := Lib.hid (RM.out.yes rfl h3 h4)
          have KEEP : Hid (∀ wx, Below w23.heap.size w23 wx → (wx.cell? ⟨g20, 1, none⟩ = some (.slice va La.length qa) ∧ Below w23.heap.size w23 wx)) :=
            Lib.hid (fun wx hb => ⟨(E23.out.box.up hb).c1, hb⟩)
          have HN := Lib.hid (shl_caps La.length)
          have CK : Hid (∀ wx, Below w23.heap.size w23 wx → Code wx wx.heap.size a0 len0) := Lib.hid (fun wx hb => code_mono (HC.out.below (B23.out.trans (hb.mono B23.out.size))) (B23.out.trans (hb.mono B23.out.size)).size)
          go_upto_region 24 with fail
          go_cut [26] from 175 to 183 (fun s wx => ∃ x : Nat, s = .int .i64 (x : Int) ∧ x < 2 ^ La.length ∧ Below w23.heap.size w23 wx)
          case first =>
            go_region_law (first | (go_simp; go_at_call 32; refine (roll_any a0 len0 cap0 9101 _ (CK.out _ (Below.refl _ _).drew) hm).mono ?_; rintro e wa ⟨rfl, ba, da⟩; have za := below_drew1 ba; have ec2 := (KEEP.out _ za).1) | (go_simp; go_at_call 33; refine (dice_le La.length _ _ _ wa da (by exact Eq.mp (by simp) HN.out.1) (by exact Eq.mp (by simp) HN.out.2.1) (by exact Eq.mp (by simp) HN.out.2.2)).mono ?_; rintro e w24 ⟨x, rfl, hx, bb⟩; have b24 := za.trans bb))
            all_goals
              go_wp2_with fail
              all_goals
                go_meet
                exact ⟨x, rfl, hx, b24⟩
          case rest =>
            obtain ⟨x, rfl, hx, b24⟩ := hcut
            obtain ⟨w24, hw24⟩ : ∃ w24, w24 = wc := ⟨_, rfl⟩
            rw [← hw24] at b24 ⊢
            clear hw24 KEEP CK ec1
            have T24 := Lib.hid (YES.out x hx)
            clear YES hx
            have B24 := Lib.hid (B23.out.trans (b24.mono B23.out.size))
            have M24 := Lib.hid (M23.out.up b24)
            have F24 := Lib.hid (F23.out.up b24)
            have E24 := Lib.hid (E23.out.up b24)
            have G24 := Lib.hid (G23.out.up b24)
            have P24 := Lib.hid (P23.out.up b24)
            clear b24 B23 M23 F23 E23 G23 P23
            obtain ⟨f, t, TA, TB, TC⟩ := T24.out
            have TA := Lib.hid TA
            have TB := Lib.hid TB
            have TC := Lib.hid TC
            clear T24
            have xEc0 := E24.out.box.c0
            have xEc1 := E24.out.box.c1
            go_wp2_with fail
            clear xEc0 xEc1
            refine (TA.out w24 _ E24.out.rd).mono ?_
            rintro e w25 ⟨rfl, b25⟩
            have B25 := Lib.hid (B24.out.trans (b25.mono B24.out.size))
            have M25 := Lib.hid (M24.out.up b25)
            have F25 := Lib.hid (F24.out.up b25)
            have G25 := Lib.hid (G24.out.up b25)
            have P25 := Lib.hid (P24.out.up b25)
            clear b25 B24 M24 F24 G24 P24
            have xGc0 := G25.out.box.c0
            have xGc1 := G25.out.box.c1
            go_wp2_with fail
            clear xGc0 xGc1
            refine (TB.out w25 _ G25.out.rd).mono ?_
            rintro e w26 ⟨rfl, b26⟩
            have B26 := Lib.hid (B25.out.trans (b26.mono B25.out.size))
            have M26 := Lib.hid (M25.out.up b26)
            have F26 := Lib.hid (F25.out.up b26)
            have P26 := Lib.hid (P25.out.up b26)
            clear b26 B25 M25 F25 P25
            have xPc0 := P26.out.box.c0
            have xPc1 := P26.out.box.c1
            go_wp2_with fail
            clear xPc0 xPc1
            refine (TC.out w26 _ P26.out.rd).mono ?_
            rintro e w27 ⟨rfl, b27⟩
            have B27 := Lib.hid (B26.out.trans (b27.mono B26.out.size))
            have M27 := Lib.hid (M26.out.up b27)
            have F27 := Lib.hid (F26.out.up b27)
            clear b27 B26 M26 F26
            go_wp2_with fail
            go_meet
            exact ⟨B27, M27, F27⟩
      case rest =>
        clear B23 M23 F23 E23 G23 P23 RM
        obtain ⟨B30, M30, F30⟩ := hcut
        obtain ⟨w30, hw30⟩ : ∃ w30, w30 = wc := ⟨_, rfl⟩
        rw [← hw30] at B30 M30 F30 ⊢
        clear hw30
        have xMc0 := M30.out.box.c0
        have xMc1 := M30.out.box.c1
        go_wp2_with fail
        clear xMc0 xMc1
        refine (RA.out.iT w30 _ M30.out.rd).mono ?_
        rintro e w31 ⟨u, rfl, o31, b31⟩
        obtain ⟨vT, qT, rfl⟩ := o31.shape
        have O31 := Lib.hid (own_base o31 B30.out.size)
        clear o31
        have B31 := Lib.hid (B30.out.trans (b31.mono B30.out.size))
        have M31 := Lib.hid (M30.out.up b31)
        have F31 := Lib.hid (F30.out.up b31)
        clear b31 B30 M30 F30
        have A32' : ∃ w32, w32 = w31.alloc (.cells #[.int .i64 CT, .slice vT LT.length qT] 26) := ⟨_, rfl⟩
        obtain ⟨w32, hw32⟩ := A32'
        have T32 : Hid (OwnB w w31.heap.size CT (.slice vT LT.length qT) LT w32) := Lib.hid (by rw [hw32]; exact OwnB.start B31.out.size O31.out)
        have B32 : Hid (Below w.heap.size w w32) := Lib.hid (by rw [hw32]; exact B31.out.alloc B31.out.size _)
        have M32 : Hid (OwnB w g3 cm (.slice vm Lm.length qm) Lm w32) := Lib.hid (by rw [hw32]; exact M31.out.alloc _)
        have F32 : Hid (FamW fB U mm US Y w32) := Lib.hid (by rw [hw32]; exact F31.out.alloc _)
        have xMc0 := (M31.out.alloc (.cells #[.int .i64 CT, .slice vT LT.length qT] 26)).box.c0
        have xMc1 := (M31.out.alloc (.cells #[.int .i64 CT, .slice vT LT.length qT] 26)).box.c1
        go_wp2_with fail
        rw [← hw32]
        clear hw32 O31 B31 M31 F31 xMc0 xMc1
        generalize w31.heap.size = g33 at *
        refine (RA.out.sT w32 _ M32.out.rd).mono ?_
        rintro e w33 ⟨u, rfl, o33, b33⟩
        obtain ⟨vq, qq, rfl⟩ := o33.shape
        have O33 := Lib.hid (own_base o33 B32.out.size)
        clear o33
        have B33 := Lib.hid (B32.out.trans (b33.mono B32.out.size))
        have M33 := Lib.hid (M32.out.up b33)
        have F33 := Lib.hid (F32.out.up b33)
        have T33 := Lib.hid (T32.out.up b33)
        clear b33 B32 M32 F32 T32
        have A34' : ∃ w34, w34 = w33.alloc (.cells #[.int .i64 CT, .slice vq LT.length qq] 26) := ⟨_, rfl⟩
        obtain ⟨w34, hw34⟩ := A34'
        have Q34 : Hid (OwnB w w33.heap.size CT (.slice vq LT.length qq) LT w34) := Lib.hid (by rw [hw34]; exact OwnB.start B33.out.size O33.out)
        have B34 : Hid (Below w.heap.size w w34) := Lib.hid (by rw [hw34]; exact B33.out.alloc B33.out.size _)
        have M34 : Hid (OwnB w g3 cm (.slice vm Lm.length qm) Lm w34) := Lib.hid (by rw [hw34]; exact M33.out.alloc _)
        have F34 : Hid (FamW fB U mm US Y w34) := Lib.hid (by rw [hw34]; exact F33.out.alloc _)
        have T34 : Hid (OwnB w g33 CT (.slice vT LT.length qT) LT w34) := Lib.hid (by rw [hw34]; exact T33.out.alloc _)
        have xTc0 := (T33.out.alloc (.cells #[.int .i64 CT, .slice vq LT.length qq] 26)).box.c0
        have xTc1 := (T33.out.alloc (.cells #[.int .i64 CT, .slice vq LT.length qq] 26)).box.c1
        go_wp2_with fail
        rw [← hw34]
        clear hw34 O33 B33 M33 F33 T33 xTc0 xTc1
        generalize w33.heap.size = g35 at *
        refine (matrix9_same CT _ _ LT.length _ w34 T34.out.rd Q34.out.rd).mono ?_
        rintro e w35 ⟨rfl, b35⟩
        have B35 := Lib.hid (B34.out.trans (b35.mono B34.out.size))
        have M35 := Lib.hid (M34.out.up b35)
        have F35 := Lib.hid (F34.out.up b35)
        have T35 := Lib.hid (T34.out.up b35)
        clear b35 B34 M34 F34 T34
        clear Q34
        have xMc0 := M35.out.box.c0
        have xMc1 := M35.out.box.c1
        go_wp2_with fail
        clear xMc0 xMc1
        refine (RA.out.iF w35 _ M35.out.rd (HT.out.below B35.out)).mono ?_
        rintro e w36 ⟨u, rfl, o36, b36⟩
        obtain ⟨vD, qD, rfl⟩ := o36.shape
        have O36 := Lib.hid (own_base o36 B35.out.size)
        clear o36
        have B36 := Lib.hid (B35.out.trans (b36.mono B35.out.size))
        have M36 := Lib.hid (M35.out.up b36)
        have F36 := Lib.hid (F35.out.up b36)
        have T36 := Lib.hid (T35.out.up b36)
        clear b36 B35 M35 F35 T35
        have A37' : ∃ w37, w37 = w36.alloc (.cells #[.int .i64 CF, .slice vD LF.length qD] 26) := ⟨_, rfl⟩
        obtain ⟨w37, hw37⟩ := A37'
        have D37 : Hid (OwnB w w36.heap.size CF (.slice vD LF.length qD) LF w37) := Lib.hid (by rw [hw37]; exact OwnB.start B36.out.size O36.out)
        have B37 : Hid (Below w.heap.size w w37) := Lib.hid (by rw [hw37]; exact B36.out.alloc B36.out.size _)
        have M37 : Hid (OwnB w g3 cm (.slice vm Lm.length qm) Lm w37) := Lib.hid (by rw [hw37]; exact M36.out.alloc _)
        have F37 : Hid (FamW fB U mm US Y w37) := Lib.hid (by rw [hw37]; exact F36.out.alloc _)
        have T37 : Hid (OwnB w g33 CT (.slice vT LT.length qT) LT w37) := Lib.hid (by rw [hw37]; exact T36.out.alloc _)
        have xMc0 := (M36.out.alloc (.cells #[.int .i64 CF, .slice vD LF.length qD] 26)).box.c0
        have xMc1 := (M36.out.alloc (.cells #[.int .i64 CF, .slice vD LF.length qD] 26)).box.c1
        go_wp2_with fail
        rw [← hw37]
        clear hw37 O36 B36 M36 F36 T36 xMc0 xMc1
        generalize w36.heap.size = g37 at *
        refine (RA.out.sF w37 _ M37.out.rd).mono ?_
        rintro e w38 ⟨u, rfl, o38, b38⟩
        obtain ⟨vr, qr, rfl⟩ := o38.shape
        have O38 := Lib.hid (own_base o38 B37.out.size)
        clear o38
        have B38 := Lib.hid (B37.out.trans (b38.mono B37.out.size))
        have M38 := Lib.hid (M37.out.up b38)
        have F38 := Lib.hid (F37.out.up b38)
        have T38 := Lib.hid (T37.out.up b38)
        have D38 := Lib.hid (D37.out.up b38)
        clear b38 B37 M37 F37 T37 D37
        have A39' : ∃ w39, w39 = w38.alloc (.cells #[.int .i64 CF, .slice vr LF.length qr] 26) := ⟨_, rfl⟩
        obtain ⟨w39, hw39⟩ := A39'
        have Q39 : Hid (OwnB w w38.heap.size CF (.slice vr LF.length qr) LF w39) := Lib.hid (by rw [hw39]; exact OwnB.start B38.out.size O38.out)
        have B39 : Hid (Below w.heap.size w w39) := Lib.hid (by rw [hw39]; exact B38.out.alloc B38.out.size _)
        have M39 : Hid (OwnB w g3 cm (.slice vm Lm.length qm) Lm w39) := Lib.hid (by rw [hw39]; exact M38.out.alloc _)
        have F39 : Hid (FamW fB U mm US Y w39) := Lib.hid (by rw [hw39]; exact F38.out.alloc _)
        have T39 : Hid (OwnB w g33 CT (.slice vT LT.length qT) LT w39) := Lib.hid (by rw [hw39]; exact T38.out.alloc _)
        have D39 : Hid (OwnB w g37 CF (.slice vD LF.length qD) LF w39) := Lib.hid (by rw [hw39]; exact D38.out.alloc _)
        have xDc0 := (D38.out.alloc (.cells #[.int .i64 CF, .slice vr LF.length qr] 26)).box.c0
        have xDc1 := (D38.out.alloc (.cells #[.int .i64 CF, .slice vr LF.length qr] 26)).box.c1
        go_wp2_with fail
        rw [← hw39]
        clear hw39 O38 B38 M38 F38 T38 D38 xDc0 xDc1
        generalize w38.heap.size = g39 at *
        refine (matrix9_same CF _ _ LF.length _ w39 D39.out.rd Q39.out.rd).mono ?_
        rintro e w40 ⟨rfl, b40⟩
        have B40 := Lib.hid (B39.out.trans (b40.mono B39.out.size))
        have M40 := Lib.hid (M39.out.up b40)
        have F40 := Lib.hid (F39.out.up b40)
        have T40 := Lib.hid (T39.out.up b40)
        have D40 := Lib.hid (D39.out.up b40)
        clear b40 B39 M39 F39 T39 D39
        clear Q39
        by_cases hk : lcd = 0
        · obtain ⟨ML, hn2, HASK, TT⟩ := RA.out.yes hk
          subst hk
          have eM : (List.range Lm.length).map (fun i => Lm[i]?.getD 0) = Lm := by
            apply List.ext_getElem
            · simp
            · intro i h1 h2
              simp [h2]
          simp only [eM] at ML TT
          have ML := Lib.hid ML
          have HASK := Lib.hid HASK
          have TT := Lib.hid TT
          clear eM RA
          have xMc0 := M40.out.box.c0
          go_wp2_with fail
          clear xMc0
          refine (ML.out w40 _ (Fam.rdss F40.out)).mono ?_
          rintro e w41 ⟨u, rfl, o41, b41⟩
          obtain ⟨vb2, qb2, rfl⟩ := o41.shape
          have O41 := Lib.hid (own_base o41 B40.out.size)
          clear o41
          have B41 := Lib.hid (B40.out.trans (b41.mono B40.out.size))
          have M41 := Lib.hid (M40.out.up b41)
          have T41 := Lib.hid (T40.out.up b41)
          have D41 := Lib.hid (D40.out.up b41)
          clear b41 B40 M40 T40 D40
          clear F40
          have A42' : ∃ w42, w42 = w41.alloc (.cells #[.int .i64 cm, .slice vb2 Lm.length qb2] 26) := ⟨_, rfl⟩
          obtain ⟨w42, hw42⟩ := A42'
          have N42 : Hid (OwnB w w41.heap.size cm (.slice vb2 Lm.length qb2) Lm w42) := Lib.hid (by rw [hw42]; exact OwnB.start B41.out.size O41.out)
          have B42 : Hid (Below w.heap.size w w42) := Lib.hid (by rw [hw42]; exact B41.out.alloc B41.out.size _)
          have M42 : Hid (OwnB w g3 cm (.slice vm Lm.length qm) Lm w42) := Lib.hid (by rw [hw42]; exact M41.out.alloc _)
          have T42 : Hid (OwnB w g33 CT (.slice vT LT.length qT) LT w42) := Lib.hid (by rw [hw42]; exact T41.out.alloc _)
          have D42 : Hid (OwnB w g37 CF (.slice vD LF.length qD) LF w42) := Lib.hid (by rw [hw42]; exact D41.out.alloc _)
          have xMc0 := (M41.out.alloc (.cells #[.int .i64 cm, .slice vb2 Lm.length qb2] 26)).box.c0
          have xMc1 := (M41.out.alloc (.cells #[.int .i64 cm, .slice vb2 Lm.length qb2] 26)).box.c1
          go_wp2_with fail
          rw [← hw42]
          clear hw42 O41 B41 M41 T41 D41 xMc0 xMc1
          generalize w41.heap.size = g41 at *
          refine (matrix9_same cm _ _ Lm.length _ w42 N42.out.rd M42.out.rd).mono ?_
          rintro e w43 ⟨rfl, b43⟩
          have B43 := Lib.hid (B42.out.trans (b43.mono B42.out.size))
          have M43 := Lib.hid (M42.out.up b43)
          have T43 := Lib.hid (T42.out.up b43)
          have D43 := Lib.hid (D42.out.up b43)
          clear b43 B42 M42 T42 D42
          clear N42
          go_wp2_with fail
          go_loopw [43, 44, 45] (fun t _ _ wr => ∃ i : Nat, t = .int .i64 i ∧ i ≤ Lm.length ∧ Hid (Below w.heap.size w wr) ∧ Hid (OwnB w g3 cm (.slice vm Lm.length qm) Lm wr) ∧ Hid (OwnB w g33 CT (.slice vT LT.length qT) LT wr) ∧ Hid (OwnB w g37 CF (.slice vD LF.length qD) LF wr)) (fun t _ _ _ => Lm.length - (intOf t).toNat)
          case atStart => exact ⟨0, rfl, Nat.zero_le _, B43, M43, T43, D43⟩
          case round =>
            clear B43 M43 T43 D43
            obtain ⟨i, rfl, hi, B, M, T, D⟩ := hrel
            have mc1 := M.out.box.c1
            by_cases hlt3 : i < Lm.length
            · have hlt' : (i : Int) < (Lm.length : Int) := by omega
              have HKi := Lib.hid (HASK.out i hlt3)
              obtain ⟨_, _, e, _, hc⟩ := M.out.rd
              cases e
              obtain ⟨bm, om, rfl, hc2⟩ := hc.resolve_left (by omega)
              have c1 : wr.cell? ⟨bm, om + i, none⟩ = some (.int .i64 (Lm[i]?.getD 0)) := hc2 i hlt3
              clear hc hc2
              have CIx := Lib.hid (fun wx (hb : Below wr.heap.size wr wx) => (hb.cell (p := ⟨bm, om + i, none⟩) (World.block_lt_of_cell? wr _ c1)).trans c1)
              generalize Lm[i]?.getD 0 = z at *
              have KEEP : Hid (∀ wx, Below wr.heap.size wr wx → (wx.cell? ⟨g37, 0, none⟩ = some (.int .i64 CF) ∧ wx.cell? ⟨g37, 1, none⟩ = some (.slice vD LF.length qD) ∧ wx.cell? ⟨g3, 1, none⟩ = some (.slice (some ⟨bm, om, none⟩) Lm.length qm) ∧ wx.cell? ⟨bm, om + i, none⟩ = some (.int .i64 z) ∧ Below wr.heap.size wr wx)) :=
                Lib.hid (fun wx hb => ⟨(D.out.box.up hb).c0, (D.out.box.up hb).c1, (M.out.box.up hb).c1, CIx.out wx hb, hb⟩)
              have HTD := Lib.hid (HT.out.below (B.out.trans ((Below.refl wr.heap.size wr).drew.mono B.out.size)))
              have DDr := Lib.hid (D.out.rd.below (Below.refl wr.heap.size wr).drew)
              clear c1
              go_wp2_with fail
              go_region_held3 (fun wx => wx.cell? ⟨g37, 0, none⟩ = some (.int .i64 CF) ∧ wx.cell? ⟨g37, 1, none⟩ = some (.slice vD LF.length qD) ∧ wx.cell? ⟨g3, 1, none⟩ = some (.slice (some ⟨bm, om, none⟩) Lm.length qm) ∧ wx.cell? ⟨bm, om + i, none⟩ = some (.int .i64 z) ∧ Below wr.heap.size wr wx)
                (first | exact KEEP.out _ (Below.refl _ _).drew | exact KEEP.out _ (by assumption))
                (first | (go_at_call 38; refine (HKi.out _ _ DDr.out HTD.out).mono ?_; rintro e wa ⟨rfl, ba⟩; have za := below_drew1 ba))
              have Ba := Lib.hid (B.out.trans (za.mono B.out.size))
              have Ma := Lib.hid (M.out.up za)
              have Ta := Lib.hid (T.out.up za)
              have Da := Lib.hid (D.out.up za)
              clear KEEP mc1 B M T D CIx HKi HTD DDr za ba
              go_wp2_with fail
              go_roundw
              case rel => exact ⟨i + 1, by go_num, by omega, Ba, Ma, Ta, Da⟩
              case measure => simp [intOf]; omega
            · obtain rfl : i = Lm.length := by omega
              by_cases ht : tcd = 0
              · subst ht
                have TT2 := Lib.hid (TT.out rfl)
                clear TT
                obtain ⟨w44, hw44⟩ : ∃ w44, w44 = wr := ⟨_, rfl⟩
                rw [← hw44] at B M T D mc1 ⊢
                have B44 := B
                have M44 := M
                have T44 := T
                clear hw44 B M T D
                have xTc0 := T44.out.box.c0
                have xTc1 := T44.out.box.c1
                go_wp2_with fail
                clear xTc0 xTc1
                clear mc1
                refine (TT2.out w44 _ T44.out.rd).mono ?_
                rintro e w45 ⟨u, rfl, o45, b45⟩
                obtain ⟨vz, qz, rfl⟩ := o45.shape
                have O45 := Lib.hid (own_base o45 B44.out.size)
                clear o45
                have B45 := Lib.hid (B44.out.trans (b45.mono B44.out.size))
                have M45 := Lib.hid (M44.out.up b45)
                clear b45 B44 M44
                clear T44
                have A46' : ∃ w46, w46 = w45.alloc (.cells #[.int .i64 cm, .slice vz Lm.length qz] 26) := ⟨_, rfl⟩
                obtain ⟨w46, hw46⟩ := A46'
                have N46 : Hid (OwnB w w45.heap.size cm (.slice vz Lm.length qz) Lm w46) := Lib.hid (by rw [hw46]; exact OwnB.start B45.out.size O45.out)
                have B46 : Hid (Below w.heap.size w w46) := Lib.hid (by rw [hw46]; exact B45.out.alloc B45.out.size _)
                have M46 : Hid (OwnB w g3 cm (.slice vm Lm.length qm) Lm w46) := Lib.hid (by rw [hw46]; exact M45.out.alloc _)
                have xMc0 := (M45.out.alloc (.cells #[.int .i64 cm, .slice vz Lm.length qz] 26)).box.c0
                have xMc1 := (M45.out.alloc (.cells #[.int .i64 cm, .slice vz Lm.length qz] 26)).box.c1
                go_wp2_with fail
                rw [← hw46]
                clear hw46 O45 B45 M45 xMc0 xMc1
                generalize w45.heap.size = g46 at *
                refine (matrix9_same cm _ _ Lm.length _ w46 N46.out.rd M46.out.rd).mono ?_
                rintro e w47 ⟨rfl, b47⟩
                have B47 := Lib.hid (B46.out.trans (b47.mono B46.out.size))
                clear b47 B46 
                go_wp2_with fail
                go_ret
                exact ⟨rfl, B47.out⟩
              · have ht' : (tcd != 0) = true := by rw [bne_iff_ne]; exact ht
                go_wp2_with fail
                go_ret
                exact ⟨rfl, B.out⟩
        · have hk' : (lcd != 0) = true := by rw [bne_iff_ne]; exact hk
          obtain ⟨e1, e2⟩ := RA.out.no hk
          subst e1
          subst e2
          clear RA
          have dc1 := D40.out.box.c1
          go_wp2_with fail
          go_ret
          exact ⟨rfl, B40.out⟩
  · go_enter Tryd.func3, Tryd.ntmps3
    go_wp2_with fail
    refine (big_yes a0 len0 cap0 w (by omega) hM).mono ?_
    rintro e wx ⟨rfl, hwx⟩
    obtain rfl : w = wx := hwx.symm
    go_wp2_with fail
    go_ret
    exact ⟨rfl, Below.refl _ _⟩
end Go.Proofs.YtdojblmffmefgaaDoor
