/-
  The walk of laws.FnRanks.
-/
import Derived.Test.YtdojblmffmefgaaDoorDRks
import Derived.Test.YtdojblmffmefgaaDoorDSame
import Derived.Test.YtdojblmffmefgaaDoorDDrawR
import Derived.Test.YtdojblmffmefgaaDoorMLaw2
namespace Go.Proofs.YtdojblmffmefgaaDoor
open Go.RowKit
set_option linter.unusedVariables false
set_option maxRecDepth 100000

set_option maxHeartbeats 8000000 in
theorem walk_FnRanks (a0 : Option Addr) (len0 cap0 : Nat) (z0 : List Int) (w : World) (w0 : IsRow .u8 w a0 len0 cap0 z0) (hT : T0 w) :
    Calls Tryd.prog 4 #[.slice a0 len0 cap0] w fun e w' => e = .returned (.bool true) ∧ Below w.heap.size w w' := by
  obtain ⟨hc, hM⟩ := w0.code
  clear w0
  have HT := Lib.hid hT
  clear hT
  have t2 := Tryd.underlying26
  by_cases hm : len0 ≤ 4096
  · have HC := Lib.hid hc
    have DR := Lib.hid (DrawKer_any a0 len0 cap0 w hc hm)
    clear hc
    go_enter Tryd.func4, Tryd.ntmps4
    go_wp2_with fail
    refine (big_no a0 len0 cap0 w hm).mono ?_
    rintro e wx ⟨rfl, hwx⟩
    obtain rfl : w = wx := hwx.symm
    go_wp2_with fail
    refine DR.out.mono ?_
    rintro e w1 ⟨cm, Lm, u, rfl, hlm, o1, b1⟩
    obtain ⟨vm, qm, rfl⟩ := o1.shape
    have B1 := Lib.hid b1
    have O1 := Lib.hid o1
    clear o1 b1 DR
    obtain ⟨rv, rcd, CK, LK, kcd, RA⟩ := rka_all cm Lm.length (fun i => Lm[i]?.getD 0)
    have hlk := RA.lk
    have RA := Lib.hid RA
    have A2 : ∃ w2, w2 = w1.alloc (.cells #[.int .i64 cm, .slice vm Lm.length qm] 26) := ⟨_, rfl⟩
    obtain ⟨w2, hw2⟩ := A2
    have M2 : Hid (OwnB w w1.heap.size cm (.slice vm Lm.length qm) Lm w2) := Lib.hid (by rw [hw2]; exact OwnB.start B1.out.size O1.out)
    have B2 : Hid (Below w.heap.size w w2) := Lib.hid (by rw [hw2]; exact B1.out.alloc B1.out.size _)
    go_wp2_with fail
    rw [← hw2]
    clear hw2 O1 B1 
    generalize w1.heap.size = g3 at *
    refine (RA.out.iR w2 _ M2.out.rd (HT.out.below B2.out)).mono ?_
    rintro e w3 ⟨rfl, b3⟩
    have B3 := Lib.hid (B2.out.trans (b3.mono B2.out.size))
    have M3 := Lib.hid (M2.out.up b3)
    clear b3 B2 M2
    have mc0 := M3.out.box.c0
    have mc1 := M3.out.box.c1
    go_wp2_with fail
    clear mc0 mc1
    refine (RA.out.sR w3 _ M3.out.rd).mono ?_
    rintro e w4 ⟨rfl, b4⟩
    have B4 := Lib.hid (B3.out.trans (b4.mono B3.out.size))
    have M4 := Lib.hid (M3.out.up b4)
    clear b4 B3 M3
    have mc0 := M4.out.box.c0
    have mc1 := M4.out.box.c1
    go_wp2_with fail
    clear mc0 mc1
    refine (RA.out.iK w4 _ M4.out.rd (HT.out.below B4.out)).mono ?_
    rintro e w5 ⟨u, rfl, o5, b5⟩
    obtain ⟨vk, qk, rfl⟩ := o5.shape
    have O5 := Lib.hid (own_base o5 B4.out.size)
    clear o5
    have B5 := Lib.hid (B4.out.trans (b5.mono B4.out.size))
    have M5 := Lib.hid (M4.out.up b5)
    clear b5 B4 M4
    have A6 : ∃ w6, w6 = w5.alloc (.cells #[.int .i64 CK, .slice vk LK.length qk] 26) := ⟨_, rfl⟩
    obtain ⟨w6, hw6⟩ := A6
    have K6 : Hid (OwnB w w5.heap.size CK (.slice vk LK.length qk) LK w6) := Lib.hid (by rw [hw6]; exact OwnB.start B5.out.size O5.out)
    have B6 : Hid (Below w.heap.size w w6) := Lib.hid (by rw [hw6]; exact B5.out.alloc B5.out.size _)
    have M6 : Hid (OwnB w g3 cm (.slice vm Lm.length qm) Lm w6) := Lib.hid (by rw [hw6]; exact M5.out.alloc _)
    have mc0 := (M5.out.alloc (.cells #[.int .i64 CK, .slice vk LK.length qk] 26)).box.c0
    have mc1 := (M5.out.alloc (.cells #[.int .i64 CK, .slice vk LK.length qk] 26)).box.c1
    go_wp2_with fail
    rw [← hw6]
    clear hw6 O5 B5 M5 mc0 mc1
    generalize w5.heap.size = g8 at *
    refine (RA.out.sK w6 _ M6.out.rd).mono ?_
    rintro e w7 ⟨u, rfl, o7, b7⟩
    obtain ⟨vq, qq, rfl⟩ := o7.shape
    have O7 := Lib.hid (own_base o7 B6.out.size)
    clear o7
    have B7 := Lib.hid (B6.out.trans (b7.mono B6.out.size))
    have M7 := Lib.hid (M6.out.up b7)
    have K7 := Lib.hid (K6.out.up b7)
    clear b7 B6 M6 K6
    have A8 : ∃ w8, w8 = w7.alloc (.cells #[.int .i64 CK, .slice vq LK.length qq] 26) := ⟨_, rfl⟩
    obtain ⟨w8, hw8⟩ := A8
    have Q8 : Hid (OwnB w w7.heap.size CK (.slice vq LK.length qq) LK w8) := Lib.hid (by rw [hw8]; exact OwnB.start B7.out.size O7.out)
    have B8 : Hid (Below w.heap.size w w8) := Lib.hid (by rw [hw8]; exact B7.out.alloc B7.out.size _)
    have M8 : Hid (OwnB w g3 cm (.slice vm Lm.length qm) Lm w8) := Lib.hid (by rw [hw8]; exact M7.out.alloc _)
    have K8 : Hid (OwnB w g8 CK (.slice vk LK.length qk) LK w8) := Lib.hid (by rw [hw8]; exact K7.out.alloc _)
    have kc0 := (K7.out.alloc (.cells #[.int .i64 CK, .slice vq LK.length qq] 26)).box.c0
    have kc1 := (K7.out.alloc (.cells #[.int .i64 CK, .slice vq LK.length qq] 26)).box.c1
    go_wp2_with fail
    rw [← hw8]
    clear hw8 O7 B7 M7 K7 kc0 kc1
    generalize w7.heap.size = g10 at *
    refine (matrix9_same CK _ _ LK.length _ w8 K8.out.rd Q8.out.rd).mono ?_
    rintro e w9 ⟨rfl, b9⟩
    have B9 := Lib.hid (B8.out.trans (b9.mono B8.out.size))
    have M9 := Lib.hid (M8.out.up b9)
    have K9 := Lib.hid (K8.out.up b9)
    clear b9 B8 M8 K8
    clear Q8
    go_wp2_with fail
    refine (DrawSol_any a0 len0 cap0 w9 (code_mono (HC.out.below B9.out) B9.out.size) hm).mono ?_
    rintro e w10 ⟨cn, Ln, u, zn, rfl, hln, o10, b10⟩
    obtain ⟨vn, qn, rfl⟩ := o10.shape
    have O10 := Lib.hid (own_base o10 B9.out.size)
    clear o10
    have B10 := Lib.hid (B9.out.trans (b10.mono B9.out.size))
    have M10 := Lib.hid (M9.out.up b10)
    have K10 := Lib.hid (K9.out.up b10)
    clear b10 B9 M9 K9
    obtain ⟨rr, scd, hb, hcd, RB⟩ := rkb_all cn Ln.length (fun i => Ln[i]?.getD 0) zn
    have RB := Lib.hid RB
    have A11 : ∃ w11, w11 = w10.alloc (.cells #[.int .i64 cn, .slice vn Ln.length qn] 26) := ⟨_, rfl⟩
    obtain ⟨w11, hw11⟩ := A11
    have N11 : Hid (OwnB w w10.heap.size cn (.slice vn Ln.length qn) Ln w11) := Lib.hid (by rw [hw11]; exact OwnB.start B10.out.size O10.out)
    have B11 : Hid (Below w.heap.size w w11) := Lib.hid (by rw [hw11]; exact B10.out.alloc B10.out.size _)
    have M11 : Hid (OwnB w g3 cm (.slice vm Lm.length qm) Lm w11) := Lib.hid (by rw [hw11]; exact M10.out.alloc _)
    have K11 : Hid (OwnB w g8 CK (.slice vk LK.length qk) LK w11) := Lib.hid (by rw [hw11]; exact K10.out.alloc _)
    go_wp2_with fail
    rw [← hw11]
    clear hw11 O10 B10 M10 K10
    generalize w10.heap.size = g12 at *
    refine (RB.out.iS w11 _ N11.out.rd (HT.out.below B11.out)).mono ?_
    rintro e w12 ⟨rfl, b12⟩
    have B12 := Lib.hid (B11.out.trans (b12.mono B11.out.size))
    have M12 := Lib.hid (M11.out.up b12)
    have K12 := Lib.hid (K11.out.up b12)
    have N12 := Lib.hid (N11.out.up b12)
    clear b12 B11 M11 K11 N11
    have nc0 := N12.out.box.c0
    have nc1 := N12.out.box.c1
    go_wp2_with fail
    clear nc0 nc1
    refine (RB.out.sS w12 _ N12.out.rd).mono ?_
    rintro e w13 ⟨rfl, b13⟩
    have B13 := Lib.hid (B12.out.trans (b13.mono B12.out.size))
    have M13 := Lib.hid (M12.out.up b13)
    have K13 := Lib.hid (K12.out.up b13)
    have N13 := Lib.hid (N12.out.up b13)
    clear b13 B12 M12 K12 N12
    have nc0 := N13.out.box.c0
    have nc1 := N13.out.box.c1
    go_wp2_with fail
    clear nc0 nc1
    refine (RB.out.iH w13 _ N13.out.rd (HT.out.below B13.out)).mono ?_
    rintro e w14 ⟨rfl, b14⟩
    have B14 := Lib.hid (B13.out.trans (b14.mono B13.out.size))
    have M14 := Lib.hid (M13.out.up b14)
    have K14 := Lib.hid (K13.out.up b14)
    have N14 := Lib.hid (N13.out.up b14)
    clear b14 B13 M13 K13 N13
    have nc0 := N14.out.box.c0
    have nc1 := N14.out.box.c1
    go_wp2_with fail
    clear nc0 nc1
    refine (RB.out.sH w14 _ N14.out.rd).mono ?_
    rintro e w15 ⟨rfl, b15⟩
    have B15 := Lib.hid (B14.out.trans (b15.mono B14.out.size))
    have M15 := Lib.hid (M14.out.up b15)
    have K15 := Lib.hid (K14.out.up b15)
    have N15 := Lib.hid (N14.out.up b15)
    clear b15 B14 M14 K14 N14
    go_upto_if 128 with fail
    go_cut [22, 23] (fun _ _ wx => Hid (Below w.heap.size w wx) ∧ Hid (OwnB w g3 cm (.slice vm Lm.length qm) Lm wx) ∧ Hid (OwnB w g8 CK (.slice vk LK.length qk) LK wx))
    case first =>
      by_cases h3 : scd = 0
      · subst h3
        obtain ⟨rfl, TR⟩ := RB.out.yes rfl
        have TR := Lib.hid TR
        have nc0 := N15.out.box.c0
        have nc1 := N15.out.box.c1
        go_wp2_with fail
        refine (TR.out w15 _ N15.out.rd).mono ?_
        rintro e w16 ⟨rfl, b16⟩
        have B16 := Lib.hid (B15.out.trans (b16.mono B15.out.size))
        have M16 := Lib.hid (M15.out.up b16)
        have K16 := Lib.hid (K15.out.up b16)
        clear b16 nc0 nc1
        go_wp2_with fail
        go_meet
        exact ⟨B16, M16, K16⟩
      · have h3' : (scd == 0) = false := by rw [beq_eq_false_iff_ne]; exact h3
        go_wp2_with fail
        go_meet
        exact ⟨B15, M15, K15⟩
    case rest =>
      clear B15 M15 K15 N15 RB
      obtain ⟨B20, M20, K20⟩ := hcut
      obtain ⟨w20, hw20⟩ : ∃ w20, w20 = wc := ⟨_, rfl⟩
      rw [← hw20] at B20 M20 K20 ⊢
      clear hw20
      go_wp2_with fail
      refine (DrawInv_any a0 len0 cap0 w20 (code_mono (HC.out.below B20.out) B20.out.size) hm).mono ?_
      rintro e w21 ⟨cs, Ls, u, rfl, hls, o21, b21⟩
      obtain ⟨vs, qs, rfl⟩ := o21.shape
      have O21 := Lib.hid (own_base o21 B20.out.size)
      clear o21
      have B21 := Lib.hid (B20.out.trans (b21.mono B20.out.size))
      have M21 := Lib.hid (M20.out.up b21)
      have K21 := Lib.hid (K20.out.up b21)
      clear b21 B20 M20 K20
      obtain ⟨CI, LI, icd, RC⟩ := rkc_all cs Ls.length (fun i => Ls[i]?.getD 0)
      have hli := RC.li
      have RC := Lib.hid RC
      have A22 : ∃ w22, w22 = w21.alloc (.cells #[.int .i64 cs, .slice vs Ls.length qs] 26) := ⟨_, rfl⟩
      obtain ⟨w22, hw22⟩ := A22
      have S22 : Hid (OwnB w w21.heap.size cs (.slice vs Ls.length qs) Ls w22) := Lib.hid (by rw [hw22]; exact OwnB.start B21.out.size O21.out)
      have B22 : Hid (Below w.heap.size w w22) := Lib.hid (by rw [hw22]; exact B21.out.alloc B21.out.size _)
      have M22 : Hid (OwnB w g3 cm (.slice vm Lm.length qm) Lm w22) := Lib.hid (by rw [hw22]; exact M21.out.alloc _)
      have K22 : Hid (OwnB w g8 CK (.slice vk LK.length qk) LK w22) := Lib.hid (by rw [hw22]; exact K21.out.alloc _)
      go_wp2_with fail
      rw [← hw22]
      clear hw22 O21 B21 M21 K21
      generalize w21.heap.size = g24 at *
      refine (RC.out.iI w22 _ S22.out.rd (HT.out.below B22.out)).mono ?_
      rintro e w23 ⟨u, rfl, o23, b23⟩
      obtain ⟨vi, qi, rfl⟩ := o23.shape
      have O23 := Lib.hid (own_base o23 B22.out.size)
      clear o23
      have B23 := Lib.hid (B22.out.trans (b23.mono B22.out.size))
      have M23 := Lib.hid (M22.out.up b23)
      have K23 := Lib.hid (K22.out.up b23)
      have S23 := Lib.hid (S22.out.up b23)
      clear b23 B22 M22 K22 S22
      have A24 : ∃ w24, w24 = w23.alloc (.cells #[.int .i64 CI, .slice vi LI.length qi] 26) := ⟨_, rfl⟩
      obtain ⟨w24, hw24⟩ := A24
      have I24 : Hid (OwnB w w23.heap.size CI (.slice vi LI.length qi) LI w24) := Lib.hid (by rw [hw24]; exact OwnB.start B23.out.size O23.out)
      have B24 : Hid (Below w.heap.size w w24) := Lib.hid (by rw [hw24]; exact B23.out.alloc B23.out.size _)
      have M24 : Hid (OwnB w g3 cm (.slice vm Lm.length qm) Lm w24) := Lib.hid (by rw [hw24]; exact M23.out.alloc _)
      have K24 : Hid (OwnB w g8 CK (.slice vk LK.length qk) LK w24) := Lib.hid (by rw [hw24]; exact K23.out.alloc _)
      have S24 : Hid (OwnB w g24 cs (.slice vs Ls.length qs) Ls w24) := Lib.hid (by rw [hw24]; exact S23.out.alloc _)
      have sc0 := (S23.out.alloc (.cells #[.int .i64 CI, .slice vi LI.length qi] 26)).box.c0
      have sc1 := (S23.out.alloc (.cells #[.int .i64 CI, .slice vi LI.length qi] 26)).box.c1
      go_wp2_with fail
      rw [← hw24]
      clear hw24 O23 B23 M23 K23 S23 sc0 sc1
      generalize w23.heap.size = g25 at *
      refine (RC.out.sI w24 _ S24.out.rd).mono ?_
      rintro e w25 ⟨u, rfl, o25, b25⟩
      obtain ⟨vj, qj, rfl⟩ := o25.shape
      have O25 := Lib.hid (own_base o25 B24.out.size)
      clear o25
      have B25 := Lib.hid (B24.out.trans (b25.mono B24.out.size))
      have M25 := Lib.hid (M24.out.up b25)
      have K25 := Lib.hid (K24.out.up b25)
      have S25 := Lib.hid (S24.out.up b25)
      have I25 := Lib.hid (I24.out.up b25)
      clear b25 B24 M24 K24 S24 I24
      have A26 : ∃ w26, w26 = w25.alloc (.cells #[.int .i64 CI, .slice vj LI.length qj] 26) := ⟨_, rfl⟩
      obtain ⟨w26, hw26⟩ := A26
      have Q26 : Hid (OwnB w w25.heap.size CI (.slice vj LI.length qj) LI w26) := Lib.hid (by rw [hw26]; exact OwnB.start B25.out.size O25.out)
      have B26 : Hid (Below w.heap.size w w26) := Lib.hid (by rw [hw26]; exact B25.out.alloc B25.out.size _)
      have M26 : Hid (OwnB w g3 cm (.slice vm Lm.length qm) Lm w26) := Lib.hid (by rw [hw26]; exact M25.out.alloc _)
      have K26 : Hid (OwnB w g8 CK (.slice vk LK.length qk) LK w26) := Lib.hid (by rw [hw26]; exact K25.out.alloc _)
      have S26 : Hid (OwnB w g24 cs (.slice vs Ls.length qs) Ls w26) := Lib.hid (by rw [hw26]; exact S25.out.alloc _)
      have I26 : Hid (OwnB w g25 CI (.slice vi LI.length qi) LI w26) := Lib.hid (by rw [hw26]; exact I25.out.alloc _)
      have ic0 := (I25.out.alloc (.cells #[.int .i64 CI, .slice vj LI.length qj] 26)).box.c0
      have ic1 := (I25.out.alloc (.cells #[.int .i64 CI, .slice vj LI.length qj] 26)).box.c1
      go_wp2_with fail
      rw [← hw26]
      clear hw26 O25 B25 M25 K25 S25 I25 ic0 ic1
      generalize w25.heap.size = g27 at *
      refine (matrix9_same CI _ _ LI.length _ w26 I26.out.rd Q26.out.rd).mono ?_
      rintro e w27 ⟨rfl, b27⟩
      have B27 := Lib.hid (B26.out.trans (b27.mono B26.out.size))
      have M27 := Lib.hid (M26.out.up b27)
      have K27 := Lib.hid (K26.out.up b27)
      have S27 := Lib.hid (S26.out.up b27)
      have I27 := Lib.hid (I26.out.up b27)
      clear b27 B26 M26 K26 S26 I26
      clear Q26
      go_upto_if 168 with fail
      go_cut [29, 30, 31, 32, 33] (fun _ _ _ _ _ wx => Hid (Below w.heap.size w wx) ∧ Hid (OwnB w g3 cm (.slice vm Lm.length qm) Lm wx) ∧ Hid (OwnB w g8 CK (.slice vk LK.length qk) LK wx))
      case first =>
        by_cases h6 : icd = 0
        · subst h6
          obtain ⟨hs6, ML, MR⟩ := RC.out.yes rfl
          have ML := Lib.hid ML
          have MR := Lib.hid MR
          have ic0 := I27.out.box.c0
          have ic1 := I27.out.box.c1
          have sc0 := S27.out.box.c0
          have sc1 := S27.out.box.c1
          go_wp2_with fail
          refine (ML.out w27 _ _ I27.out.rd S27.out.rd).mono ?_
          rintro e w28 ⟨u, rfl, o28, b28⟩
          obtain ⟨vl, ql, rfl⟩ := o28.shape
          have O28 := Lib.hid (own_base o28 B27.out.size)
          clear o28 ic0 ic1 sc0 sc1
          have B28 := Lib.hid (B27.out.trans (b28.mono B27.out.size))
          have M28 := Lib.hid (M27.out.up b28)
          have K28 := Lib.hid (K27.out.up b28)
          have S28 := Lib.hid (S27.out.up b28)
          have I28 := Lib.hid (I27.out.up b28)
          clear b28 B27 M27 K27 S27 I27
          have A29 : ∃ w29, w29 = w28.alloc (.cells #[.int .i64 (Ls.length : Int), .slice vl (nI ((List.range Ls.length).map fun i => 2 ^ i)).length ql] 26) := ⟨_, rfl⟩
          obtain ⟨w29, hw29⟩ := A29
          have L29 : Hid (OwnB w w28.heap.size (Ls.length : Int) (.slice vl (nI ((List.range Ls.length).map fun i => 2 ^ i)).length ql) (nI ((List.range Ls.length).map fun i => 2 ^ i)) w29) := Lib.hid (by rw [hw29]; exact OwnB.start B28.out.size O28.out)
          have B29 : Hid (Below w.heap.size w w29) := Lib.hid (by rw [hw29]; exact B28.out.alloc B28.out.size _)
          have M29 : Hid (OwnB w g3 cm (.slice vm Lm.length qm) Lm w29) := Lib.hid (by rw [hw29]; exact M28.out.alloc _)
          have K29 : Hid (OwnB w g8 CK (.slice vk LK.length qk) LK w29) := Lib.hid (by rw [hw29]; exact K28.out.alloc _)
          have S29 : Hid (OwnB w g24 cs (.slice vs Ls.length qs) Ls w29) := Lib.hid (by rw [hw29]; exact S28.out.alloc _)
          have I29 : Hid (OwnB w g25 CI (.slice vi LI.length qi) LI w29) := Lib.hid (by rw [hw29]; exact I28.out.alloc _)
          have ic0 := (I28.out.alloc (.cells #[.int .i64 (Ls.length : Int), .slice vl (nI ((List.range Ls.length).map fun i => 2 ^ i)).length ql] 26)).box.c0
          have ic1 := (I28.out.alloc (.cells #[.int .i64 (Ls.length : Int), .slice vl (nI ((List.range Ls.length).map fun i => 2 ^ i)).length ql] 26)).box.c1
          have sc0 := (S28.out.alloc (.cells #[.int .i64 (Ls.length : Int), .slice vl (nI ((List.range Ls.length).map fun i => 2 ^ i)).length ql] 26)).box.c0
          have sc1 := (S28.out.alloc (.cells #[.int .i64 (Ls.length : Int), .slice vl (nI ((List.range Ls.length).map fun i => 2 ^ i)).length ql] 26)).box.c1
          go_wp2_with fail
          rw [← hw29]
          clear hw29 O28 B28 M28 K28 S28 I28 ic0 ic1 sc0 sc1
          generalize w28.heap.size = g29 at *
          refine (MR.out w29 _ _ I29.out.rd S29.out.rd).mono ?_
          rintro e w30 ⟨u, rfl, o30, b30⟩
          obtain ⟨vr, qr, rfl⟩ := o30.shape
          have O30 := Lib.hid (own_base o30 B29.out.size)
          clear o30
          have B30 := Lib.hid (B29.out.trans (b30.mono B29.out.size))
          have M30 := Lib.hid (M29.out.up b30)
          have K30 := Lib.hid (K29.out.up b30)
          have S30 := Lib.hid (S29.out.up b30)
          have I30 := Lib.hid (I29.out.up b30)
          have L30 := Lib.hid (L29.out.up b30)
          clear b30 B29 M29 K29 S29 I29 L29
          have A31 : ∃ w31, w31 = w30.alloc (.cells #[.int .i64 (Ls.length : Int), .slice vr (nI ((List.range Ls.length).map fun i => 2 ^ i)).length qr] 26) := ⟨_, rfl⟩
          obtain ⟨w31, hw31⟩ := A31
          have R31 : Hid (OwnB w w30.heap.size (Ls.length : Int) (.slice vr (nI ((List.range Ls.length).map fun i => 2 ^ i)).length qr) (nI ((List.range Ls.length).map fun i => 2 ^ i)) w31) := Lib.hid (by rw [hw31]; exact OwnB.start B30.out.size O30.out)
          have B31 : Hid (Below w.heap.size w w31) := Lib.hid (by rw [hw31]; exact B30.out.alloc B30.out.size _)
          have M31 : Hid (OwnB w g3 cm (.slice vm Lm.length qm) Lm w31) := Lib.hid (by rw [hw31]; exact M30.out.alloc _)
          have K31 : Hid (OwnB w g8 CK (.slice vk LK.length qk) LK w31) := Lib.hid (by rw [hw31]; exact K30.out.alloc _)
          have L31 : Hid (OwnB w g29 (Ls.length : Int) (.slice vl (nI ((List.range Ls.length).map fun i => 2 ^ i)).length ql) (nI ((List.range Ls.length).map fun i => 2 ^ i)) w31) := Lib.hid (by rw [hw31]; exact L30.out.alloc _)
          have lc0 := (L30.out.alloc (.cells #[.int .i64 (Ls.length : Int), .slice vr (nI ((List.range Ls.length).map fun i => 2 ^ i)).length qr] 26)).box.c0
          have lc1 := (L30.out.alloc (.cells #[.int .i64 (Ls.length : Int), .slice vr (nI ((List.range Ls.length).map fun i => 2 ^ i)).length qr] 26)).box.c1
          go_wp2_with fail
          rw [← hw31]
          clear hw31 O30 B30 M30 K30 L30 S30 I30 lc0 lc1
          generalize w30.heap.size = g31 at *
          refine (matrix9_same _ _ _ (nI ((List.range Ls.length).map fun i => 2 ^ i)).length _ w31 L31.out.rd R31.out.rd).mono ?_
          rintro e w32 ⟨rfl, b32⟩
          have B32 := Lib.hid (B31.out.trans (b32.mono B31.out.size))
          have M32 := Lib.hid (M31.out.up b32)
          have K32 := Lib.hid (K31.out.up b32)
          have L32 := Lib.hid (L31.out.up b32)
          clear b32 B31 M31 K31 L31
          clear R31
          have LU : Hid ((nI ((List.range Ls.length).map fun i => 2 ^ i)).length = Ls.length) := Lib.hid (by simp [nI])
          go_wp2_with fail
          go_loopw [33] (fun t wr => ∃ i : Nat, t = .int .i64 i ∧ i ≤ Ls.length ∧ Hid (Below w.heap.size w wr) ∧ Hid (OwnB w g3 cm (.slice vm Lm.length qm) Lm wr) ∧ Hid (OwnB w g8 CK (.slice vk LK.length qk) LK wr) ∧ Hid (OwnB w g29 (Ls.length : Int) (.slice vl (nI ((List.range Ls.length).map fun i => 2 ^ i)).length ql) (nI ((List.range Ls.length).map fun i => 2 ^ i)) wr)) (fun t _ => Ls.length - (intOf t).toNat)
          case atStart => exact ⟨0, rfl, Nat.zero_le _, B32, M32, K32, L32⟩
          case round =>
            clear B32 M32 K32 L32
            obtain ⟨i, rfl, hi, B, M, K, L⟩ := hrel
            have lc1 := L.out.box.c1
            have lrd := L.out.rd
            rw [LU.out] at lc1 lrd
            by_cases hlt : i < Ls.length
            · have hlt' : (i : Int) < (Ls.length : Int) := by omega
              obtain ⟨_, _, e, _, hc⟩ := lrd
              cases e
              obtain ⟨bm, om, rfl, hc2⟩ := hc.resolve_left (by omega)
              have c1 : wr.cell? ⟨bm, om + i, none⟩ = some (.int .i64 (wrap64 (2 ^ i))) := by
                have h := hc2 i hlt
                rw [wrap_two i (by omega)]
                rw [h]
                simp [nI, hlt]
              clear hc hc2
              generalize hz : wrap64 (2 ^ i) = zz at c1
              go_wp2_with fail
              go_roundw
              case rel => exact ⟨i + 1, by go_num, by omega, B, M, K, L⟩
              case measure => simp [intOf]; omega
            · obtain rfl : i = Ls.length := by omega
              go_wp2_with fail
              go_meet
              exact ⟨B, M, K⟩
        · have h6' : (icd == 0) = false := by rw [beq_eq_false_iff_ne]; exact h6
          go_wp2_with fail
          go_meet
          exact ⟨B27, M27, K27⟩
      case rest =>
        clear B27 M27 K27 S27 I27 RC
        obtain ⟨B40, M40, K40⟩ := hcut
        obtain ⟨w40, hw40⟩ : ∃ w40, w40 = wc := ⟨_, rfl⟩
        rw [← hw40] at B40 M40 K40 ⊢
        clear hw40
        by_cases hk : kcd = 0
        · obtain ⟨CT, LT, rk1, hrv, TT, hlt, RT, erk, hn6, TR⟩ := RA.out.yes hk
          subst hk
          subst hrv
          have TT := Lib.hid TT
          have RT := Lib.hid RT
          have TR := Lib.hid TR
          have ERK : Hid ((rk1 : Int) + (LK.length : Int) = (Lm.length : Int)) := Lib.hid (by omega)
          have hr1 : rk1 ≤ 400 := by omega
          clear erk RA
          have mc0 := M40.out.box.c0
          have mc1 := M40.out.box.c1
          go_wp2_with fail
          refine (TT.out w40 _ M40.out.rd).mono ?_
          rintro e w41 ⟨u, rfl, o41, b41⟩
          obtain ⟨vt, qt, rfl⟩ := o41.shape
          have O41 := Lib.hid (own_base o41 B40.out.size)
          clear o41 mc0 mc1
          have B41 := Lib.hid (B40.out.trans (b41.mono B40.out.size))
          have M41 := Lib.hid (M40.out.up b41)
          have K41 := Lib.hid (K40.out.up b41)
          clear b41 B40 M40 K40
          have A42 : ∃ w42, w42 = w41.alloc (.cells #[.int .i64 CT, .slice vt LT.length qt] 26) := ⟨_, rfl⟩
          obtain ⟨w42, hw42⟩ := A42
          have T42 : Hid (OwnB w w41.heap.size CT (.slice vt LT.length qt) LT w42) := Lib.hid (by rw [hw42]; exact OwnB.start B41.out.size O41.out)
          have B42 : Hid (Below w.heap.size w w42) := Lib.hid (by rw [hw42]; exact B41.out.alloc B41.out.size _)
          have M42 : Hid (OwnB w g3 cm (.slice vm Lm.length qm) Lm w42) := Lib.hid (by rw [hw42]; exact M41.out.alloc _)
          have K42 : Hid (OwnB w g8 CK (.slice vk LK.length qk) LK w42) := Lib.hid (by rw [hw42]; exact K41.out.alloc _)
          go_wp2_with fail
          rw [← hw42]
          clear hw42 O41 B41 M41 K41
          generalize w41.heap.size = g34 at *
          refine (RT.out w42 _ T42.out.rd (HT.out.below B42.out)).mono ?_
          rintro e w43 ⟨rfl, b43⟩
          have B43 := Lib.hid (B42.out.trans (b43.mono B42.out.size))
          have M43 := Lib.hid (M42.out.up b43)
          have K43 := Lib.hid (K42.out.up b43)
          clear b43 B42 M42 K42
          clear T42
          have kc1 := K43.out.box.c1
          have mc1 := M43.out.box.c1
          have E1 : (((rk1 : Int) + (LK.length : Int)) != (Lm.length : Int)) = false := by rw [ERK.out]; simp
          go_wp2_with fail
          clear kc1 mc1
          go_loopw [38, 39, 40] (fun t _ _ wr => ∃ i : Nat, t = .int .i64 i ∧ i ≤ LK.length ∧ Hid (Below w.heap.size w wr) ∧ Hid (OwnB w g3 cm (.slice vm Lm.length qm) Lm wr) ∧ Hid (OwnB w g8 CK (.slice vk LK.length qk) LK wr)) (fun t _ _ _ => LK.length - (intOf t).toNat)
          case atStart => exact ⟨0, rfl, Nat.zero_le _, B43, M43, K43⟩
          case round =>
            clear B43 M43 K43
            obtain ⟨i, rfl, hi, B, M, K⟩ := hrel
            have kc1 := K.out.box.c1
            by_cases hlt : i < LK.length
            · have hlt' : (i : Int) < (LK.length : Int) := by omega
              have TRi := Lib.hid (TR.out i hlt)
              obtain ⟨_, _, e, _, hc⟩ := K.out.rd
              cases e
              obtain ⟨bm, om, rfl, hc2⟩ := hc.resolve_left (by omega)
              have c1 : wr.cell? ⟨bm, om + i, none⟩ = some (.int .i64 (LK[i]?.getD 0)) := hc2 i hlt
              clear hc hc2
              have CIx := Lib.hid (fun wx (hb : Below wr.heap.size wr wx) => (hb.cell (p := ⟨bm, om + i, none⟩) (World.block_lt_of_cell? wr _ c1)).trans c1)
              generalize LK[i]?.getD 0 = z at *
              have KEEP : Hid (∀ wx, Below wr.heap.size wr wx → (wx.cell? ⟨g3, 0, none⟩ = some (.int .i64 cm) ∧ wx.cell? ⟨g3, 1, none⟩ = some (.slice vm Lm.length qm) ∧ wx.cell? ⟨g8, 1, none⟩ = some (.slice (some ⟨bm, om, none⟩) LK.length qk) ∧ wx.cell? ⟨bm, om + i, none⟩ = some (.int .i64 z) ∧ Below wr.heap.size wr wx)) :=
                Lib.hid (fun wx hb => ⟨(M.out.box.up hb).c0, (M.out.box.up hb).c1, (K.out.box.up hb).c1, CIx.out wx hb, hb⟩)
              clear c1
              go_wp2_with fail
              go_region_held3 (fun wx => wx.cell? ⟨g3, 0, none⟩ = some (.int .i64 cm) ∧ wx.cell? ⟨g3, 1, none⟩ = some (.slice vm Lm.length qm) ∧ wx.cell? ⟨g8, 1, none⟩ = some (.slice (some ⟨bm, om, none⟩) LK.length qk) ∧ wx.cell? ⟨bm, om + i, none⟩ = some (.int .i64 z) ∧ Below wr.heap.size wr wx)
                (first | exact KEEP.out _ (Below.refl _ _).drew | exact KEEP.out _ (by assumption))
                (first | (go_at_call 27; refine (TRi.out _ _ (M.out.rd.below (Below.refl _ _).drew)).mono ?_; rintro e wa ⟨rfl, ba⟩; have za := below_drew1 ba))
              have Ba := Lib.hid (B.out.trans (za.mono B.out.size))
              have Ma := Lib.hid (M.out.up za)
              have Ka := Lib.hid (K.out.up za)
              clear KEEP kc1 B M K CIx TRi za ba
              go_wp2_with fail
              go_roundw
              case rel => exact ⟨i + 1, by go_num, by omega, Ba, Ma, Ka⟩
              case measure => simp [intOf]; omega
            · obtain rfl : i = LK.length := by omega
              go_wp2_with fail
              go_ret
              exact ⟨rfl, B.out⟩
        · have hk' : (kcd != 0) = true := by rw [bne_iff_ne]; exact hk
          have e0 := RA.out.no hk
          subst e0
          have kc1 := K40.out.box.c1
          go_wp2_with fail
          go_ret
          exact ⟨rfl, B40.out⟩
  · go_enter Tryd.func4, Tryd.ntmps4
    go_wp2_with fail
    refine (big_yes a0 len0 cap0 w (by omega) hM).mono ?_
    rintro e wx ⟨rfl, hwx⟩
    obtain rfl : w = wx := hwx.symm
    go_wp2_with fail
    go_ret
    exact ⟨rfl, Below.refl _ _⟩
end Go.Proofs.YtdojblmffmefgaaDoor
