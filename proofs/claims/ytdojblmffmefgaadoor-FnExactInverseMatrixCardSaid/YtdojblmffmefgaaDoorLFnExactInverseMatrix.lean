/-
  The walk of laws.FnExactInverseMatrix.
-/
import Derived.Test.YtdojblmffmefgaaDoorDInvD
import Derived.Test.YtdojblmffmefgaaDoorMLaw
namespace Go.Proofs.YtdojblmffmefgaaDoor
open Go.RowKit
set_option linter.unusedVariables false
set_option maxRecDepth 100000

set_option maxHeartbeats 1000000 in
theorem walk_FnExactInverseMatrix (c0 : Int) (a0 : Option Addr) (len0 cap0 : Nat) (z0 : List Int) (w : World) (w0 : IsRow .i64 w a0 len0 cap0 z0) (hT : T0 w) :
    Calls Tryd.prog 11 #[.agg #[.int .i64 c0, .slice a0 len0 cap0]] w fun e w' => e = .returned (.bool true) ∧ Below w.heap.size w w' := by
  have hr := w0.rd
  have HT := Lib.hid hT
  clear hT
  clear w0
  generalize (fun i => z0.getD i 0) = G at hr
  have hm : len0 ≤ maxLen := by obtain ⟨_, _, e, hm, _⟩ := hr; cases e; exact hm
  have t1 := Tryd.underlying58
  have t2 := Tryd.underlying26
  by_cases hbig : len0 ≤ 1048576
  · have hge : ¬ (1048576 : Int) - (len0 : Int) < 0 := by omega
    obtain ⟨C, L, cd, hL, SP, IM⟩ := InverseMatrix_both c0 len0 G
    have SP := Lib.hid SP
    have IM := Lib.hid IM
    have S1 : Hid (StA w c0 a0 len0 cap0 G (w.alloc (.cells #[.int .i64 c0, .slice a0 len0 cap0] 58))) := Lib.hid (StA.start hr)
    clear hr
    go_enter Tryd.func11, Tryd.ntmps11
    go_wp2_with fail
    generalize (w.alloc (.cells #[.int .i64 c0, .slice a0 len0 cap0] 58)) = w1 at *
    refine (szMatrix_yes c0 a0 len0 cap0 1048576 w1 (by omega) (by omega)).mono ?_
    rintro e w2 ⟨rfl, b2⟩
    have S2 := Lib.hid (S1.out.up b2)
    have d0 := S2.out.box.c0
    have d1 := S2.out.box.c1
    clear b2 S1
    go_wp2_with fail
    refine (toMatrix_any c0 _ len0 G w2 (by omega) S2.out.rd).mono ?_
    rintro e w3 ⟨u3, rfl, o3, b3⟩
    have S3 := Lib.hid (S2.out.up b3)
    clear S2 d0 d1
    go_wp2_with fail
    refine (SP.out w3 u3 ((rd_of_own o3 (cpy_length G len0 len0).symm).congr (cpy_get G len0))).mono ?_
    rintro e w4 ⟨v4, rfl, o4, b4⟩
    obtain ⟨va4, vc4, rfl⟩ := o4.shape
    have S4 := Lib.hid (S3.out.up b4)
    have O4 := Lib.hid (own_base o4 S3.out.bel.size)
    clear o3 b3 b4 o4 S3
    have d0 := (S4.out.alloc (.cells #[.int .i64 C, .slice va4 L.length vc4] 26)).box.c0
    have d1 := (S4.out.alloc (.cells #[.int .i64 C, .slice va4 L.length vc4] 26)).box.c1
    go_wp2_with fail
    have A5 : ∃ w5, w5 = w4.alloc (.cells #[.int .i64 C, .slice va4 L.length vc4] 26) := ⟨_, rfl⟩
    obtain ⟨w5, hw5⟩ := A5
    have S5 : Hid (StA w c0 a0 len0 cap0 G w5) := Lib.hid (by rw [hw5]; exact S4.out.alloc _)
    have P5 : Hid (OwnB w w4.heap.size C (.slice va4 L.length vc4) L w5) := Lib.hid (by rw [hw5]; exact OwnB.start S4.out.bel.size O4.out)
    rw [← hw5]
    clear hw5 S4 O4 d0 d1
    refine (toMatrix_any c0 _ len0 G w5 (by omega) S5.out.rd).mono ?_
    rintro e w6 ⟨u6, rfl, o6, b6⟩
    obtain ⟨ua6, uc6, rfl⟩ := o6.shape
    have S6 := Lib.hid (S5.out.up b6)
    have P6 := Lib.hid (P5.out.up b6)
    have O6 := Lib.hid (own_base o6 S5.out.bel.size)
    have N6 := Lib.hid (own_apart P5.out.own o6)
    clear b6 o6 S5 P5
    generalize w4.heap.size = g4 at *
    go_wp2_with fail
    have A7 : ∃ w7, w7 = w6.alloc (.cells #[.int .i64 c0, .slice ua6 len0 uc6] 26) := ⟨_, rfl⟩
    obtain ⟨w7, hw7⟩ := A7
    have S7 : Hid (StA w c0 a0 len0 cap0 G w7) := Lib.hid (by rw [hw7]; exact S6.out.alloc _)
    have P7 : Hid (OwnB w g4 C (.slice va4 L.length vc4) L w7) := Lib.hid (by rw [hw7]; exact P6.out.alloc _)
    have Q7 : Hid (OwnB w w6.heap.size c0 (.slice ua6 len0 uc6) (cpy G len0 len0) w7) := Lib.hid (by rw [hw7]; exact OwnB.start' S6.out.bel.size O6.out (cpy_length ..))
    rw [← hw7]
    clear hw7 S6 P6 O6
    generalize w6.heap.size = g6 at *
    have R7 := Lib.hid (Q7.out.rdc)
    refine (IM.out w7 _ R7.out (HT.out.below S7.out.bel)).mono ?_
    rintro e w8 ⟨v8, rfl, o8, b8⟩
    obtain ⟨va8, vc8, rfl⟩ := o8.shape
    have S8 := Lib.hid (S7.out.up b8)
    have P8 := Lib.hid (P7.out.up b8)
    have Q8 := Lib.hid (Q7.out.up b8)
    have O8 := Lib.hid (own_base o8 S7.out.bel.size)
    have N48 := Lib.hid (own_apart P7.out.own o8)
    have N68 := Lib.hid (own_apart Q7.out.own o8)
    clear b8 o8 S7 P7 Q7 R7
    have d0 := (P8.out.alloc (.cells #[.int .i64 C, .slice va8 L.length vc8] 26)).box.c0
    have d1 := (P8.out.alloc (.cells #[.int .i64 C, .slice va8 L.length vc8] 26)).box.c1
    go_wp2_with fail
    have A9 : ∃ w9, w9 = w8.alloc (.cells #[.int .i64 C, .slice va8 L.length vc8] 26) := ⟨_, rfl⟩
    obtain ⟨w9, hw9⟩ := A9
    have S9 : Hid (StA w c0 a0 len0 cap0 G w9) := Lib.hid (by rw [hw9]; exact S8.out.alloc _)
    have P9 : Hid (OwnB w g4 C (.slice va4 L.length vc4) L w9) := Lib.hid (by rw [hw9]; exact P8.out.alloc _)
    have Q9 : Hid (OwnB w g6 c0 (.slice ua6 len0 uc6) (cpy G len0 len0) w9) := Lib.hid (by rw [hw9]; exact Q8.out.alloc _)
    have U9 : Hid (OwnB w w8.heap.size C (.slice va8 L.length vc8) L w9) := Lib.hid (by rw [hw9]; exact OwnB.start S8.out.bel.size O8.out)
    rw [← hw9]
    clear hw9 S8 P8 Q8 O8 d0 d1
    generalize w8.heap.size = g8 at *
    refine (eqMatrix_same C _ _ L.length _ w9 U9.out.rd P9.out.rd).mono ?_
    rintro e w10 ⟨rfl, b10⟩
    have S10 := Lib.hid (S9.out.up b10)
    have P10 := Lib.hid (P9.out.up b10)
    have Q10 := Lib.hid (Q9.out.up b10)
    have U10 := Lib.hid (U9.out.up b10)
    clear b10 S9 P9 Q9 U9
    have R10 := Lib.hid Q10.out.rdc
    have KEEP : Hid (∀ wx, Below w10.heap.size w10 wx → (wx.cell? ⟨g6, 0, none⟩ = some (.int .i64 c0) ∧ wx.cell? ⟨g6, 1, none⟩ = some (.slice ua6 len0 uc6) ∧ wx.cell? ⟨w.heap.size, 0, none⟩ = some (.int .i64 c0) ∧ wx.cell? ⟨w.heap.size, 1, none⟩ = some (.slice a0 len0 cap0) ∧ Below w10.heap.size w10 wx)) :=
      Lib.hid (fun wx hb => ⟨(Q10.out.box.up hb).c0, (Q10.out.box.up hb).c1, (S10.out.box.up hb).c0, (S10.out.box.up hb).c1, hb⟩)
    go_wp2_with fail
    go_region_held3 (fun wx => wx.cell? ⟨g6, 0, none⟩ = some (.int .i64 c0) ∧ wx.cell? ⟨g6, 1, none⟩ = some (.slice ua6 len0 uc6) ∧ wx.cell? ⟨w.heap.size, 0, none⟩ = some (.int .i64 c0) ∧ wx.cell? ⟨w.heap.size, 1, none⟩ = some (.slice a0 len0 cap0) ∧ Below w10.heap.size w10 wx)
      (first | exact KEEP.out _ (Below.refl _ _).drew | exact KEEP.out _ (by assumption))
      (first | (go_at_call 60; refine (toMatrix_any c0 _ len0 G _ (by omega) (S10.out.rd.drewN 1)).mono ?_; rintro e w11 ⟨u11, rfl, o11, b11⟩; have r11 := (rd_of_own o11 (cpy_length G len0 len0).symm).congr (cpy_get G len0); have q11 := (R10.out.drewN 1).below b11; have z11 := below_drew1 b11) | (go_at_call 61; refine (eqMatrix_same c0 _ _ len0 G _ ?_ ?_).mono ?_; assumption; assumption; rintro e w12 ⟨rfl, b12⟩; have Z12 := z11.trans (b12.mono z11.size)))
    have S12 := Lib.hid (S10.out.up Z12)
    have P12 := Lib.hid (P10.out.up Z12)
    have Q12 := Lib.hid (Q10.out.up Z12)
    have U12 := Lib.hid (U10.out.up Z12)
    clear Z12 z11 b11 b12 r11 q11 o11 S10 P10 Q10 U10 R10 KEEP
    have e0 := Q12.out.box.c0
    have e1 := Q12.out.box.c1
    go_wp2_with fail
    refine (markMatrix_own c0 _ len0 _ 1 w.heap.size _ (by omega) (by omega) (by omega) Q12.out.own').mono ?_
    rintro e w13 ⟨rfl, o13, k13⟩
    have S13 := Lib.hid (S12.out.kept k13 Q12.out.own)
    have P13 := Lib.hid (P12.out.kept k13 N6.out Q12.out.own)
    have U13 := Lib.hid (U12.out.kept k13 (apart_symm N68.out) Q12.out.own)
    clear S12 P12 Q12 U12 o13 k13 e0 e1
    have d0 := P13.out.box.c0
    have d1 := P13.out.box.c1
    have e0 := U13.out.box.c0
    have e1 := U13.out.box.c1
    have hk1 : ¬ (1 : Int) + (len0 : Int) < 0 := by omega
    go_wp2_with fail
    refine (eqMatrix_same C _ _ L.length _ w13 U13.out.rd P13.out.rd).mono ?_
    rintro e w14 ⟨rfl, b14⟩
    have S14 := Lib.hid (S13.out.up b14)
    have P14 := Lib.hid (P13.out.up b14)
    have U14 := Lib.hid (U13.out.up b14)
    clear b14 S13 P13 U13 d0 d1 e0 e1 hk1
    have e0 := U14.out.box.c0
    have e1 := U14.out.box.c1
    go_wp2_with fail
    refine (markMatrix_own C _ L.length _ 1 w.heap.size _ (by omega) (by omega) (by omega) U14.out.own').mono ?_
    rintro e w15 ⟨rfl, o15, k15⟩
    have S15 := Lib.hid (S14.out.kept k15 U14.out.own)
    have P15 := Lib.hid (P14.out.kept k15 N48.out U14.out.own)
    have V15 := Lib.hid (U14.out.box.keptM k15 U14.out.own)
    have W15 := Lib.hid o15
    clear S14 P14 U14 o15 k15 e0 e1
    have e0 := V15.out.c0
    have e1 := V15.out.c1
    go_wp2_with fail
    refine (heldMatrix_own C _ L.length 1 w.heap.size _ (by omega) (by omega) (by omega) W15.out).mono ?_
    rintro e w16 ⟨rfl, b16⟩
    have S16 := Lib.hid (S15.out.up b16)
    have P16 := Lib.hid (P15.out.up b16)
    have V16 := Lib.hid (V15.out.up b16)
    have W16 := Lib.hid (own_below W15.out b16)
    clear S15 P15 V15 W15 b16 e0 e1
    have d0 := S16.out.box.c0
    have d1 := S16.out.box.c1
    have hk2 : ¬ (1 : Int) + (L.length : Int) < 0 := by omega
    go_wp2_with fail
    refine (toMatrix_any c0 _ len0 G w16 (by omega) S16.out.rd).mono ?_
    rintro e w17 ⟨u17, rfl, o17, b17⟩
    have S17 := Lib.hid (S16.out.up b17)
    have P17 := Lib.hid (P16.out.up b17)
    have V17 := Lib.hid (V16.out.up b17)
    have W17 := Lib.hid (own_below W16.out b17)
    have R17 := Lib.hid ((rd_of_own o17 (cpy_length G len0 len0).symm).congr (cpy_get G len0))
    clear S16 P16 V16 W16 b17 o17 d0 d1
    go_wp2_with fail
    refine (IM.out w17 _ R17.out (HT.out.below S17.out.bel)).mono ?_
    rintro e w18 ⟨v18, rfl, o18, b18⟩
    obtain ⟨va18, vc18, rfl⟩ := o18.shape
    have S18 := Lib.hid (S17.out.up b18)
    have P18 := Lib.hid (P17.out.up b18)
    have V18 := Lib.hid (V17.out.up b18)
    have W18 := Lib.hid (own_below W17.out b18)
    have R18 := Lib.hid (rd_of_own o18 rfl)
    clear S17 P17 V17 W17 b18 o18 R17
    have d0 := (P18.out.alloc (.cells #[.int .i64 C, .slice va18 L.length vc18] 26)).box.c0
    have d1 := (P18.out.alloc (.cells #[.int .i64 C, .slice va18 L.length vc18] 26)).box.c1
    go_wp2_with fail
    have A19 : ∃ w19, w19 = w18.alloc (.cells #[.int .i64 C, .slice va18 L.length vc18] 26) := ⟨_, rfl⟩
    obtain ⟨w19, hw19⟩ := A19
    have b19 : Below w18.heap.size w18 w19 := by rw [hw19]; exact (Below.refl _ _).alloc (Nat.le_refl _) _
    rw [← hw19]
    have S19 := Lib.hid (S18.out.up b19)
    have P19 := Lib.hid (P18.out.up b19)
    have V19 := Lib.hid (V18.out.up b19)
    have W19 := Lib.hid (own_below W18.out b19)
    have R19 := Lib.hid (R18.out.below b19)
    clear b19 hw19 S18 P18 V18 W18 R18 d0 d1
    refine (eqMatrix_same C _ _ L.length _ w19 R19.out P19.out.rd).mono ?_
    rintro e w20 ⟨rfl, b20⟩
    have S20 := Lib.hid (S19.out.up b20)
    have V20 := Lib.hid (V19.out.up b20)
    have W20 := Lib.hid (own_below W19.out b20)
    clear b20 S19 P19 V19 W19 R19
    have e0 := V20.out.c0
    have e1 := V20.out.c1
    go_wp2_with fail
    refine (heldMatrix_own C _ L.length 1 w.heap.size _ (by omega) (by omega) (by omega) W20.out).mono ?_
    rintro e w21 ⟨rfl, b21⟩
    have B21 := Lib.hid (S20.out.bel.trans (b21.mono S20.out.bel.size))
    go_wp2_with fail
    go_ret
    exact ⟨rfl, B21.out⟩
  · have hlt : (1048576 : Int) < (len0 : Int) := by omega
    have B0 : Hid (Below w.heap.size w (w.alloc (.cells #[.int .i64 c0, .slice a0 len0 cap0] 58))) := Lib.hid ((Below.refl w.heap.size w).alloc (Nat.le_refl _) _)
    go_enter Tryd.func11, Tryd.ntmps11
    go_wp2_with fail
    refine (szMatrix_no c0 a0 len0 cap0 1048576 _ hlt (by omega) hm).mono ?_
    rintro e w2 ⟨rfl, b2⟩
    have B2 := Lib.hid (B0.out.trans (b2.mono B0.out.size))
    go_wp2_with fail
    go_ret
    exact ⟨rfl, B2.out⟩
end Go.Proofs.YtdojblmffmefgaaDoor
