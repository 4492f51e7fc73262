/-
  The walk of laws.FnExactMeetOfSpaces.
-/
import Derived.Test.YtdojblmffmefgaaDoorDMeetB
import Derived.Test.YtdojblmffmefgaaDoorMLaw2
namespace Go.Proofs.YtdojblmffmefgaaDoor
open Go.RowKit
set_option linter.unusedVariables false
set_option maxRecDepth 100000

set_option maxHeartbeats 4000000 in
set_option maxRecDepth 100000 in
theorem walk_FnExactMeetOfSpaces (c0 : Int) (a0 : Option Addr) (len0 cap0 : Nat) (z0 : List Int) (c1 : Int) (a1 : Option Addr) (len1 cap1 : Nat) (z1 : List Int) (w : World) (w0 : IsRow .i64 w a0 len0 cap0 z0) (w1 : IsRow .i64 w a1 len1 cap1 z1) (hT : T0 w) :
    Calls Tryd.prog 13 #[.agg #[.int .i64 c0, .slice a0 len0 cap0], .agg #[.int .i64 c1, .slice a1 len1 cap1]] w fun e w' => e = .returned (.bool true) ∧ Below w.heap.size w w' := by
  have hr := w0.rd
  have HT := Lib.hid hT
  clear hT
  have hr1 := w1.rd
  clear w0 w1
  generalize (fun i => z0.getD i 0) = G at hr
  generalize (fun i => z1.getD i 0) = H at hr1
  have hm : len0 ≤ maxLen := by obtain ⟨_, _, e, hm, _⟩ := hr; cases e; exact hm
  have hm1 : len1 ≤ maxLen := by obtain ⟨_, _, e, hm, _⟩ := hr1; cases e; exact hm
  have t1 := Tryd.underlying58
  have t2 := Tryd.underlying26
  have S1 : Hid (St2 w c0 a0 len0 cap0 G c1 a1 len1 cap1 H ((w.alloc (.cells #[.int .i64 c0, .slice a0 len0 cap0] 58)).alloc (.cells #[.int .i64 c1, .slice a1 len1 cap1] 58))) := Lib.hid (St2.start hr hr1)
  clear hr hr1
  by_cases hbig : len0 ≤ 1048576
  · have hge : ¬ (1048576 : Int) - (len0 : Int) < 0 := by omega
    by_cases hbig1 : len0 + len1 ≤ 1048576
    · have hge1 : ¬ (1048576 : Int) - (len0 : Int) - (len1 : Int) < 0 := by omega
      obtain ⟨C, L, cd, hL, SP, IM⟩ := MeetOfSpaces_both c0 len0 G c1 len1 H
      have SP := Lib.hid SP
      have IM := Lib.hid IM
      go_enter Tryd.func13, Tryd.ntmps13
      go_wp2_with fail
      generalize ((w.alloc (.cells #[.int .i64 c0, .slice a0 len0 cap0] 58)).alloc (.cells #[.int .i64 c1, .slice a1 len1 cap1] 58)) = w1 at *
      refine (szMatrix_yes c0 a0 len0 cap0 1048576 w1 (by omega) (by omega)).mono ?_
      rintro e w2 ⟨rfl, b2⟩
      have S2 := Lib.hid (S1.out.up b2)
      have d0 := S2.out.boxB.c0
      have d1 := S2.out.boxB.c1
      clear b2 S1
      go_wp2_with fail
      refine (szMatrix_yes c1 a1 len1 cap1 _ w2 (by omega) (by omega)).mono ?_
      rintro e w3 ⟨rfl, b3⟩
      have S3 := Lib.hid (S2.out.up b3)
      clear b3 S2 d0 d1
      go_upto_region 8 with fail
      go_cut [6, 7] (fun s6 s7 wx => Made w w3 cd C L s6 s7 wx)
      case first =>
        have KEEP : Hid (∀ wx, Below w3.heap.size w3 wx → (wx.cell? ⟨w.heap.size, 0, none⟩ = some (.int .i64 c0) ∧ wx.cell? ⟨w.heap.size, 1, none⟩ = some (.slice a0 len0 cap0) ∧ wx.cell? ⟨w.heap.size + 1, 0, none⟩ = some (.int .i64 c1) ∧ wx.cell? ⟨w.heap.size + 1, 1, none⟩ = some (.slice a1 len1 cap1) ∧ Below w3.heap.size w3 wx)) :=
          Lib.hid (fun wx hb => ⟨(S3.out.boxA.up hb).c0, (S3.out.boxA.up hb).c1, (S3.out.boxB.up hb).c0, (S3.out.boxB.up hb).c1, hb⟩)
        go_region_held3 (fun wx => wx.cell? ⟨w.heap.size, 0, none⟩ = some (.int .i64 c0) ∧ wx.cell? ⟨w.heap.size, 1, none⟩ = some (.slice a0 len0 cap0) ∧ wx.cell? ⟨w.heap.size + 1, 0, none⟩ = some (.int .i64 c1) ∧ wx.cell? ⟨w.heap.size + 1, 1, none⟩ = some (.slice a1 len1 cap1) ∧ Below w3.heap.size w3 wx)
          (first | exact KEEP.out _ (Below.refl _ _).drew | exact KEEP.out _ (by assumption) | (go_split_ands; exact KEEP.out _ (Below.step (by assumption) ((Below.refl _ _).alloc (Nat.le_refl _) _))) | exact KEEP.out _ (Below.setCell (Below.setCell zC zB.size _) zB.size _) | exact KEEP.out _ (Below.setCell (Below.setCell zC zA.size _) zA.size _) | exact KEEP.out _ (Below.setCell (Below.setCell zC (Nat.le_refl _) _) (Nat.le_refl _) _))
          (first
            | (go_at_call_of 60 (Value.agg #[Value.int IntKind.i64 c0, Value.slice a0 len0 cap0]); go_split_ands; refine (toMatrix_any c0 _ len0 G _ (by omega) (S3.out.rdA.below ?_)).mono ?_; assumption; rintro e wA ⟨uA, rfl, oA, bA⟩; have rA := fun wx (hb : Below wA.heap.size wA wx) => ((rd_of_own oA (cpy_length G len0 len0).symm).congr (cpy_get G len0)).below hb; have zA := Below.step (by assumption) bA; (try have bx := Box.up (w := (w3.alloc (.cells #[.int .i64 0, .slice none 0 0] 26)).drew) (g := w3.heap.size) (Box.new w3 26 (.int .i64 0) (.slice none 0 0)) bA); (try have gx : w.heap.size ≤ w3.heap.size := S3.out.bel.size))
            | (go_at_call_of 60 (Value.agg #[Value.int IntKind.i64 c1, Value.slice a1 len1 cap1]); refine (toMatrix_any c1 _ len1 H _ (by omega) (S3.out.rdB.below ?_)).mono ?_; (first | exact zA | exact Below.step zA ((Below.refl _ _).alloc (Nat.le_refl _) _)); rintro e wB ⟨uB, rfl, oB, bB⟩; have qB : Below wA.heap.size wA wB := (by first | exact bB | exact Below.step ((Below.refl _ _).alloc (Nat.le_refl _) _) bB); have rB := fun wx (hb : Below wB.heap.size wB wx) => ((rd_of_own oB (cpy_length H len1 len1).symm).congr (cpy_get H len1)).below hb; have zB := Below.step zA qB; (try have bx2 := bx.up bB); (try have bx2 := Box.up (Box.new wA 26 (.int .i64 0) (.slice none 0 0)) bB); (try have gx2 : w.heap.size ≤ wA.heap.size := Nat.le_trans S3.out.bel.size zA.size))
            | (go_at_call 55; refine (SP.out _ uA uB (rA _ ?_) (rB _ ?_)).mono ?_; (first | exact qB | exact Below.step qB ((Below.refl _ _).alloc (Nat.le_refl _) _)); (first | exact Below.refl _ _ | exact (Below.refl _ _).alloc (Nat.le_refl _) _); rintro e wC ⟨vC, rfl, oC, bC⟩; have qC : Below wB.heap.size wB wC := (by first | exact bC | exact Below.step ((Below.refl _ _).alloc (Nat.le_refl _) _) bC); have zC := Below.step zB qC; have pC : wC.ownsRow w.heap.size 2 1 vC L.length (L.map (Value.int .i64)) := own_base oC (Nat.le_trans (Nat.le_trans S3.out.bel.size zB.size) (by first | exact Nat.le_refl _ | simp)); (try have bx3 := bx2.up bC); (try have bx3 := Box.up (Box.new wB 26 (.int .i64 0) (.slice none 0 0)) bC); (try have gx3 : w.heap.size ≤ wB.heap.size := Nat.le_trans S3.out.bel.size zB.size); (try have y0 := bx3.c0); (try have y1 := bx3.c1); (try have y2 := bx3.fr 0); (try have y3 := bx3.fr 1); obtain ⟨vaC, vcC, rfl⟩ := pC.shape))
        all_goals
          go_wp2_with fail
          go_meet
          first
            | exact ⟨_, _, _, rfl, rfl, Lib.hid (OwnB.start (Nat.le_trans S3.out.bel.size zC.size) pC), Lib.hid (Below.step zC ((Below.refl _ _).alloc (Nat.le_refl _) _))⟩
            | exact ⟨_, _, _, rfl, rfl, Lib.hid (OwnB.stored bx3 pC gx3), Lib.hid (Below.setCell (Below.setCell zC zB.size _) zB.size _)⟩
            | exact ⟨_, _, _, rfl, rfl, Lib.hid (OwnB.stored bx3 pC gx2), Lib.hid (Below.setCell (Below.setCell zC zA.size _) zA.size _)⟩
            | exact ⟨_, _, _, rfl, rfl, Lib.hid (OwnB.stored bx3 pC gx), Lib.hid (Below.setCell (Below.setCell zC (Nat.le_refl _) _) (Nat.le_refl _) _)⟩
      case rest =>
        obtain ⟨g4, va4, vc4, rfl, rfl, P4, B4⟩ := hcut
        have S4 := Lib.hid (S3.out.up B4.out)
        clear B4 S3
        have d0 := S4.out.boxA.c0
        have d1 := S4.out.boxA.c1
        go_wp2_with fail
        refine (toMatrix_any c0 _ len0 G wc (by omega) S4.out.rdA).mono ?_
        rintro e w5 ⟨u5, rfl, o5, b5⟩
        obtain ⟨ua5, uc5, rfl⟩ := o5.shape
        have S5 := Lib.hid (S4.out.up b5)
        have P5 := Lib.hid (P4.out.up b5)
        have O5 := Lib.hid (own_base o5 S4.out.bel.size)
        have N45 := Lib.hid (own_apart P4.out.own o5)
        clear b5 o5 S4 P4 d0 d1
        have e0 := (S5.out.alloc (.cells #[.int .i64 c0, .slice ua5 len0 uc5] 26)).boxB.c0
        have e1 := (S5.out.alloc (.cells #[.int .i64 c0, .slice ua5 len0 uc5] 26)).boxB.c1
        go_wp2_with fail
        have A6 : ∃ w6, w6 = w5.alloc (.cells #[.int .i64 c0, .slice ua5 len0 uc5] 26) := ⟨_, rfl⟩
        obtain ⟨w6, hw6⟩ := A6
        have S6 : Hid (St2 w c0 a0 len0 cap0 G c1 a1 len1 cap1 H w6) := Lib.hid (by rw [hw6]; exact S5.out.alloc _)
        have P6 : Hid (OwnB w g4 C (.slice va4 L.length vc4) L w6) := Lib.hid (by rw [hw6]; exact P5.out.alloc _)
        have X6 : Hid (OwnB w w5.heap.size c0 (.slice ua5 len0 uc5) (cpy G len0 len0) w6) := Lib.hid (by rw [hw6]; exact OwnB.start' S5.out.bel.size O5.out (cpy_length ..))
        rw [← hw6]
        clear hw6 S5 P5 O5 e0 e1
        generalize w5.heap.size = g6 at *
        refine (toMatrix_any c1 _ len1 H w6 (by omega) S6.out.rdB).mono ?_
        rintro e w7 ⟨u7, rfl, o7, b7⟩
        obtain ⟨ua7, uc7, rfl⟩ := o7.shape
        have S7 := Lib.hid (S6.out.up b7)
        have P7 := Lib.hid (P6.out.up b7)
        have X7 := Lib.hid (X6.out.up b7)
        have O7 := Lib.hid (own_base o7 S6.out.bel.size)
        have N47 := Lib.hid (own_apart P6.out.own o7)
        have N57 := Lib.hid (own_apart X6.out.own o7)
        clear b7 o7 S6 P6 X6
        have e0 := (X7.out.alloc (.cells #[.int .i64 c1, .slice ua7 len1 uc7] 26)).box.c0
        have e1 := (X7.out.alloc (.cells #[.int .i64 c1, .slice ua7 len1 uc7] 26)).box.c1
        go_wp2_with fail
        have A8 : ∃ w8, w8 = w7.alloc (.cells #[.int .i64 c1, .slice ua7 len1 uc7] 26) := ⟨_, rfl⟩
        obtain ⟨w8, hw8⟩ := A8
        have S8 : Hid (St2 w c0 a0 len0 cap0 G c1 a1 len1 cap1 H w8) := Lib.hid (by rw [hw8]; exact S7.out.alloc _)
        have P8 : Hid (OwnB w g4 C (.slice va4 L.length vc4) L w8) := Lib.hid (by rw [hw8]; exact P7.out.alloc _)
        have X8 : Hid (OwnB w g6 c0 (.slice ua5 len0 uc5) (cpy G len0 len0) w8) := Lib.hid (by rw [hw8]; exact X7.out.alloc _)
        have Y8 : Hid (OwnB w w7.heap.size c1 (.slice ua7 len1 uc7) (cpy H len1 len1) w8) := Lib.hid (by rw [hw8]; exact OwnB.start' S7.out.bel.size O7.out (cpy_length ..))
        rw [← hw8]
        clear hw8 S7 P7 X7 O7 e0 e1
        generalize w7.heap.size = g8 at *
        refine (IM.out w8 _ _ X8.out.rdc Y8.out.rdc (HT.out.below S8.out.bel)).mono ?_
        rintro e w9 ⟨v9, rfl, o9, b9⟩
        obtain ⟨va9, vc9, rfl⟩ := o9.shape
        have S9 := Lib.hid (S8.out.up b9)
        have P9 := Lib.hid (P8.out.up b9)
        have X9 := Lib.hid (X8.out.up b9)
        have Y9 := Lib.hid (Y8.out.up b9)
        have O9 := Lib.hid (own_base o9 S8.out.bel.size)
        have N49 := Lib.hid (own_apart P8.out.own o9)
        have N59 := Lib.hid (own_apart X8.out.own o9)
        have N79 := Lib.hid (own_apart Y8.out.own o9)
        clear b9 o9 S8 P8 X8 Y8
        have e0 := (P9.out.alloc (.cells #[.int .i64 C, .slice va9 L.length vc9] 26)).box.c0
        have e1 := (P9.out.alloc (.cells #[.int .i64 C, .slice va9 L.length vc9] 26)).box.c1
        go_wp2_with fail
        have A10 : ∃ w10, w10 = w9.alloc (.cells #[.int .i64 C, .slice va9 L.length vc9] 26) := ⟨_, rfl⟩
        obtain ⟨w10, hw10⟩ := A10
        have S10 : Hid (St2 w c0 a0 len0 cap0 G c1 a1 len1 cap1 H w10) := Lib.hid (by rw [hw10]; exact S9.out.alloc _)
        have P10 : Hid (OwnB w g4 C (.slice va4 L.length vc4) L w10) := Lib.hid (by rw [hw10]; exact P9.out.alloc _)
        have X10 : Hid (OwnB w g6 c0 (.slice ua5 len0 uc5) (cpy G len0 len0) w10) := Lib.hid (by rw [hw10]; exact X9.out.alloc _)
        have Y10 : Hid (OwnB w g8 c1 (.slice ua7 len1 uc7) (cpy H len1 len1) w10) := Lib.hid (by rw [hw10]; exact Y9.out.alloc _)
        have V10 : Hid (OwnB w w9.heap.size C (.slice va9 L.length vc9) L w10) := Lib.hid (by rw [hw10]; exact OwnB.start S9.out.bel.size O9.out)
        rw [← hw10]
        clear hw10 S9 P9 X9 Y9 O9 e0 e1
        generalize w9.heap.size = g10 at *
        refine (eqMatrix_same C _ _ L.length _ w10 V10.out.rd P10.out.rd).mono ?_
        rintro e w11 ⟨rfl, b11⟩
        have S11 := Lib.hid (S10.out.up b11)
        have P11 := Lib.hid (P10.out.up b11)
        have X11 := Lib.hid (X10.out.up b11)
        have Y11 := Lib.hid (Y10.out.up b11)
        have V11 := Lib.hid (V10.out.up b11)
        clear b11 S10 P10 X10 Y10 V10
        have Rw11 := Lib.hid X11.out.rdc
        have KEEP : Hid (∀ wx, Below w11.heap.size w11 wx → (wx.cell? ⟨g6, 0, none⟩ = some (.int .i64 c0) ∧ wx.cell? ⟨g6, 1, none⟩ = some (.slice ua5 len0 uc5) ∧ wx.cell? ⟨w.heap.size, 0, none⟩ = some (.int .i64 c0) ∧ wx.cell? ⟨w.heap.size, 1, none⟩ = some (.slice a0 len0 cap0) ∧ Below w11.heap.size w11 wx)) :=
          Lib.hid (fun wx hb => ⟨(X11.out.box.up hb).c0, (X11.out.box.up hb).c1, (S11.out.boxA.up hb).c0, (S11.out.boxA.up hb).c1, hb⟩)
        go_wp2_with fail
        go_region_held3 (fun wx => wx.cell? ⟨g6, 0, none⟩ = some (.int .i64 c0) ∧ wx.cell? ⟨g6, 1, none⟩ = some (.slice ua5 len0 uc5) ∧ wx.cell? ⟨w.heap.size, 0, none⟩ = some (.int .i64 c0) ∧ wx.cell? ⟨w.heap.size, 1, none⟩ = some (.slice a0 len0 cap0) ∧ Below w11.heap.size w11 wx)
          (first | exact KEEP.out _ (Below.refl _ _).drew | exact KEEP.out _ (by assumption))
          (first | (go_at_call 60; refine (toMatrix_any c0 _ len0 G _ (by omega) (S11.out.rdA.drewN 1)).mono ?_; rintro e wt ⟨ut, rfl, ot, bt⟩; have rt := (rd_of_own ot (cpy_length G len0 len0).symm).congr (cpy_get G len0); have qt := (Rw11.out.drewN 1).below bt; have zt := below_drew1 bt) | (go_at_call 61; refine (eqMatrix_same c0 _ _ len0 G _ ?_ ?_).mono ?_; assumption; assumption; rintro e w12 ⟨rfl, bu⟩; have Zu := zt.trans (bu.mono zt.size)))
        have S12 := Lib.hid (S11.out.up Zu)
        have P12 := Lib.hid (P11.out.up Zu)
        have X12 := Lib.hid (X11.out.up Zu)
        have Y12 := Lib.hid (Y11.out.up Zu)
        have V12 := Lib.hid (V11.out.up Zu)
        clear Zu zt bt bu rt qt ot S11 P11 X11 Y11 V11 Rw11 KEEP
        have Rw12 := Lib.hid Y12.out.rdc
        have KEEP : Hid (∀ wx, Below w12.heap.size w12 wx → (wx.cell? ⟨g8, 0, none⟩ = some (.int .i64 c1) ∧ wx.cell? ⟨g8, 1, none⟩ = some (.slice ua7 len1 uc7) ∧ wx.cell? ⟨w.heap.size + 1, 0, none⟩ = some (.int .i64 c1) ∧ wx.cell? ⟨w.heap.size + 1, 1, none⟩ = some (.slice a1 len1 cap1) ∧ Below w12.heap.size w12 wx)) :=
          Lib.hid (fun wx hb => ⟨(Y12.out.box.up hb).c0, (Y12.out.box.up hb).c1, (S12.out.boxB.up hb).c0, (S12.out.boxB.up hb).c1, hb⟩)
        go_wp2_with fail
        go_region_held3 (fun wx => wx.cell? ⟨g8, 0, none⟩ = some (.int .i64 c1) ∧ wx.cell? ⟨g8, 1, none⟩ = some (.slice ua7 len1 uc7) ∧ wx.cell? ⟨w.heap.size + 1, 0, none⟩ = some (.int .i64 c1) ∧ wx.cell? ⟨w.heap.size + 1, 1, none⟩ = some (.slice a1 len1 cap1) ∧ Below w12.heap.size w12 wx)
          (first | exact KEEP.out _ (Below.refl _ _).drew | exact KEEP.out _ (by assumption))
          (first | (go_at_call 60; refine (toMatrix_any c1 _ len1 H _ (by omega) (S12.out.rdB.drewN 1)).mono ?_; rintro e wt ⟨ut, rfl, ot, bt⟩; have rt := (rd_of_own ot (cpy_length H len1 len1).symm).congr (cpy_get H len1); have qt := (Rw12.out.drewN 1).below bt; have zt := below_drew1 bt) | (go_at_call 61; refine (eqMatrix_same c1 _ _ len1 H _ ?_ ?_).mono ?_; assumption; assumption; rintro e w13 ⟨rfl, bu⟩; have Zu := zt.trans (bu.mono zt.size)))
        have S13 := Lib.hid (S12.out.up Zu)
        have P13 := Lib.hid (P12.out.up Zu)
        have X13 := Lib.hid (X12.out.up Zu)
        have Y13 := Lib.hid (Y12.out.up Zu)
        have V13 := Lib.hid (V12.out.up Zu)
        clear Zu zt bt bu rt qt ot S12 P12 X12 Y12 V12 KEEP
        have e0 := X13.out.box.c0
        have e1 := X13.out.box.c1
        go_wp2_with fail
        refine (markMatrix_own c0 _ len0 _ 1 w.heap.size _ (by omega) (by omega) (by omega) X13.out.own').mono ?_
        rintro e w14 ⟨rfl, o14, k14⟩
        have S14 := Lib.hid (S13.out.kept k14 X13.out.own)
        have P14 := Lib.hid (P13.out.kept k14 N45.out X13.out.own)
        have Y14 := Lib.hid (Y13.out.kept k14 (apart_symm N57.out) X13.out.own)
        have V14 := Lib.hid (V13.out.kept k14 (apart_symm N59.out) X13.out.own)
        clear S13 P13 X13 Y13 V13 o14 k14 e0 e1
        have e0 := Y14.out.box.c0
        have e1 := Y14.out.box.c1
        go_wp2_with fail
        refine (markMatrix_own c1 _ len1 _ _ w.heap.size _ (by omega) (by omega) (by omega) Y14.out.own').mono ?_
        rintro e w15 ⟨rfl, o15, k15⟩
        have S15 := Lib.hid (S14.out.kept k15 Y14.out.own)
        have P15 := Lib.hid (P14.out.kept k15 N47.out Y14.out.own)
        have V15 := Lib.hid (V14.out.kept k15 (apart_symm N79.out) Y14.out.own)
        clear S14 P14 Y14 V14 o15 k15 e0 e1
        have d0 := P15.out.box.c0
        have d1 := P15.out.box.c1
        have e0 := V15.out.box.c0
        have e1 := V15.out.box.c1
        have hk1 : ¬ (1 : Int) + (len0 : Int) + (len1 : Int) < 0 := by omega
        go_wp2_with fail
        refine (eqMatrix_same C _ _ L.length _ w15 V15.out.rd P15.out.rd).mono ?_
        rintro e w16 ⟨rfl, b16⟩
        have S16 := Lib.hid (S15.out.up b16)
        have P16 := Lib.hid (P15.out.up b16)
        have V16 := Lib.hid (V15.out.up b16)
        clear b16 S15 P15 V15 d0 d1 e0 e1 hk1
        have e0 := V16.out.box.c0
        have e1 := V16.out.box.c1
        go_wp2_with fail
        refine (markMatrix_own C _ L.length _ 1 w.heap.size _ (by omega) (by omega) (by omega) V16.out.own').mono ?_
        rintro e w17 ⟨rfl, o17, k17⟩
        have S17 := Lib.hid (S16.out.kept k17 V16.out.own)
        have P17 := Lib.hid (P16.out.kept k17 N49.out V16.out.own)
        have V17 := Lib.hid (V16.out.box.keptM k17 V16.out.own)
        have W17 := Lib.hid o17
        clear S16 P16 V16 o17 k17 e0 e1
        have e0 := V17.out.c0
        have e1 := V17.out.c1
        go_wp2_with fail
        refine (heldMatrix_own C _ L.length 1 w.heap.size _ (by omega) (by omega) (by omega) W17.out).mono ?_
        rintro e w18 ⟨rfl, b18⟩
        have S18 := Lib.hid (S17.out.up b18)
        have P18 := Lib.hid (P17.out.up b18)
        have V18 := Lib.hid (V17.out.up b18)
        have W18 := Lib.hid (own_below W17.out b18)
        clear S17 P17 V17 W17 b18 e0 e1
        have hk2 : ¬ (1 : Int) + (L.length : Int) < 0 := by omega
        go_upto_region 31 with fail
        go_cut [15, 16] (fun s6 s7 wx => Made w w18 cd C L s6 s7 wx)
        case first =>
          have KEEP : Hid (∀ wx, Below w18.heap.size w18 wx → (wx.cell? ⟨w.heap.size, 0, none⟩ = some (.int .i64 c0) ∧ wx.cell? ⟨w.heap.size, 1, none⟩ = some (.slice a0 len0 cap0) ∧ wx.cell? ⟨w.heap.size + 1, 0, none⟩ = some (.int .i64 c1) ∧ wx.cell? ⟨w.heap.size + 1, 1, none⟩ = some (.slice a1 len1 cap1) ∧ Below w18.heap.size w18 wx)) :=
            Lib.hid (fun wx hb => ⟨(S18.out.boxA.up hb).c0, (S18.out.boxA.up hb).c1, (S18.out.boxB.up hb).c0, (S18.out.boxB.up hb).c1, hb⟩)
          go_region_held3 (fun wx => wx.cell? ⟨w.heap.size, 0, none⟩ = some (.int .i64 c0) ∧ wx.cell? ⟨w.heap.size, 1, none⟩ = some (.slice a0 len0 cap0) ∧ wx.cell? ⟨w.heap.size + 1, 0, none⟩ = some (.int .i64 c1) ∧ wx.cell? ⟨w.heap.size + 1, 1, none⟩ = some (.slice a1 len1 cap1) ∧ Below w18.heap.size w18 wx)
            (first | exact KEEP.out _ (Below.refl _ _).drew | exact KEEP.out _ (by assumption) | (go_split_ands; exact KEEP.out _ (Below.step (by assumption) ((Below.refl _ _).alloc (Nat.le_refl _) _))) | exact KEEP.out _ (Below.setCell (Below.setCell zC zB.size _) zB.size _) | exact KEEP.out _ (Below.setCell (Below.setCell zC zA.size _) zA.size _) | exact KEEP.out _ (Below.setCell (Below.setCell zC (Nat.le_refl _) _) (Nat.le_refl _) _))
            (first
              | (go_at_call_of 60 (Value.agg #[Value.int IntKind.i64 c0, Value.slice a0 len0 cap0]); go_split_ands; refine (toMatrix_any c0 _ len0 G _ (by omega) (S18.out.rdA.below ?_)).mono ?_; assumption; rintro e wA ⟨uA, rfl, oA, bA⟩; have rA := fun wx (hb : Below wA.heap.size wA wx) => ((rd_of_own oA (cpy_length G len0 len0).symm).congr (cpy_get G len0)).below hb; have zA := Below.step (by assumption) bA; (try have bx := Box.up (w := (w18.alloc (.cells #[.int .i64 0, .slice none 0 0] 26)).drew) (g := w18.heap.size) (Box.new w18 26 (.int .i64 0) (.slice none 0 0)) bA); (try have gx : w.heap.size ≤ w18.heap.size := S18.out.bel.size))
              | (go_at_call_of 60 (Value.agg #[Value.int IntKind.i64 c1, Value.slice a1 len1 cap1]); refine (toMatrix_any c1 _ len1 H _ (by omega) (S18.out.rdB.below ?_)).mono ?_; (first | exact zA | exact Below.step zA ((Below.refl _ _).alloc (Nat.le_refl _) _)); rintro e wB ⟨uB, rfl, oB, bB⟩; have qB : Below wA.heap.size wA wB := (by first | exact bB | exact Below.step ((Below.refl _ _).alloc (Nat.le_refl _) _) bB); have rB := fun wx (hb : Below wB.heap.size wB wx) => ((rd_of_own oB (cpy_length H len1 len1).symm).congr (cpy_get H len1)).below hb; have zB := Below.step zA qB; (try have bx2 := bx.up bB); (try have bx2 := Box.up (Box.new wA 26 (.int .i64 0) (.slice none 0 0)) bB); (try have gx2 : w.heap.size ≤ wA.heap.size := Nat.le_trans S18.out.bel.size zA.size))
              | (go_at_call 54; refine (IM.out _ uA uB (rA _ ?_) (rB _ ?_) ?_).mono ?_; (first | exact qB | exact Below.step qB ((Below.refl _ _).alloc (Nat.le_refl _) _)); (first | exact Below.refl _ _ | exact (Below.refl _ _).alloc (Nat.le_refl _) _); (first | exact HT.out.below (S18.out.bel.trans (zB.mono S18.out.bel.size)) | exact HT.out.below (S18.out.bel.trans ((Below.step zB ((Below.refl _ _).alloc (Nat.le_refl _) _)).mono S18.out.bel.size))); rintro e wC ⟨vC, rfl, oC, bC⟩; have qC : Below wB.heap.size wB wC := (by first | exact bC | exact Below.step ((Below.refl _ _).alloc (Nat.le_refl _) _) bC); have zC := Below.step zB qC; have pC : wC.ownsRow w.heap.size 2 1 vC L.length (L.map (Value.int .i64)) := own_base oC (Nat.le_trans (Nat.le_trans S18.out.bel.size zB.size) (by first | exact Nat.le_refl _ | simp)); (try have bx3 := bx2.up bC); (try have bx3 := Box.up (Box.new wB 26 (.int .i64 0) (.slice none 0 0)) bC); (try have gx3 : w.heap.size ≤ wB.heap.size := Nat.le_trans S18.out.bel.size zB.size); (try have y0 := bx3.c0); (try have y1 := bx3.c1); (try have y2 := bx3.fr 0); (try have y3 := bx3.fr 1); obtain ⟨vaC, vcC, rfl⟩ := pC.shape))
          all_goals
            go_wp2_with fail
            go_meet
            first
              | exact ⟨_, _, _, rfl, rfl, Lib.hid (OwnB.start (Nat.le_trans S18.out.bel.size zC.size) pC), Lib.hid (Below.step zC ((Below.refl _ _).alloc (Nat.le_refl _) _))⟩
              | exact ⟨_, _, _, rfl, rfl, Lib.hid (OwnB.stored bx3 pC gx3), Lib.hid (Below.setCell (Below.setCell zC zB.size _) zB.size _)⟩
              | exact ⟨_, _, _, rfl, rfl, Lib.hid (OwnB.stored bx3 pC gx2), Lib.hid (Below.setCell (Below.setCell zC zA.size _) zA.size _)⟩
              | exact ⟨_, _, _, rfl, rfl, Lib.hid (OwnB.stored bx3 pC gx), Lib.hid (Below.setCell (Below.setCell zC (Nat.le_refl _) _) (Nat.le_refl _) _)⟩
        case rest =>
          obtain ⟨g19, va19, vc19, rfl, rfl, Q19, B19⟩ := hcut
          have S19 := Lib.hid (S18.out.up B19.out)
          have P19 := Lib.hid (P18.out.up B19.out)
          have V19 := Lib.hid (V18.out.up B19.out)
          have W19 := Lib.hid (own_below W18.out B19.out)
          clear B19 S18 P18 V18 W18
          have d0 := P19.out.box.c0
          have d1 := P19.out.box.c1
          have e0 := Q19.out.box.c0
          have e1 := Q19.out.box.c1
          go_wp2_with fail
          refine (eqMatrix_same C _ _ L.length _ wc Q19.out.rd P19.out.rd).mono ?_
          rintro e w20 ⟨rfl, b20⟩
          have S20 := Lib.hid (S19.out.up b20)
          have V20 := Lib.hid (V19.out.up b20)
          have W20 := Lib.hid (own_below W19.out b20)
          clear b20 S19 P19 V19 W19 Q19 d0 d1 e0 e1
          have e0 := V20.out.c0
          have e1 := V20.out.c1
          go_wp2_with fail
          refine (heldMatrix_own C _ L.length 1 w.heap.size _ (by omega) (by omega) (by omega) W20.out).mono ?_
          rintro e w21 ⟨rfl, b21⟩
          have B21 := Lib.hid (S20.out.bel.trans (b21.mono S20.out.bel.size))
          go_wp2_with fail
          go_ret
          exact ⟨rfl, B21.out⟩
    · have hlt1 : (1048576 : Int) - (len0 : Int) < (len1 : Int) := by omega
      go_enter Tryd.func13, Tryd.ntmps13
      go_wp2_with fail
      generalize ((w.alloc (.cells #[.int .i64 c0, .slice a0 len0 cap0] 58)).alloc (.cells #[.int .i64 c1, .slice a1 len1 cap1] 58)) = w1 at *
      refine (szMatrix_yes c0 a0 len0 cap0 1048576 w1 (by omega) (by omega)).mono ?_
      rintro e w2 ⟨rfl, b2⟩
      have S2 := Lib.hid (S1.out.up b2)
      have d0 := S2.out.boxB.c0
      have d1 := S2.out.boxB.c1
      clear b2 S1
      go_wp2_with fail
      refine (szMatrix_no c1 a1 len1 cap1 _ w2 hlt1 (by omega) hm1).mono ?_
      rintro e w3 ⟨rfl, b3⟩
      have S3 := Lib.hid (S2.out.up b3)
      clear b3 S2 d0 d1
      go_wp2_with fail
      go_ret
      exact ⟨rfl, S3.out.bel⟩
  · have hlt : (1048576 : Int) < (len0 : Int) := by omega
    go_enter Tryd.func13, Tryd.ntmps13
    go_wp2_with fail
    generalize ((w.alloc (.cells #[.int .i64 c0, .slice a0 len0 cap0] 58)).alloc (.cells #[.int .i64 c1, .slice a1 len1 cap1] 58)) = w1 at *
    refine (szMatrix_no c0 a0 len0 cap0 1048576 w1 hlt (by omega) hm).mono ?_
    rintro e w2 ⟨rfl, b2⟩
    have S2 := Lib.hid (S1.out.up b2)
    clear b2 S1
    go_wp2_with fail
    go_ret
    exact ⟨rfl, S2.out.bel⟩
end Go.Proofs.YtdojblmffmefgaaDoor
