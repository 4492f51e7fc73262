/-
  The walk of laws.FnExactComplementRows.
-/
import Derived.Test.YtdojblmffmefgaaDoorDCompl
import Derived.Test.YtdojblmffmefgaaDoorMLaw2
namespace Go.Proofs.YtdojblmffmefgaaDoor
open Go.RowKit
set_option linter.unusedVariables false
set_option maxRecDepth 100000

/-- A row of its own that is made later is another. -/
theorem apart_later {w w' w'' : World} {B m n : Nat} {v v' : Value} {xs ys : List Value} {e e' : TypeId} {s s' : Nat} (h : w.ownsRow B e s v n xs) (k : w''.ownsRow w'.heap.size e' s' v' m ys) (b : Below w.heap.size w w') : v.ownBlock = none ∨ v.ownBlock ≠ v'.ownBlock := by
  cases hv : v.ownBlock with
  | none => exact .inl rfl
  | some q =>
    refine .inr fun he => ?_
    have h1 := (h.lt q hv).2
    have h2 := (k.lt q he.symm).1
    have := b.size
    omega

set_option maxHeartbeats 4000000 in
theorem walk_FnExactComplementRows (c0 : Int) (a0 : Option Addr) (len0 cap0 : Nat) (z0 : List Int) (c1 : Int) (a1 : Option Addr) (len1 cap1 : Nat) (z1 : List Int) (w : World) (w0 : IsRow .i64 w a0 len0 cap0 z0) (w1 : IsRow .i64 w a1 len1 cap1 z1) (hT : T0 w) :
    Calls Tryd.prog 14 #[.agg #[.int .i64 c0, .slice a0 len0 cap0], .agg #[.int .i64 c1, .slice a1 len1 cap1]] w fun e w' => e = .returned (.bool true) ∧ Below w.heap.size w w' := by
  have hr := w0.rd
  have HT := Lib.hid hT
  clear hT
  have hr1 := w1.rd
  clear w0 w1
  generalize (fun i => z0.getD i 0) = G at hr
  generalize (fun i => z1.getD i 0) = H at hr1
  have hm : len0 ≤ maxLen := by obtain ⟨_, _, e, hm, _⟩ := hr; cases e; exact hm
  have hm1 : len1 ≤ maxLen := by obtain ⟨_, _, e, hm, _⟩ := hr1; cases e; exact hm
  have t1 := Tryd.underlying58
  have t2 := Tryd.underlying26
  have S1 : Hid (St2 w c0 a0 len0 cap0 G c1 a1 len1 cap1 H ((w.alloc (.cells #[.int .i64 c0, .slice a0 len0 cap0] 58)).alloc (.cells #[.int .i64 c1, .slice a1 len1 cap1] 58))) := Lib.hid (St2.start hr hr1)
  clear hr hr1
  by_cases hbig : len0 ≤ 1048576
  · have hge : ¬ (1048576 : Int) - (len0 : Int) < 0 := by omega
    by_cases hbig1 : len0 + len1 ≤ 1048576
    · have hge1 : ¬ (1048576 : Int) - (len0 : Int) - (len1 : Int) < 0 := by omega
      obtain ⟨L, cd, hL, SP, IM⟩ := ComplementRows_both c0 len0 G c1 len1 H
      have SP := Lib.hid SP
      have IM := Lib.hid IM
      go_enter Tryd.func14, Tryd.ntmps14
      go_wp2_with fail
      generalize ((w.alloc (.cells #[.int .i64 c0, .slice a0 len0 cap0] 58)).alloc (.cells #[.int .i64 c1, .slice a1 len1 cap1] 58)) = w1 at *
      refine (szMatrix_yes c0 a0 len0 cap0 1048576 w1 (by omega) (by omega)).mono ?_
      rintro e w2 ⟨rfl, b2⟩
      have S2 := Lib.hid (S1.out.up b2)
      have d0 := S2.out.boxB.c0
      have d1 := S2.out.boxB.c1
      clear b2 S1
      go_wp2_with fail
      refine (szMatrix_yes c1 a1 len1 cap1 _ w2 (by omega) (by omega)).mono ?_
      rintro e w3 ⟨rfl, b3⟩
      have S3 := Lib.hid (S2.out.up b3)
      clear b3 S2 d0 d1
      have KEEP : Hid (∀ wx, Below w3.heap.size w3 wx → (wx.cell? ⟨w.heap.size, 0, none⟩ = some (.int .i64 c0) ∧ wx.cell? ⟨w.heap.size, 1, none⟩ = some (.slice a0 len0 cap0) ∧ wx.cell? ⟨w.heap.size + 1, 0, none⟩ = some (.int .i64 c1) ∧ wx.cell? ⟨w.heap.size + 1, 1, none⟩ = some (.slice a1 len1 cap1) ∧ Below w3.heap.size w3 wx)) :=
        Lib.hid (fun wx hb => ⟨(S3.out.boxA.up hb).c0, (S3.out.boxA.up hb).c1, (S3.out.boxB.up hb).c0, (S3.out.boxB.up hb).c1, hb⟩)
      go_wp2_with fail
      go_region_held3 (fun wx => wx.cell? ⟨w.heap.size, 0, none⟩ = some (.int .i64 c0) ∧ wx.cell? ⟨w.heap.size, 1, none⟩ = some (.slice a0 len0 cap0) ∧ wx.cell? ⟨w.heap.size + 1, 0, none⟩ = some (.int .i64 c1) ∧ wx.cell? ⟨w.heap.size + 1, 1, none⟩ = some (.slice a1 len1 cap1) ∧ Below w3.heap.size w3 wx)
        (first | exact KEEP.out _ (Below.refl _ _).drew | exact KEEP.out _ (by assumption))
        (first
          | (go_at_call_of 60 (Value.agg #[Value.int IntKind.i64 c0, Value.slice a0 len0 cap0]); go_split_ands; refine (toMatrix_any c0 _ len0 G _ (by omega) (S3.out.rdA.below ?_)).mono ?_; assumption; rintro e wA ⟨uA, rfl, oA, bA⟩; have rA := fun wx (hb : Below wA.heap.size wA wx) => ((rd_of_own oA (cpy_length G len0 len0).symm).congr (cpy_get G len0)).below hb; have zA := Below.step (by assumption) bA)
          | (go_at_call_of 60 (Value.agg #[Value.int IntKind.i64 c1, Value.slice a1 len1 cap1]); refine (toMatrix_any c1 _ len1 H _ (by omega) (S3.out.rdB.below zA)).mono ?_; rintro e wB ⟨uB, rfl, oB, bB⟩; have rB := ((rd_of_own oB (cpy_length H len1 len1).symm).congr (cpy_get H len1)); have zB := Below.step zA bB)
          | (go_at_call 57; refine (SP.out _ uA uB (rA _ bB) rB).mono ?_; rintro e wC ⟨vC, rfl, oC, bC⟩; have zC := Below.step zB bC; have pC : wC.ownsRow w.heap.size 2 1 vC L.length (L.map (Value.int .i64)) := own_base oC (Nat.le_trans S3.out.bel.size zB.size); have nC := oC; have lC := zB; obtain ⟨vaC, vcC, rfl⟩ := pC.shape))
      have S4 := Lib.hid (S3.out.up zC)
      have P4 : Hid (wC.ownsRow w.heap.size 2 1 (.slice vaC L.length vcC) L.length (L.map (Value.int .i64))) := Lib.hid pC
      clear zA zB zC rA rB oA oB oC bA bB bC nC lC pC S3 KEEP
      have d0 := S4.out.boxA.c0
      have d1 := S4.out.boxA.c1
      go_wp2_with fail
      refine (toMatrix_any c0 _ len0 G wC (by omega) S4.out.rdA).mono ?_
      rintro e w5 ⟨u5, rfl, o5, b5⟩
      obtain ⟨ua5, uc5, rfl⟩ := o5.shape
      have S5 := Lib.hid (S4.out.up b5)
      have P5 := Lib.hid (own_below P4.out b5)
      have O5 := Lib.hid (own_base o5 S4.out.bel.size)
      have N45 := Lib.hid (own_apart P4.out o5)
      clear b5 o5 S4 P4 d0 d1
      have e0 := (S5.out.alloc (.cells #[.int .i64 c0, .slice ua5 len0 uc5] 26)).boxB.c0
      have e1 := (S5.out.alloc (.cells #[.int .i64 c0, .slice ua5 len0 uc5] 26)).boxB.c1
      go_wp2_with fail
      have A6 : ∃ w6, w6 = w5.alloc (.cells #[.int .i64 c0, .slice ua5 len0 uc5] 26) := ⟨_, rfl⟩
      obtain ⟨w6, hw6⟩ := A6
      have S6 : Hid (St2 w c0 a0 len0 cap0 G c1 a1 len1 cap1 H w6) := Lib.hid (by rw [hw6]; exact S5.out.alloc _)
      have P6 : Hid (w6.ownsRow w.heap.size 2 1 (.slice vaC L.length vcC) L.length (L.map (Value.int .i64))) := Lib.hid (by rw [hw6]; exact own_below P5.out ((Below.refl _ _).alloc (Nat.le_refl _) _))
      have X6 : Hid (OwnB w w5.heap.size c0 (.slice ua5 len0 uc5) (cpy G len0 len0) w6) := Lib.hid (by rw [hw6]; exact OwnB.start' S5.out.bel.size O5.out (cpy_length ..))
      rw [← hw6]
      clear hw6 S5 P5 O5 e0 e1
      generalize w5.heap.size = g6 at *
      refine (toMatrix_any c1 _ len1 H w6 (by omega) S6.out.rdB).mono ?_
      rintro e w7 ⟨u7, rfl, o7, b7⟩
      obtain ⟨ua7, uc7, rfl⟩ := o7.shape
      have S7 := Lib.hid (S6.out.up b7)
      have P7 := Lib.hid (own_below P6.out b7)
      have X7 := Lib.hid (X6.out.up b7)
      have O7 := Lib.hid (own_base o7 S6.out.bel.size)
      have N47 := Lib.hid (own_apart P6.out o7)
      have N57 := Lib.hid (own_apart X6.out.own o7)
      clear b7 o7 S6 P6 X6
      have e0 := (X7.out.alloc (.cells #[.int .i64 c1, .slice ua7 len1 uc7] 26)).box.c0
      have e1 := (X7.out.alloc (.cells #[.int .i64 c1, .slice ua7 len1 uc7] 26)).box.c1
      go_wp2_with fail
      have A8 : ∃ w8, w8 = w7.alloc (.cells #[.int .i64 c1, .slice ua7 len1 uc7] 26) := ⟨_, rfl⟩
      obtain ⟨w8, hw8⟩ := A8
      have S8 : Hid (St2 w c0 a0 len0 cap0 G c1 a1 len1 cap1 H w8) := Lib.hid (by rw [hw8]; exact S7.out.alloc _)
      have P8 : Hid (w8.ownsRow w.heap.size 2 1 (.slice vaC L.length vcC) L.length (L.map (Value.int .i64))) := Lib.hid (by rw [hw8]; exact own_below P7.out ((Below.refl _ _).alloc (Nat.le_refl _) _))
      have X8 : Hid (OwnB w g6 c0 (.slice ua5 len0 uc5) (cpy G len0 len0) w8) := Lib.hid (by rw [hw8]; exact X7.out.alloc _)
      have Y8 : Hid (OwnB w w7.heap.size c1 (.slice ua7 len1 uc7) (cpy H len1 len1) w8) := Lib.hid (by rw [hw8]; exact OwnB.start' S7.out.bel.size O7.out (cpy_length ..))
      rw [← hw8]
      clear hw8 S7 P7 X7 O7 e0 e1
      generalize w7.heap.size = g8 at *
      refine (IM.out w8 _ _ X8.out.rdc Y8.out.rdc (HT.out.below S8.out.bel)).mono ?_
      rintro e w9 ⟨v9, rfl, o9, b9⟩
      obtain ⟨va9, vc9, rfl⟩ := o9.shape
      have S9 := Lib.hid (S8.out.up b9)
      have P9 := Lib.hid (own_below P8.out b9)
      have X9 := Lib.hid (X8.out.up b9)
      have Y9 := Lib.hid (Y8.out.up b9)
      have V9 := Lib.hid (own_base o9 S8.out.bel.size)
      have N49 := Lib.hid (own_apart P8.out o9)
      have N59 := Lib.hid (own_apart X8.out.own o9)
      have N79 := Lib.hid (own_apart Y8.out.own o9)
      clear b9 o9 S8 P8 X8 Y8
      go_wp2_with fail
      refine (eqInt64S_same _ _ L.length _ w9 (rd_of_own V9.out rfl) (rd_of_own P9.out rfl)).mono ?_
      rintro e w10 ⟨rfl, q10, rfl⟩
      have b10 : Below w9.heap.size w9 (w9.drewN q10) := below_drewN (Below.refl _ _) q10
      have S11 := Lib.hid (S9.out.up b10)
      have P11 := Lib.hid (own_below P9.out b10)
      have X11 := Lib.hid (X9.out.up b10)
      have Y11 := Lib.hid (Y9.out.up b10)
      have V11 := Lib.hid (own_below V9.out b10)
      clear b10 S9 P9 X9 Y9 V9
      generalize w9.drewN q10 = w11 at *
      have Rw11 := Lib.hid X11.out.rdc
      have KEEP : Hid (∀ wx, Below w11.heap.size w11 wx → (wx.cell? ⟨g6, 0, none⟩ = some (.int .i64 c0) ∧ wx.cell? ⟨g6, 1, none⟩ = some (.slice ua5 len0 uc5) ∧ wx.cell? ⟨w.heap.size, 0, none⟩ = some (.int .i64 c0) ∧ wx.cell? ⟨w.heap.size, 1, none⟩ = some (.slice a0 len0 cap0) ∧ Below w11.heap.size w11 wx)) :=
        Lib.hid (fun wx hb => ⟨(X11.out.box.up hb).c0, (X11.out.box.up hb).c1, (S11.out.boxA.up hb).c0, (S11.out.boxA.up hb).c1, hb⟩)
      go_wp2_with fail
      go_region_held3 (fun wx => wx.cell? ⟨g6, 0, none⟩ = some (.int .i64 c0) ∧ wx.cell? ⟨g6, 1, none⟩ = some (.slice ua5 len0 uc5) ∧ wx.cell? ⟨w.heap.size, 0, none⟩ = some (.int .i64 c0) ∧ wx.cell? ⟨w.heap.size, 1, none⟩ = some (.slice a0 len0 cap0) ∧ Below w11.heap.size w11 wx)
        (first | exact KEEP.out _ (Below.refl _ _).drew | exact KEEP.out _ (by assumption))
        (first | (go_at_call 60; refine (toMatrix_any c0 _ len0 G _ (by omega) (S11.out.rdA.drewN 1)).mono ?_; rintro e wt ⟨ut, rfl, ot, bt⟩; have rt := (rd_of_own ot (cpy_length G len0 len0).symm).congr (cpy_get G len0); have qt := (Rw11.out.drewN 1).below bt; have zt := below_drew1 bt) | (go_at_call 61; refine (eqMatrix_same c0 _ _ len0 G _ ?_ ?_).mono ?_; assumption; assumption; rintro e w12 ⟨rfl, bu⟩; have Zu := zt.trans (bu.mono zt.size)))
      have S12 := Lib.hid (S11.out.up Zu)
      have P12 := Lib.hid (own_below P11.out Zu)
      have X12 := Lib.hid (X11.out.up Zu)
      have Y12 := Lib.hid (Y11.out.up Zu)
      have V12 := Lib.hid (own_below V11.out Zu)
      clear Zu zt bt bu rt qt ot S11 P11 X11 Y11 V11 Rw11 KEEP
      have Rw12 := Lib.hid Y12.out.rdc
      have KEEP : Hid (∀ wx, Below w12.heap.size w12 wx → (wx.cell? ⟨g8, 0, none⟩ = some (.int .i64 c1) ∧ wx.cell? ⟨g8, 1, none⟩ = some (.slice ua7 len1 uc7) ∧ wx.cell? ⟨w.heap.size + 1, 0, none⟩ = some (.int .i64 c1) ∧ wx.cell? ⟨w.heap.size + 1, 1, none⟩ = some (.slice a1 len1 cap1) ∧ Below w12.heap.size w12 wx)) :=
        Lib.hid (fun wx hb => ⟨(Y12.out.box.up hb).c0, (Y12.out.box.up hb).c1, (S12.out.boxB.up hb).c0, (S12.out.boxB.up hb).c1, hb⟩)
      go_wp2_with fail
      go_region_held3 (fun wx => wx.cell? ⟨g8, 0, none⟩ = some (.int .i64 c1) ∧ wx.cell? ⟨g8, 1, none⟩ = some (.slice ua7 len1 uc7) ∧ wx.cell? ⟨w.heap.size + 1, 0, none⟩ = some (.int .i64 c1) ∧ wx.cell? ⟨w.heap.size + 1, 1, none⟩ = some (.slice a1 len1 cap1) ∧ Below w12.heap.size w12 wx)
        (first | exact KEEP.out _ (Below.refl _ _).drew | exact KEEP.out _ (by assumption))
        (first | (go_at_call 60; refine (toMatrix_any c1 _ len1 H _ (by omega) (S12.out.rdB.drewN 1)).mono ?_; rintro e wt ⟨ut, rfl, ot, bt⟩; have rt := (rd_of_own ot (cpy_length H len1 len1).symm).congr (cpy_get H len1); have qt := (Rw12.out.drewN 1).below bt; have zt := below_drew1 bt) | (go_at_call 61; refine (eqMatrix_same c1 _ _ len1 H _ ?_ ?_).mono ?_; assumption; assumption; rintro e w13 ⟨rfl, bu⟩; have Zu := zt.trans (bu.mono zt.size)))
      have S13 := Lib.hid (S12.out.up Zu)
      have P13 := Lib.hid (own_below P12.out Zu)
      have X13 := Lib.hid (X12.out.up Zu)
      have Y13 := Lib.hid (Y12.out.up Zu)
      have V13 := Lib.hid (own_below V12.out Zu)
      clear Zu zt bt bu rt qt ot S12 P12 X12 Y12 V12 KEEP
      have e0 := X13.out.box.c0
      have e1 := X13.out.box.c1
      go_wp2_with fail
      refine (markMatrix_own c0 _ len0 _ 1 w.heap.size _ (by omega) (by omega) (by omega) X13.out.own').mono ?_
      rintro e w14 ⟨rfl, o14, k14⟩
      have S14 := Lib.hid (S13.out.kept k14 X13.out.own)
      have P14 := Lib.hid (P13.out.kept k14 N45.out)
      have Y14 := Lib.hid (Y13.out.kept k14 (apart_symm N57.out) X13.out.own)
      have V14 := Lib.hid (V13.out.kept k14 (apart_symm N59.out))
      clear S13 P13 X13 Y13 V13 o14 k14 e0 e1
      have e0 := Y14.out.box.c0
      have e1 := Y14.out.box.c1
      go_wp2_with fail
      refine (markMatrix_own c1 _ len1 _ _ w.heap.size _ (by omega) (by omega) (by omega) Y14.out.own').mono ?_
      rintro e w15 ⟨rfl, o15, k15⟩
      have S15 := Lib.hid (S14.out.kept k15 Y14.out.own)
      have P15 := Lib.hid (P14.out.kept k15 N47.out)
      have V15 := Lib.hid (V14.out.kept k15 (apart_symm N79.out))
      clear S14 P14 Y14 V14 o15 k15 e0 e1
      have hk1 : ¬ (1 : Int) + (len0 : Int) + (len1 : Int) < 0 := by omega
      go_wp2_with fail
      refine (eqInt64S_same _ _ L.length _ w15 (rd_of_own V15.out rfl) (rd_of_own P15.out rfl)).mono ?_
      rintro e w16' ⟨rfl, q16, rfl⟩
      have b16 : Below w15.heap.size w15 (w15.drewN q16) := below_drewN (Below.refl _ _) q16
      have S16 := Lib.hid (S15.out.up b16)
      have P16 := Lib.hid (own_below P15.out b16)
      have V16 := Lib.hid (own_below V15.out b16)
      clear b16 S15 P15 V15 hk1
      generalize w15.drewN q16 = w16 at *
      go_wp2_with fail
      refine (markInt64S_own _ L.length _ 1 w.heap.size w16 (by omega) (by omega) (by omega) V16.out).mono ?_
      rintro e w17 ⟨rfl, o17, k17, z17⟩
      have S17 := Lib.hid (S16.out.kept k17 V16.out)
      have P17 := Lib.hid (P16.out.kept k17 N49.out)
      have W17 := Lib.hid o17
      clear S16 P16 V16 o17 k17 z17
      go_wp2_with fail
      refine (heldInt64S_own _ L.length 1 w.heap.size w17 (by omega) (by omega) (by omega) W17.out).mono ?_
      rintro e w18 ⟨rfl, rfl⟩
      have hk2 : ¬ (1 : Int) + (L.length : Int) < 0 := by omega
      have KEEP : Hid (∀ wx, Below w17.heap.size w17 wx → (wx.cell? ⟨w.heap.size, 0, none⟩ = some (.int .i64 c0) ∧ wx.cell? ⟨w.heap.size, 1, none⟩ = some (.slice a0 len0 cap0) ∧ wx.cell? ⟨w.heap.size + 1, 0, none⟩ = some (.int .i64 c1) ∧ wx.cell? ⟨w.heap.size + 1, 1, none⟩ = some (.slice a1 len1 cap1) ∧ Below w17.heap.size w17 wx)) :=
        Lib.hid (fun wx hb => ⟨(S17.out.boxA.up hb).c0, (S17.out.boxA.up hb).c1, (S17.out.boxB.up hb).c0, (S17.out.boxB.up hb).c1, hb⟩)
      go_wp2_with fail
      go_region_held3 (fun wx => wx.cell? ⟨w.heap.size, 0, none⟩ = some (.int .i64 c0) ∧ wx.cell? ⟨w.heap.size, 1, none⟩ = some (.slice a0 len0 cap0) ∧ wx.cell? ⟨w.heap.size + 1, 0, none⟩ = some (.int .i64 c1) ∧ wx.cell? ⟨w.heap.size + 1, 1, none⟩ = some (.slice a1 len1 cap1) ∧ Below w17.heap.size w17 wx)
        (first | exact KEEP.out _ (Below.refl _ _).drew | exact KEEP.out _ (by assumption))
        (first
          | (go_at_call_of 60 (Value.agg #[Value.int IntKind.i64 c0, Value.slice a0 len0 cap0]); go_split_ands; refine (toMatrix_any c0 _ len0 G _ (by omega) (S17.out.rdA.below ?_)).mono ?_; assumption; rintro e wA' ⟨uA', rfl, oA, bA⟩; have rA := fun wx (hb : Below wA'.heap.size wA' wx) => ((rd_of_own oA (cpy_length G len0 len0).symm).congr (cpy_get G len0)).below hb; have zA := Below.step (by assumption) bA)
          | (go_at_call_of 60 (Value.agg #[Value.int IntKind.i64 c1, Value.slice a1 len1 cap1]); refine (toMatrix_any c1 _ len1 H _ (by omega) (S17.out.rdB.below zA)).mono ?_; rintro e wB' ⟨uB', rfl, oB, bB⟩; have rB := ((rd_of_own oB (cpy_length H len1 len1).symm).congr (cpy_get H len1)); have zB := Below.step zA bB)
          | (go_at_call 56; refine (IM.out _ uA' uB' (rA _ bB) rB ?_).mono ?_; exact HT.out.below (S17.out.bel.trans (zB.mono S17.out.bel.size)); rintro e wC' ⟨vC', rfl, oC, bC⟩; have zC := Below.step zB bC; have pC : wC'.ownsRow w.heap.size 2 1 vC' L.length (L.map (Value.int .i64)) := own_base oC (Nat.le_trans S17.out.bel.size zB.size); have nC := oC; have lC := zB; obtain ⟨vaC', vcC', rfl⟩ := pC.shape))
      have S18 := Lib.hid (S17.out.up zC)
      have P18 := Lib.hid (own_below P17.out zC)
      have W18 := Lib.hid (own_below W17.out zC)
      have Q18 : Hid (wC'.ownsRow w.heap.size 2 1 (.slice vaC' L.length vcC') L.length (L.map (Value.int .i64))) := Lib.hid pC
      clear zA zB zC rA rB oA oB oC bA bB bC nC lC pC S17 P17 W17 KEEP
      go_wp2_with fail
      refine (eqInt64S_same _ _ L.length _ wC' (rd_of_own Q18.out rfl) (rd_of_own P18.out rfl)).mono ?_
      rintro e w19' ⟨rfl, q19, rfl⟩
      have b19 : Below wC'.heap.size wC' (wC'.drewN q19) := below_drewN (Below.refl _ _) q19
      have S19 := Lib.hid (S18.out.up b19)
      have W19 := Lib.hid (own_below W18.out b19)
      clear b19 S18 P18 W18 Q18
      generalize wC'.drewN q19 = w19 at *
      go_wp2_with fail
      refine (heldInt64S_own _ L.length 1 w.heap.size w19 (by omega) (by omega) (by omega) W19.out).mono ?_
      rintro e w20 ⟨rfl, rfl⟩
      go_wp2_with fail
      go_ret
      exact ⟨rfl, S19.out.bel⟩
    · have hlt1 : (1048576 : Int) - (len0 : Int) < (len1 : Int) := by omega
      go_enter Tryd.func14, Tryd.ntmps14
      go_wp2_with fail
      generalize ((w.alloc (.cells #[.int .i64 c0, .slice a0 len0 cap0] 58)).alloc (.cells #[.int .i64 c1, .slice a1 len1 cap1] 58)) = w1 at *
      refine (szMatrix_yes c0 a0 len0 cap0 1048576 w1 (by omega) (by omega)).mono ?_
      rintro e w2 ⟨rfl, b2⟩
      have S2 := Lib.hid (S1.out.up b2)
      have d0 := S2.out.boxB.c0
      have d1 := S2.out.boxB.c1
      clear b2 S1
      go_wp2_with fail
      refine (szMatrix_no c1 a1 len1 cap1 _ w2 hlt1 (by omega) hm1).mono ?_
      rintro e w3 ⟨rfl, b3⟩
      have S3 := Lib.hid (S2.out.up b3)
      clear b3 S2 d0 d1
      go_wp2_with fail
      go_ret
      exact ⟨rfl, S3.out.bel⟩
  · have hlt : (1048576 : Int) < (len0 : Int) := by omega
    go_enter Tryd.func14, Tryd.ntmps14
    go_wp2_with fail
    generalize ((w.alloc (.cells #[.int .i64 c0, .slice a0 len0 cap0] 58)).alloc (.cells #[.int .i64 c1, .slice a1 len1 cap1] 58)) = w1 at *
    refine (szMatrix_no c0 a0 len0 cap0 1048576 w1 hlt (by omega) hm).mono ?_
    rintro e w2 ⟨rfl, b2⟩
    have S2 := Lib.hid (S1.out.up b2)
    clear b2 S1
    go_wp2_with fail
    go_ret
    exact ⟨rfl, S2.out.bel⟩
end Go.Proofs.YtdojblmffmefgaaDoor
