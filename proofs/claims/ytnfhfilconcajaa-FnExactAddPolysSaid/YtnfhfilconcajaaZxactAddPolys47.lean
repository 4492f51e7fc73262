/-
  Joined: LFnExactAddPolys.
-/
import Derived.Test.YtnfhfilconcajaaZxactAddPolys46
import Derived.Test.YtnfhfilconcajaaZxactAddPolys32
section
namespace Go.Proofs.Ytnfhfilconcajaa.Pl
open Go.RowKit
set_option linter.unusedVariables false
set_option maxRecDepth 100000

set_option maxHeartbeats 4000000 in
theorem walk_FnExactAddPolys (c0 : Int) (a0 : Option Addr) (m cap0 : Nat) (X : Nat → List Int) (c1 : Int) (a1 : Option Addr) (n cap1 : Nat) (Y : Nat → List Int) (w : World) (w0 : IsRows w a0 m cap0 X) (w1 : IsRows w a1 n cap1 Y) :
    Calls Try.prog 4 #[.agg #[.int .i64 c0, .slice a0 m cap0], .agg #[.int .i64 c1, .slice a1 n cap1]] w fun e w' => e = .returned (.bool true) ∧ Below w.heap.size w w' := by
  have ha : RdSS w (.slice a0 m cap0) m X := w0
  have hb : RdSS w (.slice a1 n cap1) n Y := w1
  clear w0 w1
  have t1 := Try.underlying24
  have t2 := Try.underlying27
  have S1 : Hid (Sq2 w c0 (.slice a0 m cap0) c1 (.slice a1 n cap1) ((w.alloc (.cells #[.int .i64 c0, .slice a0 m cap0] 24)).alloc (.cells #[.int .i64 c1, .slice a1 n cap1] 24))) := Lib.hid (Sq2.start _ _ _ _ _)
  have RA := Lib.hid ha
  have RB := Lib.hid hb
  clear ha hb
  by_cases hbig : m + tot X m ≤ 1048576
  · obtain ⟨l1, hl1⟩ : ∃ l1 : Nat, ((1048576 : Nat) : Int) - ((m + tot X m : Nat) : Int) = (l1 : Int) := ⟨1048576 - (m + tot X m), by omega⟩
    have SZ : Hid (∀ wx, Below w.heap.size w wx → Calls Try.prog 12 #[.agg #[.int .i64 c0, .slice a0 m cap0], .int .i64 1048576] wx fun e w' => e = .returned (.int .i64 (l1 : Int)) ∧ Below wx.heap.size wx w') := Lib.hid fun wx hx => by
      have := szPoly_yes c0 _ m X 1048576 wx (RA.out.below hx) (by omega) hbig
      rw [hl1] at this
      exact this
    have hge1 : ¬ (l1 : Int) < 0 := by omega
    by_cases hbig1 : n + tot Y n ≤ l1
    · have SZ1 : Hid (∀ wx, Below w.heap.size w wx → Calls Try.prog 12 #[.agg #[.int .i64 c1, .slice a1 n cap1], .int .i64 (l1 : Int)] wx fun e w' => e = .returned (.int .i64 ((l1 : Int) - ((n + tot Y n : Nat) : Int))) ∧ Below wx.heap.size wx w') := Lib.hid fun wx hx =>
        szPoly_yes c1 _ n Y l1 wx (RB.out.below hx) (by omega) hbig1
      have hge : ¬ (l1 : Int) - ((n + tot Y n : Nat) : Int) < 0 := by omega
      have HX : Hid (∀ i, i < m → (X i).length ≤ 1048576) := Lib.hid (fun i hi => by have := tot_one X i m hi; omega)
      have HY : Hid (∀ i, i < n → (Y i).length ≤ 1048576) := Lib.hid (fun i hi => by have := tot_one Y i n hi; omega)
      have hm : m ≤ 1048576 := by omega
      have hn : n ≤ 1048576 := by omega
      obtain ⟨C, L, cd, hL, hL20, SP, IM⟩ := AddPolys_both c0 m X c1 n Y
      have OX : Hid (off 1 (fun i => (X i).length) m ≤ 1152921504606846976) := Lib.hid (by rw [off_any]; omega)
      have OX0 : 0 ≤ off 1 (fun i => (X i).length) m := by rw [off_any]; omega
      have OY : Hid (off (off 1 (fun i => (X i).length) m) (fun i => (Y i).length) n ≤ 1152921504606846976) := Lib.hid (by rw [off_any, off_any]; omega)
      have OY0 : ¬ off (off 1 (fun i => (X i).length) m) (fun i => (Y i).length) n < 0 := by rw [off_any, off_any]; omega
      have OL : Hid (off 1 (fun i => (rowsOf L i).length) L.length ≤ 1152921504606846976) := Lib.hid (by rw [off_any]; have := tot_bound (rowsOf L) 20 L.length hL20; omega)
      have OL0 : ¬ off 1 (fun i => (rowsOf L i).length) L.length < 0 := by rw [off_any]; omega
      generalize (l1 : Int) - ((n + tot Y n : Nat) : Int) = lf at SZ1 hge
      have SP := Lib.hid SP
      have IM := Lib.hid IM
      obtain ⟨kx, hkx⟩ : ∃ kx, off 1 (fun i => (X i).length) m = kx := ⟨_, rfl⟩
      rw [hkx] at OY OY0 OX0
      obtain ⟨ky, hky⟩ : ∃ ky, off kx (fun i => (Y i).length) n = ky := ⟨_, rfl⟩
      rw [hky] at OY0
      obtain ⟨kl, hkl⟩ : ∃ kl, off 1 (fun i => (rowsOf L i).length) L.length = kl := ⟨_, rfl⟩
      rw [hkl] at OL0
      have HKX := Lib.hid hkx
      have HKY := Lib.hid hky
      have HKL := Lib.hid hkl
      clear hbig hbig1 hl1 hkx hky hkl hL hL20
      go_enter Try.func4, Try.ntmps4
      go_wp2_with fail
      generalize ((w.alloc (.cells #[.int .i64 c0, .slice a0 m cap0] 24)).alloc (.cells #[.int .i64 c1, .slice a1 n cap1] 24)) = w1 at *
      refine (SZ.out w1 S1.out.bel).mono ?_
      rintro e w2 ⟨rfl, b2⟩
      have S2 := Lib.hid (S1.out.up b2)
      have d0 := S2.out.boxB.c0
      have d0b := S2.out.boxB.c1
      clear b2 S1
      go_wp2_with fail
      refine (SZ1.out w2 S2.out.bel).mono ?_
      rintro e w3 ⟨rfl, b3⟩
      have S3 := Lib.hid (S2.out.up b3)
      clear b3 S2 d0 d0b
      go_upto_region 8 with fail
      go_cut [6, 7] (fun s6 s7 wx => MadeS w w3 cd C L s6 s7 wx)
      case first =>
        have KEEP : Hid (∀ wx, Below w3.heap.size w3 wx → (wx.cell? ⟨w.heap.size, 0, none⟩ = some (.int .i64 c0) ∧ wx.cell? ⟨w.heap.size, 1, none⟩ = some (.slice a0 m cap0) ∧ wx.cell? ⟨w.heap.size + 1, 0, none⟩ = some (.int .i64 c1) ∧ wx.cell? ⟨w.heap.size + 1, 1, none⟩ = some (.slice a1 n cap1) ∧ Below w3.heap.size w3 wx)) :=
          Lib.hid (fun wx hb => ⟨(S3.out.boxA.up hb).c0, (S3.out.boxA.up hb).c1, (S3.out.boxB.up hb).c0, (S3.out.boxB.up hb).c1, hb⟩)
        go_region_held3 (fun wx => wx.cell? ⟨w.heap.size, 0, none⟩ = some (.int .i64 c0) ∧ wx.cell? ⟨w.heap.size, 1, none⟩ = some (.slice a0 m cap0) ∧ wx.cell? ⟨w.heap.size + 1, 0, none⟩ = some (.int .i64 c1) ∧ wx.cell? ⟨w.heap.size + 1, 1, none⟩ = some (.slice a1 n cap1) ∧ Below w3.heap.size w3 wx)
          (first | exact KEEP.out _ (Below.refl _ _).drew | exact KEEP.out _ (by assumption) | (go_split_ands; exact KEEP.out _ (Below.step1 (by assumption) ((Below.refl _ _).alloc (Nat.le_refl _) _))) | exact KEEP.out _ (Below.setCell (Below.setCell zC zB.size _) zB.size _) | exact KEEP.out _ (Below.setCell (Below.setCell zC zA.size _) zA.size _) | exact KEEP.out _ (Below.setCell (Below.setCell zC (Nat.le_refl _) _) (Nat.le_refl _) _))
          (first
            | (go_at_call_of 14 (Value.agg #[Value.int IntKind.i64 c0, Value.slice a0 m cap0]); go_split_ands; refine (toPoly_any c0 _ m X _ hm HX.out (RA.out.below (Below.step1 S3.out.bel ?_))).mono ?_; assumption; rintro e wA ⟨uA, usA, rfl, fA, bA, _⟩; have rA := fun wx (hb : Below wA.heap.size wA wx) => fA.below hb; have zA := Below.step1 (by assumption) bA; (try have bx := Box.up (w := (w3.alloc (.cells #[.int .i64 0, .slice none 0 0] 27)).drew) (g := w3.heap.size) (Box.new w3 27 (.int .i64 0) (.slice none 0 0)) bA); (try have gx : w.heap.size ≤ w3.heap.size := S3.out.bel.size))
            | (go_at_call_of 14 (Value.agg #[Value.int IntKind.i64 c1, Value.slice a1 n cap1]); refine (toPoly_any c1 _ n Y _ hn HY.out (RB.out.below (Below.step1 S3.out.bel ?_))).mono ?_; (first | exact zA | exact Below.step1 zA ((Below.refl _ _).alloc (Nat.le_refl _) _)); rintro e wB ⟨uB, usB, rfl, fB, bB, _⟩; have qB : Below wA.heap.size wA wB := (by first | exact bB | exact Below.step1 ((Below.refl _ _).alloc (Nat.le_refl _) _) bB); have rB := fun wx (hb : Below wB.heap.size wB wx) => fB.below hb; have zB := Below.step1 zA qB; (try have bx2 := bx.up bB); (try have bx2 := Box.up (Box.new wA 27 (.int .i64 0) (.slice none 0 0)) bB); (try have gx2 : w.heap.size ≤ wA.heap.size := Nat.le_trans S3.out.bel.size zA.size))
            | (go_at_call 17; refine (SP.out uA uB usA usB _ _ _ (rA _ ?_) (rB _ ?_)).mono ?_; (first | exact qB | exact Below.step1 qB ((Below.refl _ _).alloc (Nat.le_refl _) _)); (first | exact Below.refl _ _ | exact (Below.refl _ _).alloc (Nat.le_refl _) _); rintro e wC ⟨vC, vsC, rfl, fC, sC, bC⟩; have qC : Below wB.heap.size wB wC := (by first | exact bC | exact Below.step1 ((Below.refl _ _).alloc (Nat.le_refl _) _) bC); have zC := Below.step1 zB qC; have pC := Fam.base (B' := w.heap.size) fC (Nat.le_trans (Nat.le_trans S3.out.bel.size zB.size) (by first | exact Nat.le_refl _ | simp)); (try have bx3 := bx2.up bC); (try have bx3 := Box.up (Box.new wB 27 (.int .i64 0) (.slice none 0 0)) bC); (try have gx3 : w.heap.size ≤ wB.heap.size := Nat.le_trans S3.out.bel.size zB.size); (try have y0 := bx3.c0); (try have y1 := bx3.c1); (try have y2 := bx3.fr 0); (try have y3 := bx3.fr 1); obtain ⟨vaC, vcC, rfl, _, _⟩ := fC.head))
        all_goals
          go_wp2_with fail
          go_meet
          first
            | exact ⟨_, _, _, _, rfl, rfl, Lib.hid (OwnF.start (Nat.le_trans S3.out.bel.size zC.size) pC sC), Lib.hid (Below.step1 zC ((Below.refl _ _).alloc (Nat.le_refl _) _))⟩
            | exact ⟨_, _, _, _, rfl, rfl, Lib.hid (OwnF.stored bx3 pC sC gx3), Lib.hid (Below.setCell (Below.setCell zC zB.size _) zB.size _)⟩
            | exact ⟨_, _, _, _, rfl, rfl, Lib.hid (OwnF.stored bx3 pC sC gx2), Lib.hid (Below.setCell (Below.setCell zC zA.size _) zA.size _)⟩
            | exact ⟨_, _, _, _, rfl, rfl, Lib.hid (OwnF.stored bx3 pC sC gx), Lib.hid (Below.setCell (Below.setCell zC (Nat.le_refl _) _) (Nat.le_refl _) _)⟩
      case rest =>
        obtain ⟨g4, va4, vc4, VS4, rfl, rfl, P4, B4⟩ := hcut
        have S4 := Lib.hid (S3.out.up B4.out)
        clear B4 S3
        have d0 := S4.out.boxA.c0
        have d0b := S4.out.boxA.c1
        go_wp2_with fail
        refine (toPoly_any c0 _ m X wc hm HX.out (RA.out.below S4.out.bel)).mono ?_
        rintro e w5 ⟨u5, us5, rfl, f5, b5, s5⟩
        obtain ⟨ua5, uc5, rfl, _, _⟩ := f5.head
        have S5 := Lib.hid (S4.out.up b5)
        have P5 := Lib.hid (P4.out.up b5)
        have N45 := Lib.hid (fam_apart P4.out.fam f5)
        have O5 := Lib.hid (f5.base S4.out.bel.size)
        have Q5 := Lib.hid s5
        clear b5 f5 s5 S4 P4 d0 d0b
        have e0 := (S5.out.alloc (.cells #[.int .i64 c0, .slice ua5 m uc5] 27)).boxB.c0
        have e0b := (S5.out.alloc (.cells #[.int .i64 c0, .slice ua5 m uc5] 27)).boxB.c1
        go_wp2_with fail
        have A6 : ∃ w6, w6 = w5.alloc (.cells #[.int .i64 c0, .slice ua5 m uc5] 27) := ⟨_, rfl⟩
        obtain ⟨w6, hw6⟩ := A6
        have S6 : Hid (Sq2 w c0 (.slice a0 m cap0) c1 (.slice a1 n cap1) w6) := Lib.hid (by rw [hw6]; exact S5.out.alloc _)
        have P6 : Hid (OwnF w g4 C (.slice va4 L.length vc4) L.length VS4 (rowsOf L) w6) := Lib.hid (by rw [hw6]; exact P5.out.alloc _)
        have X6 : Hid (OwnF w w5.heap.size c0 (.slice ua5 m uc5) m us5 X w6) := Lib.hid (by rw [hw6]; exact OwnF.start S5.out.bel.size O5.out Q5.out)
        rw [← hw6]
        clear hw6 S5 P5 O5 Q5 e0 e0b
        generalize w5.heap.size = g6 at *
        refine (toPoly_any c1 _ n Y w6 hn HY.out (RB.out.below S6.out.bel)).mono ?_
        rintro e w7 ⟨u7, us7, rfl, f7, b7, s7⟩
        obtain ⟨ua7, uc7, rfl, _, _⟩ := f7.head
        have S7 := Lib.hid (S6.out.up b7)
        have P7 := Lib.hid (P6.out.up b7)
        have X7 := Lib.hid (X6.out.up b7)
        have N47 := Lib.hid (fam_apart P6.out.fam f7)
        have N57 := Lib.hid (fam_apart X6.out.fam f7)
        have O7 := Lib.hid (f7.base S6.out.bel.size)
        have Q7 := Lib.hid s7
        clear b7 f7 s7 S6 P6 X6
        have e0 := (X7.out.alloc (.cells #[.int .i64 c1, .slice ua7 n uc7] 27)).box.c0
        have e0b := (X7.out.alloc (.cells #[.int .i64 c1, .slice ua7 n uc7] 27)).box.c1
        go_wp2_with fail
        have A8 : ∃ w8, w8 = w7.alloc (.cells #[.int .i64 c1, .slice ua7 n uc7] 27) := ⟨_, rfl⟩
        obtain ⟨w8, hw8⟩ := A8
        have S8 : Hid (Sq2 w c0 (.slice a0 m cap0) c1 (.slice a1 n cap1) w8) := Lib.hid (by rw [hw8]; exact S7.out.alloc _)
        have P8 : Hid (OwnF w g4 C (.slice va4 L.length vc4) L.length VS4 (rowsOf L) w8) := Lib.hid (by rw [hw8]; exact P7.out.alloc _)
        have X8 : Hid (OwnF w g6 c0 (.slice ua5 m uc5) m us5 X w8) := Lib.hid (by rw [hw8]; exact X7.out.alloc _)
        have Y8 : Hid (OwnF w w7.heap.size c1 (.slice ua7 n uc7) n us7 Y w8) := Lib.hid (by rw [hw8]; exact OwnF.start S7.out.bel.size O7.out Q7.out)
        rw [← hw8]
        clear hw8 S7 P7 X7 O7 Q7 e0 e0b
        generalize w7.heap.size = g8 at *
        refine (IM.out _ _ w8 X8.out.fam.rdss Y8.out.fam.rdss).mono ?_
        rintro e w9 ⟨v9, vs9, rfl, f9, s9, b9⟩
        obtain ⟨va9, vc9, rfl, _, _⟩ := f9.head
        have S9 := Lib.hid (S8.out.up b9)
        have P9 := Lib.hid (P8.out.up b9)
        have X9 := Lib.hid (X8.out.up b9)
        have Y9 := Lib.hid (Y8.out.up b9)
        have N49 := Lib.hid (fam_apart P8.out.fam f9)
        have N59 := Lib.hid (fam_apart X8.out.fam f9)
        have N79 := Lib.hid (fam_apart Y8.out.fam f9)
        have O9 := Lib.hid (f9.base S8.out.bel.size)
        have Q9 := Lib.hid s9
        clear b9 f9 s9 S8 P8 X8 Y8
        have e0 := (P9.out.alloc (.cells #[.int .i64 C, .slice va9 L.length vc9] 27)).box.c0
        have e0b := (P9.out.alloc (.cells #[.int .i64 C, .slice va9 L.length vc9] 27)).box.c1
        go_wp2_with fail
        have A10 : ∃ w10, w10 = w9.alloc (.cells #[.int .i64 C, .slice va9 L.length vc9] 27) := ⟨_, rfl⟩
        obtain ⟨w10, hw10⟩ := A10
        have S10 : Hid (Sq2 w c0 (.slice a0 m cap0) c1 (.slice a1 n cap1) w10) := Lib.hid (by rw [hw10]; exact S9.out.alloc _)
        have P10 : Hid (OwnF w g4 C (.slice va4 L.length vc4) L.length VS4 (rowsOf L) w10) := Lib.hid (by rw [hw10]; exact P9.out.alloc _)
        have X10 : Hid (OwnF w g6 c0 (.slice ua5 m uc5) m us5 X w10) := Lib.hid (by rw [hw10]; exact X9.out.alloc _)
        have Y10 : Hid (OwnF w g8 c1 (.slice ua7 n uc7) n us7 Y w10) := Lib.hid (by rw [hw10]; exact Y9.out.alloc _)
        have V10 : Hid (OwnF w w9.heap.size C (.slice va9 L.length vc9) L.length vs9 (rowsOf L) w10) := Lib.hid (by rw [hw10]; exact OwnF.start S9.out.bel.size O9.out Q9.out)
        rw [← hw10]
        clear hw10 S9 P9 X9 Y9 O9 Q9 e0 e0b
        generalize w9.heap.size = g10 at *
        refine (eqPoly_same C _ _ L.length _ _ _ _ (rowsOf L) w10 V10.out.fam P10.out.fam).mono ?_
        rintro e w11 ⟨rfl, b11⟩
        have S11 := Lib.hid (S10.out.up b11)
        have P11 := Lib.hid (P10.out.up b11)
        have X11 := Lib.hid (X10.out.up b11)
        have Y11 := Lib.hid (Y10.out.up b11)
        have V11 := Lib.hid (V10.out.up b11)
        clear b11 S10 P10 X10 Y10 V10
        have Rw11 := Lib.hid X11.out.fam
        have KEEP : Hid (∀ wx, Below w11.heap.size w11 wx → (wx.cell? ⟨g6, 0, none⟩ = some (.int .i64 c0) ∧ wx.cell? ⟨g6, 1, none⟩ = some (.slice ua5 m uc5) ∧ wx.cell? ⟨w.heap.size, 0, none⟩ = some (.int .i64 c0) ∧ wx.cell? ⟨w.heap.size, 1, none⟩ = some (.slice a0 m cap0) ∧ Below w11.heap.size w11 wx)) :=
          Lib.hid (fun wx hb => ⟨(X11.out.box.up hb).c0, (X11.out.box.up hb).c1, (S11.out.boxA.up hb).c0, (S11.out.boxA.up hb).c1, hb⟩)
        go_wp2_with fail
        go_region_held3 (fun wx => wx.cell? ⟨g6, 0, none⟩ = some (.int .i64 c0) ∧ wx.cell? ⟨g6, 1, none⟩ = some (.slice ua5 m uc5) ∧ wx.cell? ⟨w.heap.size, 0, none⟩ = some (.int .i64 c0) ∧ wx.cell? ⟨w.heap.size, 1, none⟩ = some (.slice a0 m cap0) ∧ Below w11.heap.size w11 wx)
          (first | exact KEEP.out _ (Below.refl _ _).drew | exact KEEP.out _ (by assumption))
          (first | (go_at_call 14; refine (toPoly_any c0 _ m X _ hm HX.out ((RA.out.below S11.out.bel).drewN 1)).mono ?_; rintro e wt ⟨ut, ust, rfl, ft, bt, _⟩; have qt := (Rw11.out.drewN 1).below bt; have zt := belD1 bt) | (go_at_call 16; refine (eqPoly_same c0 _ _ m _ _ _ _ X _ qt ft).mono ?_; rintro e w12 ⟨rfl, bu⟩; have Zu := zt.step1 bu))
        have S12 := Lib.hid (S11.out.up Zu)
        have P12 := Lib.hid (P11.out.up Zu)
        have X12 := Lib.hid (X11.out.up Zu)
        have Y12 := Lib.hid (Y11.out.up Zu)
        have V12 := Lib.hid (V11.out.up Zu)
        clear Zu zt bt bu qt ft S11 P11 X11 Y11 V11 Rw11 KEEP
        have Rw12 := Lib.hid Y12.out.fam
        have KEEP : Hid (∀ wx, Below w12.heap.size w12 wx → (wx.cell? ⟨g8, 0, none⟩ = some (.int .i64 c1) ∧ wx.cell? ⟨g8, 1, none⟩ = some (.slice ua7 n uc7) ∧ wx.cell? ⟨w.heap.size + 1, 0, none⟩ = some (.int .i64 c1) ∧ wx.cell? ⟨w.heap.size + 1, 1, none⟩ = some (.slice a1 n cap1) ∧ Below w12.heap.size w12 wx)) :=
          Lib.hid (fun wx hb => ⟨(Y12.out.box.up hb).c0, (Y12.out.box.up hb).c1, (S12.out.boxB.up hb).c0, (S12.out.boxB.up hb).c1, hb⟩)
        go_wp2_with fail
        go_region_held3 (fun wx => wx.cell? ⟨g8, 0, none⟩ = some (.int .i64 c1) ∧ wx.cell? ⟨g8, 1, none⟩ = some (.slice ua7 n uc7) ∧ wx.cell? ⟨w.heap.size + 1, 0, none⟩ = some (.int .i64 c1) ∧ wx.cell? ⟨w.heap.size + 1, 1, none⟩ = some (.slice a1 n cap1) ∧ Below w12.heap.size w12 wx)
          (first | exact KEEP.out _ (Below.refl _ _).drew | exact KEEP.out _ (by assumption))
          (first | (go_at_call 14; refine (toPoly_any c1 _ n Y _ hn HY.out ((RB.out.below S12.out.bel).drewN 1)).mono ?_; rintro e wt ⟨ut, ust, rfl, ft, bt, _⟩; have qt := (Rw12.out.drewN 1).below bt; have zt := belD1 bt) | (go_at_call 16; refine (eqPoly_same c1 _ _ n _ _ _ _ Y _ qt ft).mono ?_; rintro e w13 ⟨rfl, bu⟩; have Zu := zt.step1 bu))
        have S13 := Lib.hid (S12.out.up Zu)
        have P13 := Lib.hid (P12.out.up Zu)
        have X13 := Lib.hid (X12.out.up Zu)
        have Y13 := Lib.hid (Y12.out.up Zu)
        have V13 := Lib.hid (V12.out.up Zu)
        clear Zu zt bt bu qt ft S12 P12 X12 Y12 V12 Rw12 KEEP
        have e0 := X13.out.box.c0
        have e0b := X13.out.box.c1
        go_wp2_with fail
        refine (markPoly_from c0 1 (by omega) _ m w.heap.size us5 X w13 X13.out.fam X13.out.sep S13.out.bel.size OX.out).mono ?_
        rintro e w14 ⟨rfl, _, k14, r14⟩
        have S14 := Lib.hid (S13.out.rest X13.out r14 k14)
        have P14 := Lib.hid (P13.out.rest X13.out r14 N45.out)
        have Y14 := Lib.hid (Y13.out.rest X13.out r14 N57.out.symm)
        have V14 := Lib.hid (V13.out.rest X13.out r14 N59.out.symm)
        rw [HKX.out]
        clear S13 P13 X13 Y13 V13 k14 r14 e0 e0b
        have e0 := Y14.out.box.c0
        have e0b := Y14.out.box.c1
        go_wp2_with fail
        refine (markPoly_from c1 kx OX0 _ n w.heap.size us7 Y w14 Y14.out.fam Y14.out.sep S14.out.bel.size OY.out).mono ?_
        rintro e w15 ⟨rfl, _, k15, r15⟩
        have S15 := Lib.hid (S14.out.rest Y14.out r15 k15)
        have P15 := Lib.hid (P14.out.rest Y14.out r15 N47.out)
        have V15 := Lib.hid (V14.out.rest Y14.out r15 N79.out.symm)
        rw [HKY.out]
        clear S14 P14 Y14 V14 k15 r15 e0 e0b
        have d0 := P15.out.box.c0
        have d0b := P15.out.box.c1
        have e0 := V15.out.box.c0
        have e0b := V15.out.box.c1
        go_wp2_with fail
        refine (eqPoly_same C _ _ L.length _ _ _ _ (rowsOf L) w15 V15.out.fam P15.out.fam).mono ?_
        rintro e w16 ⟨rfl, b16⟩
        have S16 := Lib.hid (S15.out.up b16)
        have P16 := Lib.hid (P15.out.up b16)
        have V16 := Lib.hid (V15.out.up b16)
        clear b16 S15 P15 V15 d0 d0b e0 e0b
        have e0 := V16.out.box.c0
        have e0b := V16.out.box.c1
        go_wp2_with fail
        refine (markPoly_from C 1 (by omega) _ L.length w.heap.size vs9 (rowsOf L) w16 V16.out.fam V16.out.sep S16.out.bel.size OL.out).mono ?_
        rintro e w17 ⟨rfl, m17, k17, r17⟩
        have S17 := Lib.hid (S16.out.rest V16.out r17 k17)
        have P17 := Lib.hid (P16.out.rest V16.out r17 N49.out)
        have V17 := Lib.hid (V16.out.box.restK (B' := 0) (by decide) V16.out.fam r17)
        have W17 := Lib.hid m17
        rw [HKL.out]
        clear S16 P16 V16 m17 k17 r17 e0 e0b
        have e0 := V17.out.c0
        have e0b := V17.out.c1
        go_wp2_with fail
        refine (heldPoly_own C _ L.length w.heap.size vs9 (rowsOf L) w17 W17.out OL.out).mono ?_
        rintro e w18 ⟨rfl, b18⟩
        have S18 := Lib.hid (S17.out.up b18)
        have P18 := Lib.hid (P17.out.up b18)
        have V18 := Lib.hid (V17.out.up b18)
        have W18 := Lib.hid (W17.out.below b18)
        rw [HKL.out]
        clear S17 P17 V17 W17 b18 e0 e0b
        go_upto_region 31 with fail
        go_cut [15, 16] (fun s6 s7 wx => MadeS w w18 cd C L s6 s7 wx)
        case first =>
          have KEEP : Hid (∀ wx, Below w18.heap.size w18 wx → (wx.cell? ⟨w.heap.size, 0, none⟩ = some (.int .i64 c0) ∧ wx.cell? ⟨w.heap.size, 1, none⟩ = some (.slice a0 m cap0) ∧ wx.cell? ⟨w.heap.size + 1, 0, none⟩ = some (.int .i64 c1) ∧ wx.cell? ⟨w.heap.size + 1, 1, none⟩ = some (.slice a1 n cap1) ∧ Below w18.heap.size w18 wx)) :=
            Lib.hid (fun wx hb => ⟨(S18.out.boxA.up hb).c0, (S18.out.boxA.up hb).c1, (S18.out.boxB.up hb).c0, (S18.out.boxB.up hb).c1, hb⟩)
          go_region_held3 (fun wx => wx.cell? ⟨w.heap.size, 0, none⟩ = some (.int .i64 c0) ∧ wx.cell? ⟨w.heap.size, 1, none⟩ = some (.slice a0 m cap0) ∧ wx.cell? ⟨w.heap.size + 1, 0, none⟩ = some (.int .i64 c1) ∧ wx.cell? ⟨w.heap.size + 1, 1, none⟩ = some (.slice a1 n cap1) ∧ Below w18.heap.size w18 wx)
            (first | exact KEEP.out _ (Below.refl _ _).drew | exact KEEP.out _ (by assumption) | (go_split_ands; exact KEEP.out _ (Below.step1 (by assumption) ((Below.refl _ _).alloc (Nat.le_refl _) _))) | exact KEEP.out _ (Below.setCell (Below.setCell zC zB.size _) zB.size _) | exact KEEP.out _ (Below.setCell (Below.setCell zC zA.size _) zA.size _) | exact KEEP.out _ (Below.setCell (Below.setCell zC (Nat.le_refl _) _) (Nat.le_refl _) _))
            (first
              | (go_at_call_of 14 (Value.agg #[Value.int IntKind.i64 c0, Value.slice a0 m cap0]); go_split_ands; refine (toPoly_any c0 _ m X _ hm HX.out (RA.out.below (Below.step1 S18.out.bel ?_))).mono ?_; assumption; rintro e wA ⟨uA, usA, rfl, fA, bA, _⟩; have rA := fun wx (hb : Below wA.heap.size wA wx) => fA.below hb; have zA := Below.step1 (by assumption) bA; (try have bx := Box.up (w := (w18.alloc (.cells #[.int .i64 0, .slice none 0 0] 27)).drew) (g := w18.heap.size) (Box.new w18 27 (.int .i64 0) (.slice none 0 0)) bA); (try have gx : w.heap.size ≤ w18.heap.size := S18.out.bel.size))
              | (go_at_call_of 14 (Value.agg #[Value.int IntKind.i64 c1, Value.slice a1 n cap1]); refine (toPoly_any c1 _ n Y _ hn HY.out (RB.out.below (Below.step1 S18.out.bel ?_))).mono ?_; (first | exact zA | exact Below.step1 zA ((Below.refl _ _).alloc (Nat.le_refl _) _)); rintro e wB ⟨uB, usB, rfl, fB, bB, _⟩; have qB : Below wA.heap.size wA wB := (by first | exact bB | exact Below.step1 ((Below.refl _ _).alloc (Nat.le_refl _) _) bB); have rB := fun wx (hb : Below wB.heap.size wB wx) => fB.below hb; have zB := Below.step1 zA qB; (try have bx2 := bx.up bB); (try have bx2 := Box.up (Box.new wA 27 (.int .i64 0) (.slice none 0 0)) bB); (try have gx2 : w.heap.size ≤ wA.heap.size := Nat.le_trans S18.out.bel.size zA.size))
              | (go_at_call 18; refine (IM.out uA uB _ (rA _ ?_).rdss (rB _ ?_).rdss).mono ?_; (first | exact qB | exact Below.step1 qB ((Below.refl _ _).alloc (Nat.le_refl _) _)); (first | exact Below.refl _ _ | exact (Below.refl _ _).alloc (Nat.le_refl _) _); rintro e wC ⟨vC, vsC, rfl, fC, sC, bC⟩; have qC : Below wB.heap.size wB wC := (by first | exact bC | exact Below.step1 ((Below.refl _ _).alloc (Nat.le_refl _) _) bC); have zC := Below.step1 zB qC; have pC := Fam.base (B' := w.heap.size) fC (Nat.le_trans (Nat.le_trans S18.out.bel.size zB.size) (by first | exact Nat.le_refl _ | simp)); (try have bx3 := bx2.up bC); (try have bx3 := Box.up (Box.new wB 27 (.int .i64 0) (.slice none 0 0)) bC); (try have gx3 : w.heap.size ≤ wB.heap.size := Nat.le_trans S18.out.bel.size zB.size); (try have y0 := bx3.c0); (try have y1 := bx3.c1); (try have y2 := bx3.fr 0); (try have y3 := bx3.fr 1); obtain ⟨vaC, vcC, rfl, _, _⟩ := fC.head))
          all_goals
            go_wp2_with fail
            go_meet
            first
              | exact ⟨_, _, _, _, rfl, rfl, Lib.hid (OwnF.start (Nat.le_trans S18.out.bel.size zC.size) pC sC), Lib.hid (Below.step1 zC ((Below.refl _ _).alloc (Nat.le_refl _) _))⟩
              | exact ⟨_, _, _, _, rfl, rfl, Lib.hid (OwnF.stored bx3 pC sC gx3), Lib.hid (Below.setCell (Below.setCell zC zB.size _) zB.size _)⟩
              | exact ⟨_, _, _, _, rfl, rfl, Lib.hid (OwnF.stored bx3 pC sC gx2), Lib.hid (Below.setCell (Below.setCell zC zA.size _) zA.size _)⟩
              | exact ⟨_, _, _, _, rfl, rfl, Lib.hid (OwnF.stored bx3 pC sC gx), Lib.hid (Below.setCell (Below.setCell zC (Nat.le_refl _) _) (Nat.le_refl _) _)⟩
        case rest =>
          obtain ⟨g19, va19, vc19, VS19, rfl, rfl, Q19, B19⟩ := hcut
          have S19 := Lib.hid (S18.out.up B19.out)
          have P19 := Lib.hid (P18.out.up B19.out)
          have V19 := Lib.hid (V18.out.up B19.out)
          have W19 := Lib.hid (W18.out.below B19.out)
          clear B19 S18 P18 V18 W18
          have d0 := P19.out.box.c0
          have d0b := P19.out.box.c1
          have e0 := Q19.out.box.c0
          have e0b := Q19.out.box.c1
          go_wp2_with fail
          refine (eqPoly_same C _ _ L.length _ _ _ _ (rowsOf L) wc Q19.out.fam P19.out.fam).mono ?_
          rintro e w20 ⟨rfl, b20⟩
          have S20 := Lib.hid (S19.out.up b20)
          have V20 := Lib.hid (V19.out.up b20)
          have W20 := Lib.hid (W19.out.below b20)
          clear b20 S19 P19 V19 W19 Q19 d0 d0b e0 e0b
          have e0 := V20.out.c0
          have e0b := V20.out.c1
          go_wp2_with fail
          refine (heldPoly_own C _ L.length w.heap.size vs9 (rowsOf L) w20 W20.out OL.out).mono ?_
          rintro e w21 ⟨rfl, b21⟩
          have B21 := Lib.hid (S20.out.bel.step1 b21)
          rw [HKL.out]
          go_wp2_with fail
          go_ret
          exact ⟨rfl, B21.out⟩
    · have SZ1 : Hid (∀ wx, Below w.heap.size w wx → Calls Try.prog 12 #[.agg #[.int .i64 c1, .slice a1 n cap1], .int .i64 (l1 : Int)] wx fun e w' => e = .returned (.int .i64 (-1)) ∧ Below wx.heap.size wx w') := Lib.hid fun wx hx =>
        szPoly_over c1 _ n Y l1 wx (RB.out.below hx) (by omega) (by omega)
      clear hbig hbig1 hl1
      go_enter Try.func4, Try.ntmps4
      go_wp2_with fail
      generalize ((w.alloc (.cells #[.int .i64 c0, .slice a0 m cap0] 24)).alloc (.cells #[.int .i64 c1, .slice a1 n cap1] 24)) = w1 at *
      refine (SZ.out w1 S1.out.bel).mono ?_
      rintro e w2 ⟨rfl, b2⟩
      have S2 := Lib.hid (S1.out.up b2)
      have d0 := S2.out.boxB.c0
      have d0b := S2.out.boxB.c1
      clear b2 S1
      go_wp2_with fail
      refine (SZ1.out w2 S2.out.bel).mono ?_
      rintro e w3 ⟨rfl, b3⟩
      have S3 := Lib.hid (S2.out.up b3)
      clear b3 S2 d0 d0b
      go_wp2_with fail
      go_ret
      exact ⟨rfl, S3.out.bel⟩
  · have SZ : Hid (∀ wx, Below w.heap.size w wx → Calls Try.prog 12 #[.agg #[.int .i64 c0, .slice a0 m cap0], .int .i64 1048576] wx fun e w' => e = .returned (.int .i64 (-1)) ∧ Below wx.heap.size wx w') := Lib.hid fun wx hx =>
      szPoly_over c0 _ m X 1048576 wx (RA.out.below hx) (by omega) (by omega)
    clear hbig
    go_enter Try.func4, Try.ntmps4
    go_wp2_with fail
    generalize ((w.alloc (.cells #[.int .i64 c0, .slice a0 m cap0] 24)).alloc (.cells #[.int .i64 c1, .slice a1 n cap1] 24)) = w1 at *
    refine (SZ.out w1 S1.out.bel).mono ?_
    rintro e w2 ⟨rfl, b2⟩
    have S2 := Lib.hid (S1.out.up b2)
    clear b2 S1
    go_wp2_with fail
    go_ret
    exact ⟨rfl, S2.out.bel⟩
end Go.Proofs.Ytnfhfilconcajaa.Pl
end
