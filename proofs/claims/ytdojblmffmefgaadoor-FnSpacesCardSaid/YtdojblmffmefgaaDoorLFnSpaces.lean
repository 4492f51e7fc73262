/-
  The walk of laws.FnSpaces.
-/
import Derived.Test.YtdojblmffmefgaaDoorDSpc
import Derived.Test.YtdojblmffmefgaaDoorDSame
import Derived.Test.YtdojblmffmefgaaDoorDDrawC
import Derived.Test.YtdojblmffmefgaaDoorMLaw2
namespace Go.Proofs.YtdojblmffmefgaaDoor
open Go.RowKit
set_option linter.unusedVariables false
set_option maxRecDepth 100000

/-- The two matrices in their boxes. -/
structure SA (w0 : World) (gA gB : Nat) (ca : Int) (sa : Value) (na : Nat) (Ga : Nat → Int) (cb : Int) (sb : Value) (nb : Nat) (Gb : Nat → Int) (w : World) : Prop where
  bel : Below w0.heap.size w0 w
  a : Box w gA 26 (.int .i64 ca) sa
  b : Box w gB 26 (.int .i64 cb) sb
  ra : RdI w sa na Ga
  rb : RdI w sb nb Gb
theorem SA.up {w0 w w' : World} {gA gB : Nat} {ca : Int} {sa : Value} {na : Nat} {Ga : Nat → Int} {cb : Int} {sb : Value} {nb : Nat} {Gb : Nat → Int} (h : SA w0 gA gB ca sa na Ga cb sb nb Gb w) (k : Below w.heap.size w w') : SA w0 gA gB ca sa na Ga cb sb nb Gb w' :=
  ⟨h.bel.trans (k.mono h.bel.size), h.a.up k, h.b.up k, h.ra.below k, h.rb.below k⟩

set_option maxHeartbeats 4000000 in
theorem walk_FnSpaces (a0 : Option Addr) (len0 cap0 : Nat) (z0 : List Int) (w : World) (w0 : IsRow .u8 w a0 len0 cap0 z0) (hT : T0 w) :
    Calls Tryd.prog 5 #[.slice a0 len0 cap0] w fun e w' => e = .returned (.bool true) ∧ Below w.heap.size w w' := by
  obtain ⟨hc, hM⟩ := w0.code
  clear w0
  have HT := Lib.hid hT
  clear hT
  have t2 := Tryd.underlying26
  by_cases hm : len0 ≤ 4096
  · have DR := Lib.hid (DrawSum_any a0 len0 cap0 w hc hm)
    clear hc
    go_enter Tryd.func5, Tryd.ntmps5
    go_wp2_with fail
    refine (big_no a0 len0 cap0 w hm).mono ?_
    rintro e wx ⟨rfl, hwx⟩
    obtain rfl : w = wx := hwx.symm
    go_wp2_with fail
    refine DR.out.mono ?_
    rintro e w1 ⟨ca, L1, u1, cb, L2, u2, rfl, hl1, hl2, o1, o2, b1⟩
    obtain ⟨v1, q1, rfl⟩ := o1.shape
    obtain ⟨v2, q2, rfl⟩ := o2.shape
    have r1 := rd_of_own o1 rfl
    have r2 := rd_of_own o2 rfl
    clear o1 o2 DR
    generalize (fun i : Nat => L1[i]?.getD 0) = Ga at r1
    generalize (fun i : Nat => L2[i]?.getD 0) = Gb at r2
    generalize L1.length = na at *
    generalize L2.length = nb at *
    have W2 : ∃ w2, w2 = ((w1.alloc (.cells #[.int .i64 ca, .slice v1 na q1] 26)).alloc (.cells #[.int .i64 cb, .slice v2 nb q2] 26)) := ⟨_, rfl⟩
    obtain ⟨w2, hw2⟩ := W2
    have S2 : Hid (SA w w1.heap.size (w1.heap.size + 1) ca (.slice v1 na q1) na Ga cb (.slice v2 nb q2) nb Gb w2) := Lib.hid (by
      have b2 : Below w1.heap.size w1 w2 := by rw [hw2]; exact ((Below.refl _ _).alloc (Nat.le_refl _) _).alloc (by simp) _
      refine ⟨b1.trans (b2.mono b1.size), ?_, ?_, r1.below b2, r2.below b2⟩
      · rw [hw2]; exact (Box.new w1 _ _ _).alloc _
      · rw [hw2]; have := Box.new (w1.alloc (.cells #[.int .i64 ca, .slice v1 na q1] 26)) 26 (.int .i64 cb) (.slice v2 nb q2); simpa using this)
    clear r1 r2 b1
    obtain ⟨CS, LS, CM, LM, LC, cd, SP⟩ := spc_all ca na Ga cb nb Gb
    have hls := SP.ls
    have hlm := SP.lm
    have hlc := SP.lc
    have SP := Lib.hid SP
    go_wp2_with fail
    rw [← hw2]
    clear hw2
    generalize w1.heap.size + 1 = gB at *
    generalize w1.heap.size = gA at *
    refine (SP.out.iS w2 _ _ S2.out.ra S2.out.rb (HT.out.below S2.out.bel)).mono ?_
    rintro e w3 ⟨u, rfl, o3, b3⟩
    obtain ⟨va5, vc5, rfl⟩ := o3.shape
    have O3 := Lib.hid (own_base o3 S2.out.bel.size)
    clear o3
    have S3 := Lib.hid (S2.out.up b3)
    clear b3 S2
    have A4 : ∃ w4, w4 = w3.alloc (.cells #[.int .i64 CS, .slice va5 LS.length vc5] 26) := ⟨_, rfl⟩
    obtain ⟨w4, hw4⟩ := A4
    have S4 : Hid (SA w gA gB ca (.slice v1 na q1) na Ga cb (.slice v2 nb q2) nb Gb w4) := Lib.hid (by rw [hw4]; exact S3.out.up ((Below.refl _ _).alloc (Nat.le_refl _) _))
    have P4 : Hid (OwnB w w3.heap.size CS (.slice va5 LS.length vc5) LS w4) := Lib.hid (by rw [hw4]; exact OwnB.start S3.out.bel.size O3.out)
    have d0 := (S3.out.up ((Below.refl _ _).alloc (Nat.le_refl _) (.cells #[.int .i64 CS, .slice va5 LS.length vc5] 26))).a.c0
    have d1 := (S3.out.up ((Below.refl _ _).alloc (Nat.le_refl _) (.cells #[.int .i64 CS, .slice va5 LS.length vc5] 26))).a.c1
    have d2 := (S3.out.up ((Below.refl _ _).alloc (Nat.le_refl _) (.cells #[.int .i64 CS, .slice va5 LS.length vc5] 26))).b.c0
    have d3 := (S3.out.up ((Below.refl _ _).alloc (Nat.le_refl _) (.cells #[.int .i64 CS, .slice va5 LS.length vc5] 26))).b.c1
    go_wp2_with fail
    rw [← hw4]
    clear hw4 d0 d1 d2 d3 O3 S3 
    generalize w3.heap.size = g5 at *
    refine (SP.out.sS w4 _ _ S4.out.ra S4.out.rb).mono ?_
    rintro e w5 ⟨u, rfl, o5, b5⟩
    obtain ⟨va7, vc7, rfl⟩ := o5.shape
    have O5 := Lib.hid (own_base o5 S4.out.bel.size)
    clear o5
    have S5 := Lib.hid (S4.out.up b5)
    have P5 := Lib.hid (P4.out.up b5)
    clear b5 S4 P4
    have A6 : ∃ w6, w6 = w5.alloc (.cells #[.int .i64 CS, .slice va7 LS.length vc7] 26) := ⟨_, rfl⟩
    obtain ⟨w6, hw6⟩ := A6
    have S6 : Hid (SA w gA gB ca (.slice v1 na q1) na Ga cb (.slice v2 nb q2) nb Gb w6) := Lib.hid (by rw [hw6]; exact S5.out.up ((Below.refl _ _).alloc (Nat.le_refl _) _))
    have Q6 : Hid (OwnB w w5.heap.size CS (.slice va7 LS.length vc7) LS w6) := Lib.hid (by rw [hw6]; exact OwnB.start S5.out.bel.size O5.out)
    have P6 : Hid (OwnB w g5 CS (.slice va5 LS.length vc5) LS w6) := Lib.hid (by rw [hw6]; exact P5.out.alloc _)
    have d0 := (S5.out.up ((Below.refl _ _).alloc (Nat.le_refl _) (.cells #[.int .i64 CS, .slice va7 LS.length vc7] 26))).a.c0
    have d1 := (S5.out.up ((Below.refl _ _).alloc (Nat.le_refl _) (.cells #[.int .i64 CS, .slice va7 LS.length vc7] 26))).a.c1
    have d2 := (S5.out.up ((Below.refl _ _).alloc (Nat.le_refl _) (.cells #[.int .i64 CS, .slice va7 LS.length vc7] 26))).b.c0
    have d3 := (S5.out.up ((Below.refl _ _).alloc (Nat.le_refl _) (.cells #[.int .i64 CS, .slice va7 LS.length vc7] 26))).b.c1
    have f0 := (P5.out.alloc (.cells #[.int .i64 CS, .slice va7 LS.length vc7] 26)).box.c0
    have h0 := (P5.out.alloc (.cells #[.int .i64 CS, .slice va7 LS.length vc7] 26)).box.c1
    go_wp2_with fail
    rw [← hw6]
    clear hw6 d0 d1 d2 d3 O5 S5 P5 f0 h0
    generalize w5.heap.size = g7 at *
    refine (matrix9_same CS _ _ LS.length _ w6 P6.out.rd Q6.out.rd).mono ?_
    rintro e w7 ⟨rfl, b7⟩
    have S7 := Lib.hid (S6.out.up b7)
    have P7 := Lib.hid (P6.out.up b7)
    clear b7 S6 P6
    clear Q6
    have a0 := S7.out.a.c0
    have a1 := S7.out.a.c1
    have b0 := S7.out.b.c0
    have b1 := S7.out.b.c1
    go_wp2_with fail
    clear a0 a1 b0 b1
    refine (SP.out.iM w7 _ _ S7.out.ra S7.out.rb (HT.out.below S7.out.bel)).mono ?_
    rintro e w8 ⟨u, rfl, o8, b8⟩
    obtain ⟨va9, vc9, rfl⟩ := o8.shape
    have O8 := Lib.hid (own_base o8 S7.out.bel.size)
    clear o8
    have S8 := Lib.hid (S7.out.up b8)
    have P8 := Lib.hid (P7.out.up b8)
    clear b8 S7 P7
    have A9 : ∃ w9, w9 = w8.alloc (.cells #[.int .i64 CM, .slice va9 LM.length vc9] 26) := ⟨_, rfl⟩
    obtain ⟨w9, hw9⟩ := A9
    have S9 : Hid (SA w gA gB ca (.slice v1 na q1) na Ga cb (.slice v2 nb q2) nb Gb w9) := Lib.hid (by rw [hw9]; exact S8.out.up ((Below.refl _ _).alloc (Nat.le_refl _) _))
    have M9 : Hid (OwnB w w8.heap.size CM (.slice va9 LM.length vc9) LM w9) := Lib.hid (by rw [hw9]; exact OwnB.start S8.out.bel.size O8.out)
    have P9 : Hid (OwnB w g5 CS (.slice va5 LS.length vc5) LS w9) := Lib.hid (by rw [hw9]; exact P8.out.alloc _)
    have d0 := (S8.out.up ((Below.refl _ _).alloc (Nat.le_refl _) (.cells #[.int .i64 CM, .slice va9 LM.length vc9] 26))).a.c0
    have d1 := (S8.out.up ((Below.refl _ _).alloc (Nat.le_refl _) (.cells #[.int .i64 CM, .slice va9 LM.length vc9] 26))).a.c1
    have d2 := (S8.out.up ((Below.refl _ _).alloc (Nat.le_refl _) (.cells #[.int .i64 CM, .slice va9 LM.length vc9] 26))).b.c0
    have d3 := (S8.out.up ((Below.refl _ _).alloc (Nat.le_refl _) (.cells #[.int .i64 CM, .slice va9 LM.length vc9] 26))).b.c1
    have f0 := (P8.out.alloc (.cells #[.int .i64 CM, .slice va9 LM.length vc9] 26)).box.c0
    have h0 := (P8.out.alloc (.cells #[.int .i64 CM, .slice va9 LM.length vc9] 26)).box.c1
    go_wp2_with fail
    rw [← hw9]
    clear hw9 d0 d1 d2 d3 O8 S8 P8 f0 h0
    generalize w8.heap.size = g9 at *
    refine (SP.out.sM w9 _ _ S9.out.ra S9.out.rb).mono ?_
    rintro e w10 ⟨u, rfl, o10, b10⟩
    obtain ⟨va11, vc11, rfl⟩ := o10.shape
    have O10 := Lib.hid (own_base o10 S9.out.bel.size)
    clear o10
    have S10 := Lib.hid (S9.out.up b10)
    have P10 := Lib.hid (P9.out.up b10)
    have M10 := Lib.hid (M9.out.up b10)
    clear b10 S9 P9 M9
    have A11 : ∃ w11, w11 = w10.alloc (.cells #[.int .i64 CM, .slice va11 LM.length vc11] 26) := ⟨_, rfl⟩
    obtain ⟨w11, hw11⟩ := A11
    have S11 : Hid (SA w gA gB ca (.slice v1 na q1) na Ga cb (.slice v2 nb q2) nb Gb w11) := Lib.hid (by rw [hw11]; exact S10.out.up ((Below.refl _ _).alloc (Nat.le_refl _) _))
    have Q11 : Hid (OwnB w w10.heap.size CM (.slice va11 LM.length vc11) LM w11) := Lib.hid (by rw [hw11]; exact OwnB.start S10.out.bel.size O10.out)
    have P11 : Hid (OwnB w g5 CS (.slice va5 LS.length vc5) LS w11) := Lib.hid (by rw [hw11]; exact P10.out.alloc _)
    have M11 : Hid (OwnB w g9 CM (.slice va9 LM.length vc9) LM w11) := Lib.hid (by rw [hw11]; exact M10.out.alloc _)
    have d0 := (S10.out.up ((Below.refl _ _).alloc (Nat.le_refl _) (.cells #[.int .i64 CM, .slice va11 LM.length vc11] 26))).a.c0
    have d1 := (S10.out.up ((Below.refl _ _).alloc (Nat.le_refl _) (.cells #[.int .i64 CM, .slice va11 LM.length vc11] 26))).a.c1
    have d2 := (S10.out.up ((Below.refl _ _).alloc (Nat.le_refl _) (.cells #[.int .i64 CM, .slice va11 LM.length vc11] 26))).b.c0
    have d3 := (S10.out.up ((Below.refl _ _).alloc (Nat.le_refl _) (.cells #[.int .i64 CM, .slice va11 LM.length vc11] 26))).b.c1
    have f0 := (P10.out.alloc (.cells #[.int .i64 CM, .slice va11 LM.length vc11] 26)).box.c0
    have h0 := (P10.out.alloc (.cells #[.int .i64 CM, .slice va11 LM.length vc11] 26)).box.c1
    have f1 := (M10.out.alloc (.cells #[.int .i64 CM, .slice va11 LM.length vc11] 26)).box.c0
    have h1 := (M10.out.alloc (.cells #[.int .i64 CM, .slice va11 LM.length vc11] 26)).box.c1
    go_wp2_with fail
    rw [← hw11]
    clear hw11 d0 d1 d2 d3 O10 S10 P10 M10 f0 h0 f1 h1
    generalize w10.heap.size = g11 at *
    refine (matrix9_same CM _ _ LM.length _ w11 M11.out.rd Q11.out.rd).mono ?_
    rintro e w12 ⟨rfl, b12⟩
    have S12 := Lib.hid (S11.out.up b12)
    have P12 := Lib.hid (P11.out.up b12)
    have M12 := Lib.hid (M11.out.up b12)
    clear b12 S11 P11 M11
    clear Q11
    have a0 := S12.out.a.c0
    have a1 := S12.out.a.c1
    have b0 := S12.out.b.c0
    have b1 := S12.out.b.c1
    go_wp2_with fail
    clear a0 a1 b0 b1
    refine (SP.out.iC w12 _ _ S12.out.ra S12.out.rb (HT.out.below S12.out.bel)).mono ?_
    rintro e w13 ⟨u, rfl, o13, b13⟩
    obtain ⟨va13, vc13, rfl⟩ := o13.shape
    have R13 := Lib.hid (own_base o13 S12.out.bel.size)
    clear o13
    have S13 := Lib.hid (S12.out.up b13)
    have P13 := Lib.hid (P12.out.up b13)
    have M13 := Lib.hid (M12.out.up b13)
    clear b13 S12 P12 M12
    have a0 := S13.out.a.c0
    have a1 := S13.out.a.c1
    have b0 := S13.out.b.c0
    have b1 := S13.out.b.c1
    go_wp2_with fail
    clear a0 a1 b0 b1
    refine (SP.out.sC w13 _ _ S13.out.ra S13.out.rb).mono ?_
    rintro e w14 ⟨u, rfl, o14, b14⟩
    obtain ⟨va15, vc15, rfl⟩ := o14.shape
    have R14 := Lib.hid (own_below R13.out b14)
    clear R13
    have S14 := Lib.hid (S13.out.up b14)
    have P14 := Lib.hid (P13.out.up b14)
    have M14 := Lib.hid (M13.out.up b14)
    clear b14 S13 P13 M13
    go_wp2_with fail
    refine (likeInts_same _ _ LC.length _ w14 (rd_of_own R14.out rfl) (rd_of_own o14 rfl)).mono ?_
    rintro e w15' ⟨rfl, q15, rfl⟩
    have b15 : Below w14.heap.size w14 (w14.drewN q15) := below_drewN (Below.refl _ _) q15
    clear R14 o14
    have S15 := Lib.hid (S14.out.up b15)
    have P15 := Lib.hid (P14.out.up b15)
    have M15 := Lib.hid (M14.out.up b15)
    clear b15 S14 P14 M14
    generalize w14.drewN q15 = w15 at *
    by_cases hcd : cd = 0
    · obtain ⟨x, y, RX, RY, exy, exc, HA, HB⟩ := SP.out.yes hcd
      subst hcd
      have RX := Lib.hid RX
      have RY := Lib.hid RY
      have HA := Lib.hid HA
      have HB := Lib.hid HB
      clear SP
      have hx : x ≤ 400 := by omega
      have hy : y ≤ 400 := by omega
      have EXY : Hid ((x : Int) + (y : Int) = (LS.length : Int) + (LM.length : Int)) := Lib.hid (by omega)
      have EXC : Hid ((x : Int) + (LC.length : Int) = (LS.length : Int)) := Lib.hid (by omega)
      clear exy exc
      have a0 := S15.out.a.c0
      have a1 := S15.out.a.c1
      go_wp2_with fail
      refine (RX.out w15 _ S15.out.ra (HT.out.below S15.out.bel)).mono ?_
      rintro e w16 ⟨rfl, b16⟩
      clear a0 a1
      have S16 := Lib.hid (S15.out.up b16)
      have P16 := Lib.hid (P15.out.up b16)
      have M16 := Lib.hid (M15.out.up b16)
      clear b16 S15 P15 M15
      have a0 := S16.out.b.c0
      have a1 := S16.out.b.c1
      go_wp2_with fail
      refine (RY.out w16 _ S16.out.rb (HT.out.below S16.out.bel)).mono ?_
      rintro e w17 ⟨rfl, b17⟩
      clear a0 a1
      have S17 := Lib.hid (S16.out.up b17)
      have P17 := Lib.hid (P16.out.up b17)
      have M17 := Lib.hid (M16.out.up b17)
      clear b17 S16 P16 M16
      go_wp2_with fail
      go_loopw [21, 22, 23, 24, 25] (fun t _ _ _ _ wr => ∃ i : Nat, t = .int .i64 i ∧ i ≤ LM.length ∧ Hid (SA w gA gB ca (.slice v1 na q1) na Ga cb (.slice v2 nb q2) nb Gb wr) ∧ Hid (OwnB w g5 CS (.slice va5 LS.length vc5) LS wr) ∧ Hid (OwnB w g9 CM (.slice va9 LM.length vc9) LM wr)) (fun t _ _ _ _ _ => LM.length - (intOf t).toNat)
      case atStart => exact ⟨0, rfl, Nat.zero_le _, S17, P17, M17⟩
      case round =>
        clear S17 P17 M17
        obtain ⟨i, rfl, hi, S, P, M⟩ := hrel
        have m1 := M.out.box.c1
        by_cases hlt : i < LM.length
        · have hlt' : (i : Int) < (LM.length : Int) := by omega
          have HAi := Lib.hid (HA.out i hlt)
          have HBi := Lib.hid (HB.out i hlt)
          obtain ⟨_, _, e, _, hc⟩ := M.out.rd
          cases e
          obtain ⟨bm, om, rfl, hc2⟩ := hc.resolve_left (by omega)
          have c1 : wr.cell? ⟨bm, om + i, none⟩ = some (.int .i64 (LM[i]?.getD 0)) := hc2 i hlt
          clear hc hc2
          have CI := Lib.hid (fun wx (hb : Below wr.heap.size wr wx) => (hb.cell (p := ⟨bm, om + i, none⟩) (World.block_lt_of_cell? wr _ c1)).trans c1)
          generalize LM[i]?.getD 0 = z at *
          have KEEP : Hid (∀ wx, Below wr.heap.size wr wx → (wx.cell? ⟨gA, 0, none⟩ = some (.int .i64 ca) ∧ wx.cell? ⟨gA, 1, none⟩ = some (.slice v1 na q1) ∧ wx.cell? ⟨g9, 1, none⟩ = some (.slice (some ⟨bm, om, none⟩) LM.length vc9) ∧ wx.cell? ⟨bm, om + i, none⟩ = some (.int .i64 z) ∧ Below wr.heap.size wr wx)) :=
            Lib.hid (fun wx hb => ⟨(S.out.a.up hb).c0, (S.out.a.up hb).c1, (M.out.box.up hb).c1, CI.out wx hb, hb⟩)
          clear c1
          go_wp2_with fail
          go_region_held3 (fun wx => wx.cell? ⟨gA, 0, none⟩ = some (.int .i64 ca) ∧ wx.cell? ⟨gA, 1, none⟩ = some (.slice v1 na q1) ∧ wx.cell? ⟨g9, 1, none⟩ = some (.slice (some ⟨bm, om, none⟩) LM.length vc9) ∧ wx.cell? ⟨bm, om + i, none⟩ = some (.int .i64 z) ∧ Below wr.heap.size wr wx)
            (first | exact KEEP.out _ (Below.refl _ _).drew | exact KEEP.out _ (by assumption))
            (first | (go_at_call 38; refine (HAi.out _ _ (S.out.ra.below (Below.refl _ _).drew) (HT.out.below (S.out.bel.drew))).mono ?_; rintro e wa ⟨rfl, ba⟩; have za := below_drew1 ba))
          have Sa := Lib.hid (S.out.up za)
          have Pa := Lib.hid (P.out.up za)
          have Ma := Lib.hid (M.out.up za)
          have KEEP2 : Hid (∀ wx, Below wa.heap.size wa wx → (wx.cell? ⟨gB, 0, none⟩ = some (.int .i64 cb) ∧ wx.cell? ⟨gB, 1, none⟩ = some (.slice v2 nb q2) ∧ wx.cell? ⟨g9, 1, none⟩ = some (.slice (some ⟨bm, om, none⟩) LM.length vc9) ∧ wx.cell? ⟨bm, om + i, none⟩ = some (.int .i64 z) ∧ Below wa.heap.size wa wx)) :=
            Lib.hid (fun wx hb => ⟨(Sa.out.b.up hb).c0, (Sa.out.b.up hb).c1, (Ma.out.box.up hb).c1, CI.out wx (za.trans (hb.mono za.size)), hb⟩)
          clear KEEP m1 S P M
          go_wp2_with fail
          go_region_held3 (fun wx => wx.cell? ⟨gB, 0, none⟩ = some (.int .i64 cb) ∧ wx.cell? ⟨gB, 1, none⟩ = some (.slice v2 nb q2) ∧ wx.cell? ⟨g9, 1, none⟩ = some (.slice (some ⟨bm, om, none⟩) LM.length vc9) ∧ wx.cell? ⟨bm, om + i, none⟩ = some (.int .i64 z) ∧ Below wa.heap.size wa wx)
            (first | exact KEEP2.out _ (Below.refl _ _).drew | exact KEEP2.out _ (by assumption))
            (first | (go_at_call 38; refine (HBi.out _ _ (Sa.out.rb.below (Below.refl _ _).drew) (HT.out.below (Sa.out.bel.drew))).mono ?_; rintro e wb ⟨rfl, bb⟩; have zb := below_drew1 bb))
          have Sb := Lib.hid (Sa.out.up zb)
          have Pb := Lib.hid (Pa.out.up zb)
          have Mb := Lib.hid (Ma.out.up zb)
          clear KEEP2 Sa Pa Ma za zb ba bb CI HAi HBi
          go_wp2_with fail
          go_roundw
          case rel => exact ⟨i + 1, by go_num, by omega, Sb, Pb, Mb⟩
          case measure => simp [intOf]; omega
        · obtain rfl : i = LM.length := by omega
          have p1 := P.out.box.c1
          have E1 : (((x : Int) + (y : Int)) == ((LS.length : Int) + (LM.length : Int))) = true := by rw [EXY.out]; simp
          have E2 : (((x : Int) + (LC.length : Int)) == (LS.length : Int)) = true := by rw [EXC.out]; simp
          have B := Lib.hid S.out.bel
          go_wp2_with fail
          go_ret
          exact ⟨rfl, B.out⟩
    · have hcd' : (cd != 0) = true := by rw [bne_iff_ne]; exact hcd
      go_wp2_with fail
      go_ret
      exact ⟨rfl, S15.out.bel⟩
  · go_enter Tryd.func5, Tryd.ntmps5
    go_wp2_with fail
    refine (big_yes a0 len0 cap0 w (by omega) hM).mono ?_
    rintro e wx ⟨rfl, hwx⟩
    obtain rfl : w = wx := hwx.symm
    go_wp2_with fail
    go_ret
    exact ⟨rfl, Below.refl _ _⟩
end Go.Proofs.YtdojblmffmefgaaDoor
