/-
  The walk of laws.FnExactMatrixOfLists.
-/
import Derived.Test.YtdojblmffmefgaaMListsI
import Derived.Test.YtdojblmffmefgaaWMarkSS
namespace Go.Proofs.Ytdojblmffmefgaa
open Go.RowKit
set_option linter.unusedVariables false

set_option maxHeartbeats 1000000 in
theorem walk_FnExactMatrixOfLists (c0 : Int) (a0 : Option Addr) (m cap0 : Nat) (z0 : Nat → List Int) (w : World) (wc0 : (Lit.int .i64 c0).wf = true) (w0 : IsRows w a0 m cap0 z0) :
    Calls Try.prog 4 #[.int .i64 c0, .slice a0 m cap0] w fun e w' => e = .returned (.bool true) ∧ Below w.heap.size w w' := by
  have hr : RdSS w (.slice a0 m cap0) m z0 := w0
  clear w0 wc0
  have t2 := Try.underlying27
  by_cases hbig : m + tot z0 m ≤ 1048576
  · obtain ⟨C, L, cd, hL, SP, IM⟩ := MatrixOfLists_both c0 m z0
    have SP := Lib.hid SP
    have IM := Lib.hid IM
    have R := Lib.hid hr
    have HX : Hid (∀ i, i < m → (z0 i).length ≤ 1048576) := Lib.hid (fun i hi => by have := tot_one z0 i m hi; omega)
    have hm : m ≤ 1048576 := by omega
    have OT := Lib.hid (off_tot z0 m)
    have OL : Hid (off 1 (fun i => (z0 i).length) m ≤ 1152921504606846976) := Lib.hid (by rw [OT.out]; omega)
    have SZ := Lib.hid (szSS_any _ m z0 1048576 w hr (by omega) hbig)
    have hge : ¬ ((1048576 : Nat) : Int) - ((m + tot z0 m : Nat) : Int) < 0 := by omega
    generalize ((1048576 : Nat) : Int) - ((m + tot z0 m : Nat) : Int) = lf at SZ hge
    have hof : ¬ off 1 (fun i => (z0 i).length) m < 0 := by rw [OT.out]; omega
    have hk2 : ¬ (1 : Int) + (L.length : Int) < 0 := by omega
    clear hr hbig
    go_enter Try.func4, Try.ntmps4
    go_wp2_with fail
    refine SZ.out.mono ?_
    rintro e w' ⟨rfl, rfl⟩
    go_wp2_with fail
    refine (toSS_any _ m z0 _ hm HX.out R.out).mono ?_
    rintro e w1 ⟨U1, US1, rfl, f1, b1, _⟩
    have R1 := Lib.hid f1.rdss
    have B1 := Lib.hid b1
    clear f1 b1
    go_wp2_with fail
    refine (SP.out _ _ R1.out).mono ?_
    rintro e w2 ⟨v2, rfl, o2, b2⟩
    obtain ⟨va2, vc2, rfl⟩ := o2.shape
    have B2 := Lib.hid (B1.out.trans (b2.mono B1.out.size))
    have O2 := Lib.hid (own_base o2 B1.out.size)
    clear o2 b2 R1 B1
    go_wp2_with fail
    have A3 : ∃ w3, w3 = w2.alloc (.cells #[.int .i64 C, .slice va2 L.length vc2] 27) := ⟨_, rfl⟩
    obtain ⟨w3, hw3⟩ := A3
    have B3 : Hid (Below w.heap.size w w3) := Lib.hid (by rw [hw3]; exact B2.out.alloc B2.out.size _)
    have P3 : Hid (OwnB w w2.heap.size C (.slice va2 L.length vc2) L w3) := Lib.hid (by rw [hw3]; exact OwnB.start B2.out.size O2.out)
    rw [← hw3]
    clear hw3 O2 B2
    generalize w2.heap.size = g2 at *
    refine (toSS_any _ m z0 w3 hm HX.out (R.out.below B3.out)).mono ?_
    rintro e w4 ⟨U4, US4, rfl, f4, b4, s4⟩
    have S4 := Lib.hid s4
    have N4 : Hid (∀ i, i < m → (US4 i).ownBlock = none ∨ (US4 i).ownBlock ≠ (Value.slice va2 L.length vc2).ownBlock) := Lib.hid (fun i hi => apart_symm (own_apart P3.out.own (own_base (B := w3.heap.size) (f4.inn i hi) (Nat.le_refl _))))
    have HB3 := Lib.hid B3.out.size
    have P4 := Lib.hid (P3.out.up b4)
    have B4 := Lib.hid (B3.out.trans (b4.mono B3.out.size))
    have F4 := Lib.hid f4
    clear f4 b4 s4 P3 B3
    generalize w3.heap.size = n3 at *
    go_wp2_with fail
    refine (IM.out w4 _ F4.out.rdss).mono ?_
    rintro e w5 ⟨v5, rfl, o5, b5⟩
    obtain ⟨va5, vc5, rfl⟩ := o5.shape
    have N5 : Hid (∀ i, i < m → (US4 i).ownBlock = none ∨ (US4 i).ownBlock ≠ (Value.slice va5 L.length vc5).ownBlock) := Lib.hid (fun i hi => own_apart (F4.out.inn i hi) o5)
    have N25 := Lib.hid (own_apart P4.out.own o5)
    have P5 := Lib.hid (P4.out.up b5)
    have F5 := Lib.hid (F4.out.below b5)
    have B5 := Lib.hid (B4.out.trans (b5.mono B4.out.size))
    have O5 := Lib.hid (own_base o5 B4.out.size)
    clear o5 b5 P4 F4 B4
    have d0 := (P5.out.alloc (.cells #[.int .i64 C, .slice va5 L.length vc5] 27)).box.c0
    have d1 := (P5.out.alloc (.cells #[.int .i64 C, .slice va5 L.length vc5] 27)).box.c1
    go_wp2_with fail
    have A6 : ∃ w6, w6 = w5.alloc (.cells #[.int .i64 C, .slice va5 L.length vc5] 27) := ⟨_, rfl⟩
    obtain ⟨w6, hw6⟩ := A6
    have a6 : Below w5.heap.size w5 w6 := by rw [hw6]; exact (Below.refl _ _).alloc (Nat.le_refl _) _
    have P6 := Lib.hid (P5.out.up a6)
    have F6 := Lib.hid (F5.out.below a6)
    have B6 := Lib.hid (B5.out.trans (a6.mono B5.out.size))
    have Q6 : Hid (OwnB w w5.heap.size C (.slice va5 L.length vc5) L w6) := Lib.hid (by rw [hw6]; exact OwnB.start B5.out.size O5.out)
    rw [← hw6]
    clear hw6 a6 d0 d1 O5 P5 F5 B5
    generalize w5.heap.size = g5 at *
    refine (eqMatrix_same C _ _ L.length _ w6 Q6.out.rd P6.out.rd).mono ?_
    rintro e w7 ⟨rfl, b7⟩
    have P7 := Lib.hid (P6.out.up b7)
    have Q7 := Lib.hid (Q6.out.up b7)
    have F7 := Lib.hid (F6.out.below b7)
    have B7 := Lib.hid (B6.out.trans (b7.mono B6.out.size))
    clear b7 P6 Q6 F6 B6
    go_wp2_with fail
    refine (toSS_any _ m z0 w7 hm HX.out (R.out.below B7.out)).mono ?_
    rintro e w8 ⟨U8, US8, rfl, f8, b8, _⟩
    have P8 := Lib.hid (P7.out.up b8)
    have Q8 := Lib.hid (Q7.out.up b8)
    have F8 := Lib.hid (F7.out.below b8)
    have B8 := Lib.hid (B7.out.trans (b8.mono B7.out.size))
    have G8 := Lib.hid f8
    clear b8 f8 P7 Q7 F7 B7
    go_wp2_with fail
    refine (eqInt64SS_same _ U8 m _ _ US4 US8 z0 w8 F8.out G8.out).mono ?_
    rintro e w9 ⟨rfl, q, rfl⟩
    have b9 : Below w8.heap.size w8 (w8.drewN q) := below_drewN (Below.refl _ _) q
    have P9 := Lib.hid (P8.out.up b9)
    have Q9 := Lib.hid (Q8.out.up b9)
    have F9 := Lib.hid (F8.out.drewN q)
    have B9 := Lib.hid (B8.out.trans (b9.mono B8.out.size))
    clear b9 P8 Q8 F8 B8 G8
    generalize w8.drewN q = w9 at *
    go_wp2_with fail
    refine (markSS_rest _ m n3 US4 z0 w9 F9.out S4.out OL.out).mono ?_
    rintro e w10 ⟨rfl, f10, b10, r10⟩
    have P10 := Lib.hid (P9.out.rest r10 F9.out.inn N4.out)
    have Q10 := Lib.hid (Q9.out.rest r10 F9.out.inn N5.out)
    have B10 := Lib.hid (B9.out.trans (b10.mono HB3.out))
    clear f10 b10 r10 P9 Q9 F9 B9 S4 N4 N5
    have d0 := P10.out.box.c0
    have d1 := P10.out.box.c1
    have e0 := Q10.out.box.c0
    have e1 := Q10.out.box.c1
    generalize off 1 (fun i => (z0 i).length) m = ofm at *
    go_wp2_with fail
    refine (eqMatrix_same C _ _ L.length _ w10 Q10.out.rd P10.out.rd).mono ?_
    rintro e w11 ⟨rfl, b11⟩
    have P11 := Lib.hid (P10.out.up b11)
    have Q11 := Lib.hid (Q10.out.up b11)
    have B11 := Lib.hid (B10.out.trans (b11.mono B10.out.size))
    clear b11 P10 Q10 B10 d0 d1 e0 e1
    have e0 := Q11.out.box.c0
    have e1 := Q11.out.box.c1
    go_wp2_with fail
    refine (markMatrix_own C _ L.length _ 1 w.heap.size _ (by omega) (by omega) (by omega) Q11.out.own').mono ?_
    rintro e w12 ⟨rfl, o12, k12⟩
    have P12 := Lib.hid (P11.out.kept k12 N25.out Q11.out.own)
    have V12 := Lib.hid (Q11.out.box.keptM k12 Q11.out.own)
    have B12 := Lib.hid (B11.out.grown k12 B11.out.size (fun q hq => (Q11.out.own.lt q hq).1))
    have W12 := Lib.hid o12
    clear o12 k12 P11 Q11 B11 e0 e1
    have e0 := V12.out.c0
    have e1 := V12.out.c1
    go_wp2_with fail
    refine (heldMatrix_own C _ L.length 1 w.heap.size _ (by omega) (by omega) (by omega) W12.out).mono ?_
    rintro e w13 ⟨rfl, b13⟩
    have P13 := Lib.hid (P12.out.up b13)
    have V13 := Lib.hid (V12.out.up b13)
    have W13 := Lib.hid (own_below W12.out b13)
    have B13 := Lib.hid (B12.out.trans (b13.mono B12.out.size))
    clear b13 P12 V12 W12 B12 e0 e1
    go_wp2_with fail
    refine (toSS_any _ m z0 w13 hm HX.out (R.out.below B13.out)).mono ?_
    rintro e w14 ⟨U14, US14, rfl, f14, b14, _⟩
    have P14 := Lib.hid (P13.out.up b14)
    have V14 := Lib.hid (V13.out.up b14)
    have W14 := Lib.hid (own_below W13.out b14)
    have B14 := Lib.hid (B13.out.trans (b14.mono B13.out.size))
    have R14 := Lib.hid f14.rdss
    clear f14 b14 P13 V13 W13 B13
    go_wp2_with fail
    refine (IM.out w14 _ R14.out).mono ?_
    rintro e w15 ⟨v15, rfl, o15, b15⟩
    obtain ⟨va15, vc15, rfl⟩ := o15.shape
    have P15 := Lib.hid (P14.out.up b15)
    have V15 := Lib.hid (V14.out.up b15)
    have W15 := Lib.hid (own_below W14.out b15)
    have B15 := Lib.hid (B14.out.trans (b15.mono B14.out.size))
    have R15 := Lib.hid (rd_of_own o15 rfl)
    clear o15 b15 P14 V14 W14 B14 R14
    have d0 := (P15.out.alloc (.cells #[.int .i64 C, .slice va15 L.length vc15] 27)).box.c0
    have d1 := (P15.out.alloc (.cells #[.int .i64 C, .slice va15 L.length vc15] 27)).box.c1
    go_wp2_with fail
    have A16 : ∃ w16, w16 = w15.alloc (.cells #[.int .i64 C, .slice va15 L.length vc15] 27) := ⟨_, rfl⟩
    obtain ⟨w16, hw16⟩ := A16
    have a16 : Below w15.heap.size w15 w16 := by rw [hw16]; exact (Below.refl _ _).alloc (Nat.le_refl _) _
    rw [← hw16]
    have P16 := Lib.hid (P15.out.up a16)
    have V16 := Lib.hid (V15.out.up a16)
    have W16 := Lib.hid (own_below W15.out a16)
    have B16 := Lib.hid (B15.out.trans (a16.mono B15.out.size))
    have R16 := Lib.hid (R15.out.below a16)
    clear hw16 a16 P15 V15 W15 B15 R15 d0 d1
    refine (eqMatrix_same C _ _ L.length _ w16 R16.out P16.out.rd).mono ?_
    rintro e w17 ⟨rfl, b17⟩
    have V17 := Lib.hid (V16.out.up b17)
    have W17 := Lib.hid (own_below W16.out b17)
    have B17 := Lib.hid (B16.out.trans (b17.mono B16.out.size))
    clear b17 P16 V16 W16 R16 B16
    have e0 := V17.out.c0
    have e1 := V17.out.c1
    go_wp2_with fail
    refine (heldMatrix_own C _ L.length 1 w.heap.size _ (by omega) (by omega) (by omega) W17.out).mono ?_
    rintro e w18 ⟨rfl, b18⟩
    have B18 := Lib.hid (B17.out.trans (b18.mono B17.out.size))
    go_wp2_with fail
    go_ret
    exact ⟨rfl, B18.out⟩
  · have SZ := Lib.hid (szSS_over _ m z0 1048576 w hr (by omega) (by omega))
    clear hr
    go_enter Try.func4, Try.ntmps4
    go_wp2_with fail
    refine SZ.out.mono ?_
    rintro e w1 ⟨rfl, rfl⟩
    go_wp2_with fail
    go_ret
    exact ⟨rfl, Below.refl _ _⟩
end Go.Proofs.Ytdojblmffmefgaa
