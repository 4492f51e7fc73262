/-
  The walk of laws.FnExactListsOfMatrix.
-/
import Derived.Test.YtdojblmffmefgaaMListsOf
import Derived.Test.YtdojblmffmefgaaWMarkSS
namespace Go.Proofs.Ytdojblmffmefgaa
open Go.RowKit
set_option linter.unusedVariables false

theorem tot_bound (X : Nat → List Int) (m c : Nat) (h : ∀ i, i < m → (X i).length ≤ c) : tot X m ≤ c * m := by
  induction m with
  | zero => exact Nat.zero_le _
  | succ m ih =>
    have h1 := ih (fun i hi => h i (by omega))
    have h2 := h m (by omega)
    rw [tot, Nat.mul_succ]
    omega

/-- Marking a row of another owner leaves a family. -/
theorem Fam.keptM {w w' : World} {B B' n m : Nat} {V v : Value} {VS : Nat → Value} {Y : Nat → List Int} {xs : List Value} (h : Fam w B V m VS Y) (k : w.grownBy w' v.ownBlock) (o : w.ownsRow B' 2 1 v n xs)
    (ap : ∀ i, i < m → (VS i).ownBlock = none ∨ (VS i).ownBlock ≠ v.ownBlock) : Fam w' B V m VS Y :=
  ⟨h.out.kept k (own_types h.out o (by decide)), fun i hi => (h.inn i hi).kept k (ap i hi)⟩

/-- Marking what was made later leaves the argument. -/
theorem StA.lowK {w0 w w' : World} {c : Int} {a : Option Addr} {n cap B : Nat} {G : Nat → Int} (h : StA w0 c a n cap G w) (k : Below B w w') (hB : w0.heap.size < B) : StA w0 c a n cap G w' := by
  refine ⟨h.bel.trans (k.mono (by omega)), h.box.below k hB, ?_, h.low⟩
  obtain ⟨a', cap', e, hm, hc⟩ := h.rd
  cases e
  refine ⟨_, _, rfl, hm, ?_⟩
  rcases hc with h0 | ⟨b, off, rfl, hc⟩
  · exact .inl h0
  · by_cases hn0 : n = 0
    · exact .inl hn0
    · refine .inr ⟨b, off, rfl, fun i hi => ?_⟩
      have hl : b < w0.heap.size := h.low _ rfl hn0
      have hc' := hc i hi
      have hblk : w'.heap[b]? = w.heap[b]? := k.block b (by omega)
      unfold World.cell? at hc' ⊢
      rw [hblk]; exact hc'

set_option maxHeartbeats 1000000 in
theorem walk_FnExactListsOfMatrix (c0 : Int) (a0 : Option Addr) (len0 cap0 : Nat) (z0 : List Int) (w : World) (w0 : IsRow .i64 w a0 len0 cap0 z0) :
    Calls Try.prog 5 #[.agg #[.int .i64 c0, .slice a0 len0 cap0]] w fun e w' => e = .returned (.bool true) ∧ Below w.heap.size w w' := by
  have hr := w0.rd
  clear w0
  generalize (fun i => z0.getD i 0) = G at hr
  have hm : len0 ≤ maxLen := by obtain ⟨_, _, e, hm, _⟩ := hr; cases e; exact hm
  have t1 := Try.underlying24
  have t2 := Try.underlying27
  by_cases hbig : len0 ≤ 1048576
  · have hge : ¬ (1048576 : Int) - (len0 : Int) < 0 := by omega
    obtain ⟨m, Y, cd, hm2, hY, SP, IM⟩ := ListsOfMatrix_both c0 len0 G
    have SP := Lib.hid SP
    have IM := Lib.hid IM
    have OT := off_tot Y m
    have TB := tot_bound Y m 60 hY
    have OL : Hid (off 1 (fun i => (Y i).length) m ≤ 1152921504606846976) := Lib.hid (by rw [OT]; omega)
    have hof : ¬ off 1 (fun i => (Y i).length) m < 0 := by rw [OT]; omega
    clear OT TB hY
    have S1 : Hid (StA w c0 a0 len0 cap0 G (w.alloc (.cells #[.int .i64 c0, .slice a0 len0 cap0] 24))) := Lib.hid (StA.start hr)
    clear hr
    go_enter Try.func5, Try.ntmps5
    go_wp2_with fail
    generalize (w.alloc (.cells #[.int .i64 c0, .slice a0 len0 cap0] 24)) = w1 at *
    refine (szMatrix_yes c0 a0 len0 cap0 1048576 w1 (by omega) (by omega)).mono ?_
    rintro e w2 ⟨rfl, b2⟩
    have S2 := Lib.hid (S1.out.up b2)
    have d0 := S2.out.box.c0
    have d1 := S2.out.box.c1
    clear b2 S1
    go_wp2_with fail
    refine (toMatrix_any c0 _ len0 G w2 (by omega) S2.out.rd).mono ?_
    rintro e w3 ⟨u3, rfl, o3, b3⟩
    have S3 := Lib.hid (S2.out.up b3)
    clear S2 d0 d1
    go_wp2_with fail
    refine (SP.out w3 u3 ((rd_of_own o3 (cpy_length G len0 len0).symm).congr (cpy_get G len0))).mono ?_
    rintro e w4 ⟨U4, US4, rfl, f4⟩
    have S4 := Lib.hid (S3.out.up f4.bel)
    have F4 := Lib.hid f4.fam
    clear o3 b3 f4 S3
    generalize w3.heap.size = n3 at *
    have d0 := S4.out.box.c0
    have d1 := S4.out.box.c1
    go_wp2_with fail
    refine (toMatrix_any c0 _ len0 G w4 (by omega) S4.out.rd).mono ?_
    rintro e w5 ⟨u5, rfl, o5, b5⟩
    obtain ⟨ua6, uc6, rfl⟩ := o5.shape
    have S5 := Lib.hid (S4.out.up b5)
    have F5 := Lib.hid (F4.out.below b5)
    have O5 := Lib.hid (own_base o5 S4.out.bel.size)
    have N5 : Hid (∀ i, i < m → (US4 i).ownBlock = none ∨ (US4 i).ownBlock ≠ (Value.slice ua6 len0 uc6).ownBlock) := Lib.hid (fun i hi => own_apart (F4.out.inn i hi) o5)
    clear b5 o5 S4 F4 d0 d1
    go_wp2_with fail
    have A6 : ∃ w6, w6 = w5.alloc (.cells #[.int .i64 c0, .slice ua6 len0 uc6] 27) := ⟨_, rfl⟩
    obtain ⟨w6, hw6⟩ := A6
    have S6 : Hid (StA w c0 a0 len0 cap0 G w6) := Lib.hid (by rw [hw6]; exact S5.out.alloc _)
    have F6 : Hid (Fam w6 n3 U4 m US4 Y) := Lib.hid (by rw [hw6]; exact F5.out.below ((Below.refl _ _).alloc (Nat.le_refl _) _))
    have Q6 : Hid (OwnB w w5.heap.size c0 (.slice ua6 len0 uc6) (cpy G len0 len0) w6) := Lib.hid (by rw [hw6]; exact OwnB.start' S5.out.bel.size O5.out (cpy_length ..))
    rw [← hw6]
    clear hw6 S5 F5 O5
    generalize w5.heap.size = g6 at *
    have R6 := Lib.hid (Q6.out.rdc)
    have LB := Lib.hid S6.out.box.lt
    have LU := Lib.hid (fun g hg => (F6.out.out.lt g hg).2)
    have LS := Lib.hid (fun i (hi : i < m) g hg => ((F6.out.inn i hi).lt g hg).2)
    refine (IM.out w6 _ R6.out).mono ?_
    rintro e w7 ⟨U7, US7, rfl, f7⟩
    have b7 := f7.bel
    have S7 := Lib.hid (S6.out.up b7)
    have F7 := Lib.hid (F6.out.below b7)
    have Q7 := Lib.hid (Q6.out.up b7)
    have G7 := Lib.hid f7.fam
    have SG := Lib.hid f7.sep
    have NQ : Hid (∀ i, i < m → (US7 i).ownBlock = none ∨ (US7 i).ownBlock ≠ (Value.slice ua6 len0 uc6).ownBlock) := Lib.hid (fun i hi => apart_symm (own_apart Q6.out.own (f7.fam.inn i hi)))
    clear b7 f7 S6 F6 Q6 R6
    generalize w6.heap.size = nB at *
    go_wp2_with fail
    refine (eqInt64SS_same U7 U4 m _ _ US7 US4 Y w7 G7.out F7.out).mono ?_
    rintro e w8 ⟨rfl, q8, rfl⟩
    have b8 : Below w7.heap.size w7 (w7.drewN q8) := below_drewN (Below.refl _ _) q8
    have S10 := Lib.hid (S7.out.up b8)
    have F10 := Lib.hid (F7.out.below b8)
    have Q10 := Lib.hid (Q7.out.up b8)
    have G10 := Lib.hid (G7.out.below b8)
    clear b8 S7 F7 Q7 G7
    generalize w7.drewN q8 = w10 at *
    have R10 := Lib.hid Q10.out.rdc
    have KEEP : Hid (∀ wx, Below w10.heap.size w10 wx → (wx.cell? ⟨g6, 0, none⟩ = some (.int .i64 c0) ∧ wx.cell? ⟨g6, 1, none⟩ = some (.slice ua6 len0 uc6) ∧ wx.cell? ⟨w.heap.size, 0, none⟩ = some (.int .i64 c0) ∧ wx.cell? ⟨w.heap.size, 1, none⟩ = some (.slice a0 len0 cap0) ∧ Below w10.heap.size w10 wx)) :=
      Lib.hid (fun wx hb => ⟨(Q10.out.box.up hb).c0, (Q10.out.box.up hb).c1, (S10.out.box.up hb).c0, (S10.out.box.up hb).c1, hb⟩)
    go_wp2_with fail
    go_region_held3 (fun wx => wx.cell? ⟨g6, 0, none⟩ = some (.int .i64 c0) ∧ wx.cell? ⟨g6, 1, none⟩ = some (.slice ua6 len0 uc6) ∧ wx.cell? ⟨w.heap.size, 0, none⟩ = some (.int .i64 c0) ∧ wx.cell? ⟨w.heap.size, 1, none⟩ = some (.slice a0 len0 cap0) ∧ Below w10.heap.size w10 wx)
      (first | exact KEEP.out _ (Below.refl _ _).drew | exact KEEP.out _ (by assumption))
      (first | (go_at_call 11; refine (toMatrix_any c0 _ len0 G _ (by omega) (S10.out.rd.drewN 1)).mono ?_; rintro e w11 ⟨u11, rfl, o11, b11⟩; have r11 := (rd_of_own o11 (cpy_length G len0 len0).symm).congr (cpy_get G len0); have q11 := (R10.out.drewN 1).below b11; have z11 := below_drew1 b11) | (go_at_call 13; refine (eqMatrix_same c0 _ _ len0 G _ ?_ ?_).mono ?_; assumption; assumption; rintro e w12 ⟨rfl, b12⟩; have Z12 := z11.trans (b12.mono z11.size)))
    have S12 := Lib.hid (S10.out.up Z12)
    have F12 := Lib.hid (F10.out.below Z12)
    have Q12 := Lib.hid (Q10.out.up Z12)
    have G12 := Lib.hid (G10.out.below Z12)
    clear Z12 z11 b11 b12 r11 q11 o11 S10 F10 Q10 G10 R10 KEEP
    have e0 := Q12.out.box.c0
    have e1 := Q12.out.box.c1
    go_wp2_with fail
    refine (markMatrix_own c0 _ len0 _ 1 w.heap.size _ (by omega) (by omega) (by omega) Q12.out.own').mono ?_
    rintro e w13 ⟨rfl, o13, k13⟩
    have S13 := Lib.hid (S12.out.kept k13 Q12.out.own)
    have F13 := Lib.hid (F12.out.keptM k13 Q12.out.own N5.out)
    have G13 := Lib.hid (G12.out.keptM k13 Q12.out.own NQ.out)
    clear S12 F12 Q12 G12 o13 k13 e0 e1 N5 NQ
    have hk1 : ¬ (1 : Int) + (len0 : Int) < 0 := by omega
    go_wp2_with fail
    refine (eqInt64SS_same U7 U4 m _ _ US7 US4 Y w13 G13.out F13.out).mono ?_
    rintro e w14 ⟨rfl, q14, rfl⟩
    have b14 : Below w13.heap.size w13 (w13.drewN q14) := below_drewN (Below.refl _ _) q14
    have S14 := Lib.hid (S13.out.up b14)
    have F14 := Lib.hid (F13.out.below b14)
    have G14 := Lib.hid (G13.out.below b14)
    clear b14 S13 F13 G13 hk1
    generalize w13.drewN q14 = w14 at *
    go_wp2_with fail
    refine (markInt64SS_own U7 m nB US7 Y w14 G14.out SG.out OL.out).mono ?_
    rintro e w15 ⟨rfl, f15, b15⟩
    have S15 := Lib.hid (S14.out.lowK b15 LB.out)
    have F15 := Lib.hid (F14.out.lowC LU.out LS.out b15)
    have G15 := Lib.hid f15
    clear f15 b15 S14 F14 G14 SG LB LU LS
    go_wp2_with fail
    refine (heldInt64SS_own U7 m nB US7 Y w15 G15.out OL.out).mono ?_
    rintro e w16 ⟨rfl, rfl⟩
    have d0 := S15.out.box.c0
    have d1 := S15.out.box.c1
    have HO : Hid (off 1 (fun i => (Y i).length) m = off 1 (fun i => (Y i).length) m) := Lib.hid rfl
    generalize hom : off 1 (fun i => (Y i).length) m = om at hof ⊢
    have HOM := Lib.hid hom
    clear hom
    go_wp2_with fail
    refine (toMatrix_any c0 _ len0 G w15 (by omega) S15.out.rd).mono ?_
    rintro e w17 ⟨u17, rfl, o17, b17⟩
    have S17 := Lib.hid (S15.out.up b17)
    have F17 := Lib.hid (F15.out.below b17)
    have G17 := Lib.hid (G15.out.below b17)
    have R17 := Lib.hid ((rd_of_own o17 (cpy_length G len0 len0).symm).congr (cpy_get G len0))
    clear S15 F15 G15 b17 o17 d0 d1
    go_wp2_with fail
    refine (IM.out w17 _ R17.out).mono ?_
    rintro e w18 ⟨U18, US18, rfl, f18⟩
    have b18 := f18.bel
    have S18 := Lib.hid (S17.out.up b18)
    have F18 := Lib.hid (F17.out.below b18)
    have G18 := Lib.hid (G17.out.below b18)
    have K18 := Lib.hid f18.fam
    clear S17 F17 G17 b18 f18 R17
    go_wp2_with fail
    refine (eqInt64SS_same U18 U4 m _ _ US18 US4 Y w18 K18.out F18.out).mono ?_
    rintro e w19 ⟨rfl, q19, rfl⟩
    have b19 : Below w18.heap.size w18 (w18.drewN q19) := below_drewN (Below.refl _ _) q19
    have S19 := Lib.hid (S18.out.up b19)
    have G19 := Lib.hid (G18.out.below b19)
    clear b19 S18 F18 G18 K18
    generalize w18.drewN q19 = w19 at *
    go_wp2_with fail
    refine (heldInt64SS_own U7 m nB US7 Y w19 G19.out OL.out).mono ?_
    rintro e w20 ⟨rfl, rfl⟩
    rw [HOM.out]
    go_wp2_with fail
    go_ret
    exact ⟨rfl, S19.out.bel⟩
  · have hlt : (1048576 : Int) < (len0 : Int) := by omega
    have B0 : Hid (Below w.heap.size w (w.alloc (.cells #[.int .i64 c0, .slice a0 len0 cap0] 24))) := Lib.hid ((Below.refl w.heap.size w).alloc (Nat.le_refl _) _)
    go_enter Try.func5, Try.ntmps5
    go_wp2_with fail
    refine (szMatrix_no c0 a0 len0 cap0 1048576 _ hlt (by omega) hm).mono ?_
    rintro e w2 ⟨rfl, b2⟩
    have B2 := Lib.hid (B0.out.trans (b2.mono B0.out.size))
    go_wp2_with fail
    go_ret
    exact ⟨rfl, B2.out⟩
end Go.Proofs.Ytdojblmffmefgaa
