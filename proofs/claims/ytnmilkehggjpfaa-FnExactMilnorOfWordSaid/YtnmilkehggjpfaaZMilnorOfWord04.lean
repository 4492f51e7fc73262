/-
  Joined: LFnExactMilnorOfWord.
-/
import Derived.Test.YtnmilkehggjpfaaZMilnorOfWord03
import Derived.Test.YtnmilkehggjpfaaZBMil38
section
namespace Go.Proofs.Ytnmilkehggjpfaa.Ml
open Go.RowKit
set_option linter.unusedVariables false
set_option maxRecDepth 100000

/-- A struct that is not written: its box and its lists. -/
structure OwnW (w0 : World) (g : Nat) (V : Value) (m : Nat) (VS : Nat → Value) (X : Nat → List Int) (w : World) : Prop where
  fam : Fam w w0.heap.size V m VS X
  box : Box1 w g 45 V
section
variable {w0 w w' : World} {V : Value} {g m : Nat} {VS : Nat → Value} {X : Nat → List Int}
theorem OwnW.up (h : OwnW w0 g V m VS X w) (k : Below w.heap.size w w') : OwnW w0 g V m VS X w' := ⟨h.fam.below k, h.box.up k⟩
theorem OwnW.start (h : Fam w w0.heap.size V m VS X) : OwnW w0 w.heap.size V m VS X (w.alloc (.cells #[V] 45)) := ⟨h.below ((Below.refl _ _).alloc (Nat.le_refl _) _), Box1.new _ _ _⟩
theorem OwnW.rest {g' n : Nat} {V' : Value} {VB : Nat → Value} {Y : Nat → List Int} (h : OwnW w0 g V m VS X w) (k : OwnF w0 g' V' n VB Y w) (r : MRestK n VB w w') (ap : FApart m VS n VB) : OwnW w0 g V m VS X w' :=
  ⟨h.fam.rest k.fam r ap, h.box.restK (B' := 0) (by decide) k.fam r⟩
theorem fam_mark {B B' n : Nat} {u : Value} {xs : List Value} (h : Fam w B V m VS X) (hu : w.ownsRow B' 2 1 u n xs) (hg : w.grownBy w' u.ownBlock) (ap : ∀ i, i < m → (VS i).ownBlock = none ∨ (VS i).ownBlock ≠ u.ownBlock) : Fam w' B V m VS X :=
  ⟨h.out.kept hg (own_types h.out hu (by decide)), fun i hi => (h.inn i hi).kept hg (ap i hi)⟩
theorem box_mark {t : TypeId} {x : Value} {B' n : Nat} {u : Value} {xs : List Value} (h : Box1 w g t x) (ht : 2 ≠ t) (hu : w.ownsRow B' 2 1 u n xs) (hg : w.grownBy w' u.ownBlock) : Box1 w' g t x :=
  (hg.block g h.lt (fun e => h.ne_own hu ht g e.symm rfl)).trans h
end

theorem own_shapeA {w : World} {B n : Nat} {e : TypeId} {v : Value} {xs : List Value} (h : w.ownsRow B e 1 v n xs) : ∃ a cap, v = .slice a n cap := by
  rcases h.2 with ⟨rfl, rfl⟩ | ⟨g, cap, cur, rfl, _⟩
  · exact ⟨none, 0, rfl⟩
  · exact ⟨_, cap, rfl⟩
theorem rdn_own {w : World} {B n : Nat} {u : Value} {G : Nat → Int} (h : w.ownsRow B 2 1 u n ((cpy G n n).map (Value.int .i64))) : RdN w u ((List.range n).map G) := by
  have e : cpy G n n = (List.range n).map G := List.map_congr_left fun i hi => if_pos (List.mem_range.1 hi)
  rw [e] at h
  refine RdN.of_own (B := B) ?_
  rw [List.length_map, List.length_range]
  exact h

set_option maxHeartbeats 2000000 in
theorem walk_FnExactMilnorOfWord (a1 : Option Addr) (len1 cap1 : Nat) (z1 : List Int) (w : World) (w1 : IsRow .i64 w a1 len1 cap1 z1) :
    Calls Try.prog 10 #[.slice a1 len1 cap1] w fun e w' => e = .returned (.bool true) ∧ Below w.heap.size w w' := by
  have hr := w1.rd
  clear w1
  have t2 := Try.underlying45
  generalize (fun i => z1.getD i 0) = G at hr
  by_cases hbig : len1 ≤ 1048576
  · have hbig' : (len1 : Int) ≤ 1048576 := by omega
    obtain ⟨L, cd, hL, h6, SP, IM⟩ := MilnorOfWord_both len1 G
    have OL : Hid (off 1 (fun i => (rowsOf L i).length) L.length ≤ 1152921504606846976) := Lib.hid (by rw [off_any]; have := tot_bound (rowsOf L) 20 L.length h6; omega)
    have OL0 : ¬ off 1 (fun i => (rowsOf L i).length) L.length < 0 := by rw [off_any]; omega
    have SP := Lib.hid SP
    have IM := Lib.hid IM
    have RA := Lib.hid hr
    obtain ⟨kl, hkl⟩ : ∃ kl, off 1 (fun i => (rowsOf L i).length) L.length = kl := ⟨_, rfl⟩
    rw [hkl] at OL0
    have HKL := Lib.hid hkl
    have hk1 : ¬ (1 : Int) + (len1 : Int) < 0 := by omega
    have hkn : Hid (len1 ≤ 1048576) := Lib.hid hbig
    have HCP := Lib.hid (cpy_length G len1 len1)
    clear hkl hL h6 hr hbig
    go_enter Try.func10, Try.ntmps10
    go_wp2_with fail
    refine (toInt64S_any _ len1 G w (by have := hkn.out; omega) RA.out).mono ?_
    rintro e w1 ⟨v1, rfl, o1, b1⟩
    have r1 := Lib.hid ((rd_of_own o1 (cpy_length G len1 len1).symm).congr (cpy_get G len1))
    have B1 := Lib.hid b1
    clear o1 b1
    go_wp2_with fail
    refine (SP.out _ _ r1.out).mono ?_
    rintro e w2 ⟨v2, vs2, rfl, f2, _, b2⟩
    obtain ⟨va2, vc2, rfl, _, _⟩ := f2.head
    have P3 : Hid (OwnW w w2.heap.size (.slice va2 L.length vc2) L.length vs2 (rowsOf L) (w2.alloc (.cells #[.slice va2 L.length vc2] 45))) := Lib.hid (OwnW.start (f2.base B1.out.size))
    have B3 := Lib.hid ((B1.out.step1 b2).alloc (B1.out.step1 b2).size (.cells #[.slice va2 L.length vc2] 45))
    clear f2 b2 B1 r1
    go_wp2_with fail
    generalize w2.heap.size = g3 at *
    generalize w2.alloc (.cells #[.slice va2 L.length vc2] 45) = w3 at *
    refine (toInt64S_any _ len1 G w3 (by have := hkn.out; omega) (RA.out.below B3.out)).mono ?_
    rintro e w4 ⟨u4, rfl, o4, b4⟩
    obtain ⟨ua4, uc4, rfl⟩ := own_shapeA o4
    have r4 := Lib.hid ((rd_of_own o4 (cpy_length G len1 len1).symm).congr (cpy_get G len1))
    have K4 := Lib.hid (rdn_own o4)
    have N34 := Lib.hid (fun i hi => own_apart (P3.out.fam.inn i hi) o4)
    have U4 := Lib.hid (own_base o4 B3.out.size)
    have P4 := Lib.hid (P3.out.up b4)
    have B4 := Lib.hid (B3.out.step1 b4)
    clear o4 b4 P3 B3
    go_wp2_with fail
    refine (IM.out _ _ K4.out).mono ?_
    rintro e w5 ⟨v5, vs5, rfl, f5, s5, b5⟩
    obtain ⟨va5, vc5, rfl, _, _⟩ := f5.head
    have N35 := Lib.hid (fam_apart P4.out.fam f5)
    have N45 := Lib.hid (fun i (hi : i < L.length) => apart_swap (own_apart U4.out (f5.inn i hi)))
    have Q6 : Hid (OwnF w w5.heap.size (.slice va5 L.length vc5) L.length vs5 (rowsOf L) (w5.alloc (.cells #[.slice va5 L.length vc5] 45))) := Lib.hid (OwnF.start (B4.out.step1 b5).size (f5.base B4.out.size) s5)
    have c56 : Below w5.heap.size w5 (w5.alloc (.cells #[.slice va5 L.length vc5] 45)) := (Below.refl _ _).alloc (Nat.le_refl _) _
    have P6 := Lib.hid ((P4.out.up b5).up c56)
    have U6 := Lib.hid (own_below (own_below U4.out b5) c56)
    have R6 := Lib.hid ((r4.out.below b5).below c56)
    have B6 := Lib.hid ((B4.out.step1 b5).step1 c56)
    clear f5 s5 b5 c56 P4 B4 U4 r4 K4
    have d0 := P6.out.box.c
    have e0 := Q6.out.box.c
    go_wp2_with fail
    generalize w5.heap.size = g6 at *
    generalize w5.alloc (.cells #[.slice va5 L.length vc5] 45) = w6 at *
    refine (eqMilnor_same _ _ L.length _ _ _ _ (rowsOf L) w6 Q6.out.fam P6.out.fam).mono ?_
    rintro e w7 ⟨rfl, b7⟩
    have P7 := Lib.hid (P6.out.up b7)
    have Q7 := Lib.hid (Q6.out.up b7)
    have U7 := Lib.hid (own_below U6.out b7)
    have R7 := Lib.hid (R6.out.below b7)
    have B7 := Lib.hid (B6.out.step1 b7)
    clear b7 P6 Q6 U6 R6 B6 d0 e0
    go_wp2_with fail
    refine (toInt64S_any _ len1 G w7 (by have := hkn.out; omega) (RA.out.below B7.out)).mono ?_
    rintro e w8 ⟨u8, rfl, o8, b8⟩
    have r8 := Lib.hid ((rd_of_own o8 (cpy_length G len1 len1).symm).congr (cpy_get G len1))
    have P8 := Lib.hid (P7.out.up b8)
    have Q8 := Lib.hid (Q7.out.up b8)
    have U8 := Lib.hid (own_below U7.out b8)
    have R8 := Lib.hid (R7.out.below b8)
    have B8 := Lib.hid (B7.out.step1 b8)
    clear o8 b8 P7 Q7 U7 R7 B7
    go_wp2_with fail
    refine (eqInt64S_same _ _ len1 G w8 R8.out r8.out).mono ?_
    rintro e w9 ⟨rfl, q, rfl⟩
    have c89 : Below w8.heap.size w8 (w8.drewN q) := below_drewN (Below.refl _ _) q
    have P9 := Lib.hid (P8.out.up c89)
    have Q9 := Lib.hid (Q8.out.up c89)
    have U9 := Lib.hid (own_below U8.out c89)
    have B9 := Lib.hid (B8.out.step1 c89)
    clear r8 c89 P8 Q8 U8 R8 B8
    generalize w8.drewN q = w9 at *
    go_wp2_with fail
    refine (markInt64S_own _ len1 _ 1 _ w9 (by omega) (by omega) (by have := hkn.out; omega) U9.out).mono ?_
    rintro e w10 ⟨rfl, _, g10, _⟩
    have P10 : Hid (OwnW w g3 (.slice va2 L.length vc2) L.length vs2 (rowsOf L) w10) := Lib.hid ⟨fam_mark P9.out.fam U9.out g10 N34.out, box_mark P9.out.box (by decide) U9.out g10⟩
    have Q10 : Hid (OwnF w g6 (.slice va5 L.length vc5) L.length vs5 (rowsOf L) w10) := Lib.hid ⟨fam_mark Q9.out.fam U9.out g10 N45.out, Q9.out.sep, box_mark Q9.out.box (by decide) U9.out g10, Q9.out.ge⟩
    have B10 := Lib.hid (B9.out.grown g10 B9.out.size (fun x hx => (U9.out.lt x (hx.symm ▸ rfl)).1))
    clear g10 P9 Q9 U9 B9
    have d0 := P10.out.box.c
    have e0 := Q10.out.box.c
    go_wp2_with fail
    refine (eqMilnor_same _ _ L.length _ _ _ _ (rowsOf L) w10 Q10.out.fam P10.out.fam).mono ?_
    rintro e w11 ⟨rfl, b11⟩
    have P11 := Lib.hid (P10.out.up b11)
    have Q11 := Lib.hid (Q10.out.up b11)
    have B11 := Lib.hid (B10.out.step1 b11)
    clear b11 P10 Q10 B10 d0 e0
    have e0 := Q11.out.box.c
    go_wp2_with fail
    refine (markMilnor_from 1 (by omega) _ L.length w.heap.size vs5 (rowsOf L) w11 Q11.out.fam Q11.out.sep B11.out.size OL.out).mono ?_
    rintro e w12 ⟨rfl, m12, k12, r12⟩
    have P12 := Lib.hid (P11.out.rest Q11.out r12 N35.out)
    have V12 := Lib.hid (Q11.out.box.restK (B' := 0) (by decide) Q11.out.fam r12)
    have W12 := Lib.hid m12
    have B12 := Lib.hid (B11.out.trans k12)
    rw [HKL.out]
    clear P11 Q11 B11 m12 k12 r12 e0
    have e0 := V12.out.c
    go_wp2_with fail
    refine (heldMilnor_own _ L.length w.heap.size vs5 (rowsOf L) w12 W12.out OL.out).mono ?_
    rintro e w13 ⟨rfl, b13⟩
    have P13 := Lib.hid (P12.out.up b13)
    have V13 := Lib.hid (V12.out.up b13)
    have W13 := Lib.hid (W12.out.below b13)
    have B13 := Lib.hid (B12.out.step1 b13)
    rw [HKL.out]
    clear P12 V12 W12 B12 b13 e0
    go_wp2_with fail
    refine (toInt64S_any _ len1 G w13 (by have := hkn.out; omega) (RA.out.below B13.out)).mono ?_
    rintro e w14 ⟨u14, rfl, o14, b14⟩
    have r14 := Lib.hid ((rd_of_own o14 (cpy_length G len1 len1).symm).congr (cpy_get G len1))
    have P14 := Lib.hid (P13.out.up b14)
    have V14 := Lib.hid (V13.out.up b14)
    have W14 := Lib.hid (W13.out.below b14)
    have B14 := Lib.hid (B13.out.step1 b14)
    have K14 := Lib.hid (rdn_own o14)
    clear o14 b14 P13 V13 W13 B13
    go_wp2_with fail
    refine (IM.out _ _ K14.out).mono ?_
    rintro e w15 ⟨v15, vs15, rfl, f15, s15, b15⟩
    obtain ⟨va15, vc15, rfl, _, _⟩ := f15.head
    have c16 : Below w15.heap.size w15 (w15.alloc (.cells #[.slice va15 L.length vc15] 45)) := (Below.refl _ _).alloc (Nat.le_refl _) _
    have H16 : Hid (OwnW w w15.heap.size (.slice va15 L.length vc15) L.length vs15 (rowsOf L) (w15.alloc (.cells #[.slice va15 L.length vc15] 45))) := Lib.hid (OwnW.start (f15.base B14.out.size))
    have P16 := Lib.hid ((P14.out.up b15).up c16)
    have V16 := Lib.hid ((V14.out.up b15).up c16)
    have W16 := Lib.hid ((W14.out.below b15).below c16)
    have B16 := Lib.hid ((B14.out.step1 b15).step1 c16)
    clear f15 s15 b15 c16 r14 K14 P14 V14 W14 B14
    have d0 := P16.out.box.c
    have e0 := H16.out.box.c
    go_wp2_with fail
    generalize w15.heap.size = g16 at *
    generalize w15.alloc (.cells #[.slice va15 L.length vc15] 45) = w16 at *
    refine (eqMilnor_same _ _ L.length _ _ _ _ (rowsOf L) w16 H16.out.fam P16.out.fam).mono ?_
    rintro e w17 ⟨rfl, b17⟩
    have V17 := Lib.hid (V16.out.up b17)
    have W17 := Lib.hid (W16.out.below b17)
    have B17 := Lib.hid (B16.out.step1 b17)
    clear b17 P16 H16 V16 W16 B16 d0 e0
    have e0 := V17.out.c
    go_wp2_with fail
    refine (heldMilnor_own _ L.length w.heap.size vs5 (rowsOf L) w17 W17.out OL.out).mono ?_
    rintro e w18 ⟨rfl, b18⟩
    have B18 := Lib.hid (B17.out.step1 b18)
    rw [HKL.out]
    go_wp2_with fail
    go_ret
    exact ⟨rfl, B18.out⟩
  · have hbig' : (1048576 : Int) < (len1 : Int) := by omega
    go_enter Try.func10, Try.ntmps10
    go_wp2
    go_ret
    exact ⟨rfl, Below.refl _ _⟩
end Go.Proofs.Ytnmilkehggjpfaa.Ml
end
