/-
  Joined: NMos.
-/
import Derived.Test.YtnmilkehggjpfaaZnorOfSquares02
import Derived.Test.YtnmilkehggjpfaaZnorOfSquares05
section
namespace Go.Proofs.Ytnmilkehggjpfaa.Ml
open Go.RowKit
set_option linter.unusedVariables false
set_option maxRecDepth 100000

theorem isW_okW {x : List Int} (h : isW x) : okW x ∧ x.sum = sumL x := by
  have e : (List.range x.length).map (gOf x) = x := range_get x
  have h1 := okW_word h
  have h2 := dsum_sum (gOf x) x.length
  rw [e] at h1 h2
  exact ⟨h1, h2⟩
theorem okSq_words {X : Nat → List Int} {m : Nat} (h : okSq X m) : ∀ i, i < m → okW (X i) ∧ (X i).sum = sumL (X 0) := fun i hi => by
  have h1 := isW_okW (h.2 i hi).1
  exact ⟨h1.1, by rw [h1.2]; exact (h.2 i hi).2⟩

/-- The argument's box and the result's box. -/
structure DuoS (w : World) (va : Value) (W : World) : Prop where
  bel : Below w.heap.size w W
  bA : Box1 W w.heap.size 60 va
  bR : Box1 W (w.heap.size + 1) 45 (.slice none 0 0)
theorem DuoS.up {w : World} {va : Value} {W W' : World} (h : DuoS w va W) (k : Below W.heap.size W W') : DuoS w va W' := ⟨h.bel.step1 k, h.bA.up k, h.bR.up k⟩
theorem DuoS.size {w : World} {va : Value} {W : World} (h : DuoS w va W) : w.heap.size + 2 ≤ W.heap.size := by have := h.bR.lt; omega
theorem DuoS.start (w : World) (va : Value) : DuoS w va ((w.alloc (.cells #[va] 60)).alloc (.cells #[.slice none 0 0] 45)) := by
  refine ⟨((Below.refl w.heap.size w).alloc (Nat.le_refl _) _).alloc (by simp) _, (Box1.new w _ _).alloc _, ?_⟩
  have := Box1.new (w.alloc (.cells #[va] 60)) 45 (.slice none 0 0)
  simpa using this

theorem specMOS_no (a : Option Addr) (m cap : Nat) (X : Nat → List Int) (w : World) (h : RdSS w (.slice a m cap) m X) (hb : ¬ okSq X m) : Calls Try.prog 39 #[.agg #[.slice a m cap]] w (ResS [] 1 w) := by
  have t2 := Try.underlying45
  have t3 := Try.underlying60
  obtain ⟨w1, hw1⟩ : ∃ w1, w1 = ((w.alloc (.cells #[.slice a m cap] 60)).alloc (.cells #[.slice none 0 0] 45)) := ⟨_, rfl⟩
  have D1 : Hid (DuoS w (.slice a m cap) w1) := Lib.hid (by rw [hw1]; exact DuoS.start _ _)
  have WD := Lib.hid ((isS_no X m hb).1 _ w1 (h.below D1.out.bel))
  clear h hb
  go_enter Try.func39, Try.ntmps39
  go_upto_region 1 with fail
  rw [← hw1]
  clear hw1
  have d0 := D1.out.bA.c
  go_wp2_with fail
  refine WD.out.mono ?_
  rintro e w2 ⟨rfl, b2⟩
  have D2 := Lib.hid (D1.out.up b2)
  clear b2 D1 d0 WD
  have dR := D2.out.bR.c
  have fR := D2.out.bR.fr 0
  have hsz := D2.out.size
  go_wp2_with fail
  have FIN := fin2 (w := w) (famNil _ (w.heap.size + 2)) D2.out.bel (by omega) D2.out.bR
  refine bodyPost_ret (results_box1_tmp rfl _ _ (w.heap.size + 1) _ _ rfl (by first | exact FIN.1 | exact D2.out.bR) t2 (by kernel_rfl)) rfl ?_
  first
    | exact ⟨_, _, rfl, FIN.2.1, sepNil, FIN.2.2⟩
    | exact ⟨_, _, rfl, famNil _ _, sepNil, D2.out.bel⟩
theorem implMOS_no (a : Option Addr) (m cap : Nat) (X : Nat → List Int) (w : World) (h : RdSS w (.slice a m cap) m X) (hb : ¬ okSq X m) : Calls Try.prog 41 #[.agg #[.slice a m cap]] w (ResS [] 1 w) := by
  have t2 := Try.underlying45
  have t3 := Try.underlying60
  obtain ⟨w1, hw1⟩ : ∃ w1, w1 = ((w.alloc (.cells #[.slice a m cap] 60)).alloc (.cells #[.slice none 0 0] 45)) := ⟨_, rfl⟩
  have D1 : Hid (DuoS w (.slice a m cap) w1) := Lib.hid (by rw [hw1]; exact DuoS.start _ _)
  have WD := Lib.hid ((isS_no X m hb).2 _ w1 (h.below D1.out.bel))
  clear h hb
  go_enter Try.func41, Try.ntmps41
  go_upto_region 1 with fail
  rw [← hw1]
  clear hw1
  have d0 := D1.out.bA.c
  go_wp2_with fail
  refine WD.out.mono ?_
  rintro e w2 ⟨rfl, b2⟩
  have D2 := Lib.hid (D1.out.up b2)
  clear b2 D1 d0 WD
  have dR := D2.out.bR.c
  have fR := D2.out.bR.fr 0
  have hsz := D2.out.size
  go_wp2_with fail
  have FIN := fin2 (w := w) (famNil _ (w.heap.size + 2)) D2.out.bel (by omega) D2.out.bR
  refine bodyPost_ret (results_box1_tmp rfl _ _ (w.heap.size + 1) _ _ rfl (by first | exact FIN.1 | exact D2.out.bR) t2 (by kernel_rfl)) rfl ?_
  first
    | exact ⟨_, _, rfl, FIN.2.1, sepNil, FIN.2.2⟩
    | exact ⟨_, _, rfl, famNil _ _, sepNil, D2.out.bel⟩

theorem specMOS_ok (a : Option Addr) (m cap : Nat) (X : Nat → List Int) (w : World) (h : RdSS w (.slice a m cap) m X) (hb : okSq X m) : Calls Try.prog 39 #[.agg #[.slice a m cap]] w (ResS (sumW (rowsL X m)) 0 w) := by
  have t2 := Try.underlying45
  have t3 := Try.underlying60
  obtain ⟨w1, hw1⟩ : ∃ w1, w1 = ((w.alloc (.cells #[.slice a m cap] 60)).alloc (.cells #[.slice none 0 0] 45)) := ⟨_, rfl⟩
  have D1 : Hid (DuoS w (.slice a m cap) w1) := Lib.hid (by rw [hw1]; exact DuoS.start _ _)
  have WD := Lib.hid ((isS_yes X m hb).1 _ w1 (h.below D1.out.bel))
  have ST := Lib.hid (fun wx (hx : Below w.heap.size w wx) => l05Milnor_any (.slice a m cap) m X (sumL (X 0)) wx (h.below hx) (by have := hb.1.1; omega) (okSq_words hb) (fun i hi => by have := (hb.2 i hi).1.1; omega))
  clear h hb
  go_enter Try.func39, Try.ntmps39
  go_upto_region 1 with fail
  rw [← hw1]
  clear hw1
  have d0 := D1.out.bA.c
  go_wp2_with fail
  refine WD.out.mono ?_
  rintro e w2 ⟨rfl, b2⟩
  have D2 := Lib.hid (D1.out.up b2)
  clear b2 D1 d0 WD
  have d2 := D2.out.bA.c
  go_wp2_with fail
  refine (ST.out w2 D2.out.bel).mono ?_
  rintro e w5 ⟨V5, VS5, rfl, f5, s5, b5⟩
  obtain ⟨av, cv, rfl, _, _⟩ := Fam.head f5
  have hsz := D2.out.size
  have D5 := Lib.hid (D2.out.up b5)
  have FIN := Lib.hid (fin2 (w := w) f5 D5.out.bel (by omega) D5.out.bR)
  have HS := Lib.hid s5
  clear f5 s5 b5 ST d2 D2
  have dR := D5.out.bR.c
  have fR := D5.out.bR.fr 0
  go_wp2_with fail
  refine bodyPost_ret (results_box1_tmp rfl _ _ (w.heap.size + 1) _ _ rfl FIN.out.1 t2 (by kernel_rfl)) rfl ?_
  exact ⟨_, _, rfl, FIN.out.2.1, HS.out, FIN.out.2.2⟩

theorem implMOS_ok (a : Option Addr) (m cap : Nat) (X : Nat → List Int) (w : World) (h : RdSS w (.slice a m cap) m X) (hb : okSq X m)
    (S : ∀ wx, Below w.heap.size w wx → Calls Try.prog 82 #[.slice a m cap, .func (.func 83) #[] #[]] wx (ResT (sumW (rowsL X m)) wx)) : Calls Try.prog 41 #[.agg #[.slice a m cap]] w (ResS (sumW (rowsL X m)) 0 w) := by
  have t2 := Try.underlying45
  have t3 := Try.underlying60
  obtain ⟨w1, hw1⟩ : ∃ w1, w1 = ((w.alloc (.cells #[.slice a m cap] 60)).alloc (.cells #[.slice none 0 0] 45)) := ⟨_, rfl⟩
  have D1 : Hid (DuoS w (.slice a m cap) w1) := Lib.hid (by rw [hw1]; exact DuoS.start _ _)
  have WD := Lib.hid ((isS_yes X m hb).2 _ w1 (h.below D1.out.bel))
  have ST := Lib.hid S
  clear h hb
  go_enter Try.func41, Try.ntmps41
  go_upto_region 1 with fail
  rw [← hw1]
  clear hw1
  have d0 := D1.out.bA.c
  go_wp2_with fail
  refine WD.out.mono ?_
  rintro e w2 ⟨rfl, b2⟩
  have D2 := Lib.hid (D1.out.up b2)
  clear b2 D1 d0 WD
  have d2 := D2.out.bA.c
  go_wp2_with fail
  refine (ST.out w2 D2.out.bel).mono ?_
  rintro e w5 ⟨V5, VS5, rfl, f5, s5, b5⟩
  obtain ⟨av, cv, rfl, _, _⟩ := Fam.head f5
  have hsz := D2.out.size
  have D5 := Lib.hid (D2.out.up b5)
  have FIN := Lib.hid (fin2 (w := w) f5 D5.out.bel (by omega) D5.out.bR)
  have HS := Lib.hid s5
  clear f5 s5 b5 ST d2 D2
  have dR := D5.out.bR.c
  have fR := D5.out.bR.fr 0
  go_wp2_with fail
  refine bodyPost_ret (results_box1_tmp rfl _ _ (w.heap.size + 1) _ _ rfl FIN.out.1 t2 (by kernel_rfl)) rfl ?_
  exact ⟨_, _, rfl, FIN.out.2.1, HS.out, FIN.out.2.2⟩
end Go.Proofs.Ytnmilkehggjpfaa.Ml
end
