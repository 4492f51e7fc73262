/-
  SolveRows, both sides.
-/
import Derived.Test.YtdojblmffmefgaaDoorDLeast
import Derived.Test.YtdojblmffmefgaaDoorMLaw2
namespace Go.Proofs.YtdojblmffmefgaaDoor
open Go.RowKit
set_option linter.unusedVariables false
set_option maxRecDepth 100000

theorem few_cases {c : Int} {n : Nat} {G : Nat → Int} (h : isMat c n G = true) : (n ≤ 60 ∧ fewCode c n G = 0) ∨ (60 < n ∧ fewCode c n G = 2) := by
  unfold fewCode
  rw [if_pos h]
  by_cases h6 : n ≤ 60
  · exact .inl ⟨h6, if_pos h6⟩
  · exact .inr ⟨by omega, if_neg h6⟩
theorem few_out {c : Int} {n : Nat} {G : Nat → Int} (h : isMat c n G = false) : fewCode c n G = 1 := by
  unfold fewCode
  rw [if_neg (by rw [h]; simp)]

/-- The code is the one of the few rows. -/
theorem implSol_few (c v : Int) (s : Value) (n : Nat) (G : Nat → Int) (w : World) (h : RdI w s n G) (hc : fewCode c n G ≠ 0) :
    Calls Tryd.prog 45 #[.agg #[.int .i64 c, s], .int .i64 v] w (VRes (.int .i64 0) (fewCode c n G) w) := by
  have H := Lib.hid h
  obtain ⟨a, cap, rfl, hm, hc1⟩ := h
  clear hc1
  have t2 := Tryd.underlying26
  obtain ⟨w1, hw1, B1, XA, HR⟩ := box_one (c := c) H.out
  have SI := Lib.hid (implFew_any c _ n G w1 HR)
  have B1 := Lib.hid B1
  have hcd : (fewCode c n G != 0) = true := by rw [bne_iff_ne]; exact hc
  clear XA HR hc
  generalize fewCode c n G = cd at *
  go_enter Tryd.func45, Tryd.ntmps45
  go_wp2_with fail
  rw [← hw1]
  clear hw1
  refine SI.out.mono ?_
  rintro e w3 ⟨rfl, b3⟩
  have B3 := Lib.hid (B1.out.trans (b3.mono B1.out.size))
  go_wp2_with fail
  go_ret2
  exact ⟨rfl, B3.out⟩

theorem implSol_off (k : Nat) (v : Int) (s : Value) (n : Nat) (G : Nat → Int) (w : World) (h : RdI w s n G) (hc : fewCode k n G = 0) (hk : k ≤ 60) (hv : maskB v k = false) :
    Calls Tryd.prog 45 #[.agg #[.int .i64 k, s], .int .i64 v] w (VRes (.int .i64 0) 2 w) := by
  have H := Lib.hid h
  obtain ⟨a, cap, rfl, hm, hc1⟩ := h
  clear hc1
  have t2 := Tryd.underlying26
  obtain ⟨w1, hw1, B1, XA, HR⟩ := box_one (c := k) H.out
  have SI := Lib.hid (implFew_any k _ n G w1 HR)
  have B1 := Lib.hid B1
  have XA := Lib.hid XA
  have MK := Lib.hid (fun w => fits_any v k w hk)
  rw [hv] at MK
  rw [hc] at SI
  clear HR hc hv
  go_enter Tryd.func45, Tryd.ntmps45
  go_wp2_with fail
  rw [← hw1]
  clear hw1
  refine SI.out.mono ?_
  rintro e w3 ⟨rfl, b3⟩
  have B3 := Lib.hid (B1.out.trans (b3.mono B1.out.size))
  have XA3 := Lib.hid (XA.out.up b3)
  have cA0 := XA3.out.c0
  have cA1 := XA3.out.c1
  go_wp2_with fail
  refine (MK.out w3).mono ?_
  rintro e w4 ⟨rfl, rfl⟩
  go_wp2_with fail
  go_ret2
  exact ⟨rfl, B3.out⟩

theorem specSol_no (c v : Int) (s : Value) (n : Nat) (G : Nat → Int) (w : World) (h : RdI w s n G) (hc : fewCode c n G = 1) :
    Calls Tryd.prog 46 #[.agg #[.int .i64 c, s], .int .i64 v] w (VRes (.int .i64 0) 1 w) := by
  have H := Lib.hid h
  obtain ⟨a, cap, rfl, hm, hc1⟩ := h
  clear hc1
  have t2 := Tryd.underlying26
  obtain ⟨w1, hw1, B1, XA, HR⟩ := box_one (c := c) H.out
  have SI := Lib.hid (specFew_any c _ n G w1 HR)
  have B1 := Lib.hid B1
  rw [hc] at SI
  clear XA HR hc
  go_enter Tryd.func46, Tryd.ntmps46
  go_wp2_with fail
  rw [← hw1]
  clear hw1
  refine SI.out.mono ?_
  rintro e w3 ⟨rfl, b3⟩
  have B3 := Lib.hid (B1.out.trans (b3.mono B1.out.size))
  go_wp2_with fail
  go_ret2
  exact ⟨rfl, B3.out⟩

/-- The mask does not fit, or there are too many rows. -/
theorem specSol_two (k : Nat) (v : Int) (s : Value) (n : Nat) (G : Nat → Int) (w : World) (h : RdI w s n G) (f : Int) (m : Bool) (hc : fewCode k n G = f) (hk : k ≤ 60) (hv : maskB v k = m) (hfm : (f = 2 ∧ m = true) ∨ (f = 0 ∧ m = false) ∨ (f = 2 ∧ m = false)) :
    Calls Tryd.prog 46 #[.agg #[.int .i64 k, s], .int .i64 v] w (VRes (.int .i64 0) 2 w) := by
  have H := Lib.hid h
  obtain ⟨a, cap, rfl, hm, hc1⟩ := h
  clear hc1
  have t2 := Tryd.underlying26
  obtain ⟨w1, hw1, B1, XA, HR⟩ := box_one (c := k) H.out
  have SI := Lib.hid (specFew_any k _ n G w1 HR)
  have B1 := Lib.hid B1
  have XA := Lib.hid XA
  have MK := Lib.hid (fun w => l02Mask_any v k w hk)
  rw [hv] at MK
  rw [hc] at SI
  clear HR hc hv
  rcases hfm with ⟨rfl, rfl⟩ | ⟨rfl, rfl⟩ | ⟨rfl, rfl⟩
  all_goals
    go_enter Tryd.func46, Tryd.ntmps46
    go_wp2_with fail
    rw [← hw1]
    clear hw1
    refine SI.out.mono ?_
    rintro e w3 ⟨rfl, b3⟩
    have B3 := Lib.hid (B1.out.trans (b3.mono B1.out.size))
    have XA3 := Lib.hid (XA.out.up b3)
    have cA0 := XA3.out.c0
    have cA1 := XA3.out.c1
    go_wp2_with fail
    refine (MK.out w3).mono ?_
    rintro e w4 ⟨rfl, rfl⟩
    go_wp2_with fail
    go_ret2
    exact ⟨rfl, B3.out⟩

/-- What both answer: what is left, and the trace. -/
def solV (y : TR) : Int := if y.1 = 0 then ((y.2 : Nat) : Int) else 0
def solC (y : TR) : Int := if y.1 = 0 then 0 else 4

set_option maxHeartbeats 2000000 in
theorem specSol_yes (k x n : Nat) (s : Value) (G : Nat → Int) (R : List Nat) (w : World) (h : RdI w s n G) (hc : fewCode k n G = 0) (hk : k ≤ 60) (hn : R.length = n) (hn6 : n ≤ 60) (hR : ∀ x ∈ R, x < 2 ^ 60) (hN : ∀ (w : World) (s : Value), RdI w s n G → RdN w s R) (hv : maskB x k = true) (hx : x < 2 ^ 60)
    (y : TR) (hy : rml (kruns (fun i => R.getD i 0) R.length).D (kruns (fun i => R.getD i 0) R.length).M (x, 0) = y) (hyb : y.2 < 2 ^ 60)
    (hf : y.1 = 0 → ∀ t ∈ topsOf (putAll [] (kruns (fun i => R.getD i 0) R.length).O), min y.2 (y.2 ^^^ t) = y.2) (hkb : ∀ t ∈ putAll [] (kruns (fun i => R.getD i 0) R.length).O, t < 2 ^ 60) (hkl : (putAll [] (kruns (fun i => R.getD i 0) R.length).O).length ≤ 60) :
    Calls Tryd.prog 46 #[.agg #[.int .i64 k, s], .int .i64 x] w (VRes (.int .i64 (solV y)) (solC y) w) := by
  have H := Lib.hid h
  obtain ⟨a, cap, rfl, hm, hc1⟩ := h
  clear hc1
  have t2 := Tryd.underlying26
  obtain ⟨w1, hw1, B1, XA, HR⟩ := box_one (c := k) H.out
  have SI := Lib.hid (specFew_any k _ n G w1 HR)
  have B1 := Lib.hid B1
  have XA := Lib.hid XA
  have HR := Lib.hid HR
  have MK := Lib.hid (fun w => l02Mask_any x k w hk)
  have SLV := Lib.hid (fun (w : World) (s : Value) (hw : RdI w s n G) => l02Solve_any s R w (hN w s hw) hR (by omega) x hx)
  have KER := Lib.hid (fun (w : World) (s : Value) (hw : RdI w s n G) => l02Kernel_any s R w (hN w s hw) hR (by omega))
  rw [hv] at MK
  rw [hc] at SI
  rw [hy] at SLV
  generalize putAll [] (kruns (fun i => R.getD i 0) R.length).O = K at *
  have HF := Lib.hid hf
  have HKB := Lib.hid hkb
  have HYB := Lib.hid hyb
  have HKL := Lib.hid hkl
  clear hc hv hy hf hkb hR hN hyb hx hkl
  go_enter Tryd.func46, Tryd.ntmps46
  go_wp2_with fail
  rw [← hw1]
  clear hw1
  refine SI.out.mono ?_
  rintro e w3 ⟨rfl, b3⟩
  have B3 := Lib.hid (B1.out.trans (b3.mono B1.out.size))
  have XA3 := Lib.hid (XA.out.up b3)
  have HR3 := Lib.hid (HR.out.below b3)
  have cA0 := XA3.out.c0
  have cA1 := XA3.out.c1
  clear b3 B1 XA HR SI
  go_wp2_with fail
  refine (MK.out w3).mono ?_
  rintro e w4 ⟨rfl, rfl⟩
  go_wp2_with fail
  refine (SLV.out w3 _ HR3.out).mono ?_
  rintro e w4 ⟨rfl, b4⟩
  have B4 := Lib.hid (B3.out.trans (b4.mono B3.out.size))
  have XA4 := Lib.hid (XA3.out.up b4)
  have HR4 := Lib.hid (HR3.out.below b4)
  clear b4 B3 XA3 HR3 cA0 cA1
  have cA0 := XA4.out.c0
  have cA1 := XA4.out.c1
  by_cases h0 : y.1 = 0
  · have hb : (((y.1 : Nat) : Int) == 0) = true := by rw [h0]; rfl
    have E1 : Hid (solV y = ((y.2 : Nat) : Int)) := Lib.hid (if_pos h0)
    have E2 : Hid (solC y = 0) := Lib.hid (if_pos h0)
    have LF := Lib.hid (HF.out h0)
    clear h0
    go_wp2_with fail
    refine (KER.out w4 _ HR4.out).mono ?_
    rintro e w5 ⟨u, rfl, o5, b5⟩
    have B5 := Lib.hid (B4.out.trans (b5.mono B4.out.size))
    have RU := Lib.hid (rdn_of_own o5)
    clear o5 b5 B4 XA4 HR4 cA0 cA1
    go_wp2_with fail
    refine (l02Least_any _ K y.2 w5 RU.out HKB.out HYB.out HKL.out LF.out).mono ?_
    rintro e w6 ⟨rfl, b6⟩
    have B6 := Lib.hid (B5.out.trans (b6.mono B5.out.size))
    go_wp2_with fail
    go_ret2
    exact ⟨by rw [E1.out, E2.out]; rfl, B6.out⟩
  · have hb : (((y.1 : Nat) : Int) == 0) = false := by rw [beq_eq_false_iff_ne]; omega
    have E1 : Hid (solV y = 0) := Lib.hid (if_neg h0)
    have E2 : Hid (solC y = 4) := Lib.hid (if_neg h0)
    clear h0
    go_wp2_with fail
    go_ret2
    exact ⟨by rw [E1.out, E2.out]; rfl, B4.out⟩

set_option maxHeartbeats 2000000 in
theorem implSol_yes (k x n : Nat) (s : Value) (G : Nat → Int) (R : List Nat) (w : World) (h : RdI w s n G) (hc : fewCode k n G = 0) (hk : k ≤ 60) (hn : R.length = n) (hn6 : n ≤ 60) (hR : ∀ x ∈ R, x < 2 ^ 60) (hN : ∀ (w : World) (s : Value), RdI w s n G → RdN w s R) (hv : maskB x k = true) (hx : x < 2 ^ 60) (hT : T0 w)
    (y : TR) (hy : rmd (krunS (fun i => R.getD i 0) R.length) (x, 0) 60 = y) :
    Calls Tryd.prog 45 #[.agg #[.int .i64 k, s], .int .i64 x] w (VRes (.int .i64 (solV y)) (solC y) w) := by
  have H := Lib.hid h
  have HT := Lib.hid hT
  have HRR := Lib.hid hR
  have BB := both_runs (fun i => R.getD i 0) R.length (by omega) (fun i hi => getD_lt' hR i hi) R.length (Nat.le_refl _)
  have PV := Lib.hid BB.piv
  have KS2 : Hid (krunS (fun i => R.getD i 0) R.length = addN (fun _ => (0, 0)) (fun i => (R.getD i 0, 2 ^ i)) R.length) := Lib.hid (ktr_tzs _ _).1
  obtain ⟨a, cap, rfl, hm, hc1⟩ := h
  clear hc1 hT hR BB
  have t2 := Tryd.underlying26
  have t3 := Tryd.underlying91
  have t4 := Tryd.underlying94
  obtain ⟨w1, hw1, B1, XA, HR⟩ := box_one (c := k) H.out
  have SI := Lib.hid (implFew_any k _ n G w1 HR)
  have B1 := Lib.hid B1
  have XA := Lib.hid XA
  have MK := Lib.hid (fun w => fits_any x k w hk)
  rw [hv] at MK
  rw [hc] at SI
  clear HR hc hv
  go_enter Tryd.func45, Tryd.ntmps45
  go_wp2_with fail
  rw [← hw1]
  clear hw1
  refine SI.out.mono ?_
  rintro e w3 ⟨rfl, b3⟩
  have B3 := Lib.hid (B1.out.trans (b3.mono B1.out.size))
  have XA3 := Lib.hid (XA.out.up b3)
  have cA0 := XA3.out.c0
  have cA1 := XA3.out.c1
  clear b3 B1 XA SI
  go_wp2_with fail
  refine (MK.out w3).mono ?_
  rintro e w4 ⟨rfl, rfl⟩
  have b5 : Below w3.heap.size w3 (w3.alloc (.cells Tryd.zeroCells94 94)) := (Below.refl _ _).alloc (Nat.le_refl _) _
  have S5 := Lib.hid (Sp.zeros w3)
  have B5 := Lib.hid (B3.out.trans (b5.mono B3.out.size))
  have XA5 := Lib.hid (XA3.out.up b5)
  have LG := Lib.hid B3.out.size
  clear b5 B3 XA3 cA0 cA1
  have a0 := XA5.out.c0
  have a1 := XA5.out.c1
  go_wp2_with fail
  generalize (w3.alloc (.cells Tryd.zeroCells94 94)) = w5 at *
  generalize w3.heap.size = g at *
  clear a0 a1
  refine (numberedRows_any _ R w5 (hN w5 _ (H.out.below B5.out)) (by omega)).mono ?_
  rintro e w6 ⟨u6, rfl, o6, b6⟩
  have B6 := Lib.hid (B5.out.trans (b6.mono B5.out.size))
  have S6 := Lib.hid (S5.out.up b6)
  have O6 := Lib.hid (rdt_of_own o6)
  have T6 := Lib.hid (HT.out.below B6.out)
  have HP := Lib.hid HT.out.pos
  clear o6 b6 B5 XA5 S5
  go_wp2_with fail
  refine (reduceAdd_any g _ u6 R.length _ w6 O6.out S6.out piv_zero (fun i hi => ⟨getD_lt' HRR.out i hi, pow_lt60 (by omega)⟩) (by omega) T6.out (by have := HP.out; have := LG.out; omega)).mono ?_
  rintro e w7 ⟨u7, rfl, o7, s7, k7⟩
  rw [← KS2.out] at s7
  have B7 := Lib.hid (B6.out.grown k7 B6.out.size (fun q hq => by cases hq; exact LG.out))
  have RM := Lib.hid (remainder_any g _ (x, 0) w7 s7 (fun i hi => ⟨PV.out.lt i hi, PV.out.tl i hi⟩) ⟨hx, Nat.two_pow_pos 60⟩)
  rw [hy] at RM
  unfold tv at RM
  clear o7 s7 k7 B6 S6 O6 T6 hy
  go_wp2_with fail
  refine RM.out.mono ?_
  rintro e w8 ⟨rfl, b8⟩
  have B8 := Lib.hid (B7.out.trans (b8.mono B7.out.size))
  have B9 := Lib.hid (B8.out.alloc B8.out.size (.cells #[.int .i64 ((y.1 : Nat) : Int), .int .i64 ((y.2 : Nat) : Int)] 91))
  by_cases h0 : y.1 = 0
  · have hb : (((y.1 : Nat) : Int) != 0) = false := by rw [h0]; rfl
    have E1 : Hid (solV y = ((y.2 : Nat) : Int)) := Lib.hid (if_pos h0)
    have E2 : Hid (solC y = 0) := Lib.hid (if_pos h0)
    clear h0
    go_wp2
    go_ret2
    exact ⟨by rw [E1.out, E2.out]; rfl, B9.out⟩
  · have hb : (((y.1 : Nat) : Int) != 0) = true := by rw [bne_iff_ne]; omega
    have E1 : Hid (solV y = 0) := Lib.hid (if_neg h0)
    have E2 : Hid (solC y = 4) := Lib.hid (if_neg h0)
    clear h0
    go_wp2
    go_ret2
    exact ⟨by rw [E1.out, E2.out]; rfl, B9.out⟩

theorem SolveRows_both (c : Int) (n : Nat) (G : Nat → Int) (v : Int) : ∃ (r : Int) (cd : Int),
    (∀ w s, RdI w s n G → Calls Tryd.prog 46 #[.agg #[.int .i64 c, s], .int .i64 v] w (VRes (.int .i64 r) cd w)) ∧
    (∀ w s, RdI w s n G → T0 w → Calls Tryd.prog 45 #[.agg #[.int .i64 c, s], .int .i64 v] w (VRes (.int .i64 r) cd w)) := by
  cases hi : isMat c n G with
  | false =>
    have hc := few_out hi
    refine ⟨0, 1, fun w s h => specSol_no c v s n G w h hc, fun w s h _ => ?_⟩
    have := implSol_few c v s n G w h (by rw [hc]; decide)
    rwa [hc] at this
  | true =>
    obtain ⟨k, R, rfl, hk, hn, hl, hR, _, hN⟩ := mat_rd hi
    rcases few_cases hi with ⟨h6, hc⟩ | ⟨h6, hc⟩
    · cases hv : maskB v k with
      | false => exact ⟨0, 2, fun w s h => specSol_two k v s n G w h 0 false hc hk hv (.inr (.inl ⟨rfl, rfl⟩)), fun w s h _ => implSol_off k v s n G w h hc hk hv⟩
      | true =>
        have hb : 0 ≤ v ∧ v < 2 ^ k := by simpa [maskB] using hv
        obtain ⟨x, rfl⟩ : ∃ x : Nat, v = x := ⟨v.toNat, by omega⟩
        have hx : x < 2 ^ 60 := by
          have h1 : ((x : Nat) : Int) < ((2 ^ k : Nat) : Int) := by rw [show ((2 ^ k : Nat) : Int) = 2 ^ k from by simp]; exact hb.2
          exact Nat.lt_of_lt_of_le (by omega) (Nat.pow_le_pow_right (by decide) hk)
        have hl6 : R.length ≤ 60 := by omega
        have hG := fun i hi => getD_lt' hR i hi
        have BB := both_runs (fun i => R.getD i 0) R.length hl6 hG R.length (Nat.le_refl _)
        obtain ⟨q1, q2⟩ := solve_same (fun i => R.getD i 0) R.length x hl6 hG
        have ob : ∀ o ∈ (kruns (fun i => R.getD i 0) R.length).O, o < 2 ^ R.length ∧ comb (fun i => R.getD i 0) R.length o = 0 := fun o ho => BB.out o (by rw [← BB.same]; exact ho)
        have o60 : ∀ o ∈ (kruns (fun i => R.getD i 0) R.length).O, o < 2 ^ 60 := fun o ho => Nat.lt_of_lt_of_le (ob o ho).1 (Nat.pow_le_pow_right (by decide) hl6)
        have pb : ∀ t ∈ putAll [] (kruns (fun i => R.getD i 0) R.length).O, t < 2 ^ R.length ∧ comb (fun i => R.getD i 0) R.length t = 0 := fun t ht =>
          InL.ind (C := fun t => t < 2 ^ R.length ∧ comb (fun i => R.getD i 0) R.length t = 0) ⟨Nat.two_pow_pos _, comb_zero _ _⟩ (fun a b ha hb => ⟨Nat.xor_lt_two_pow ha.1 hb.1, by rw [comb_xor, ha.2, hb.2]; rfl⟩) ob ((putAll_span o60 t).1 (InL.mem ht))
        have tb := tops_in (C := fun t => t < 2 ^ R.length ∧ comb (fun i => R.getD i 0) R.length t = 0) (fun a b ha hb => ⟨Nat.xor_lt_two_pow ha.1 hb.1, by rw [comb_xor, ha.2, hb.2]; rfl⟩) _ pb
        have yb := (rml_at BB.ok (x, 0) ⟨hx, Nat.two_pow_pos 60⟩ _ (Nat.le_refl _)).2
        have hsv : solV (rmd (krunS (fun i => R.getD i 0) R.length) (x, 0) 60) = solV (rml (kruns (fun i => R.getD i 0) R.length).D (kruns (fun i => R.getD i 0) R.length).M (x, 0)) ∧ solC (rmd (krunS (fun i => R.getD i 0) R.length) (x, 0) 60) = solC (rml (kruns (fun i => R.getD i 0) R.length).D (kruns (fun i => R.getD i 0) R.length).M (x, 0)) := by
          unfold solV solC
          by_cases z : (rmd (krunS (fun i => R.getD i 0) R.length) (x, 0) 60).1 = 0
          · rw [if_pos z, if_pos z, if_pos (q1.2 z), if_pos (q1.2 z), (q2 z).1]
            exact ⟨rfl, rfl⟩
          · rw [if_neg z, if_neg z, if_neg (fun h => z (q1.1 h)), if_neg (fun h => z (q1.1 h))]
            exact ⟨rfl, rfl⟩
        refine ⟨_, _, fun w s h => specSol_yes k x n s G R w h hc hk hl h6 hR hN hv hx _ rfl yb (fun z t ht => ?_) (putAll_lt o60) (putAll_ok o60).2, fun w s h hT => ?_⟩
        · have z2 := q1.1 z
          obtain ⟨e1, e2, e3, e4⟩ := q2 z2
          have := least_free (fun i => R.getD i 0) R.length _ t e3 (tb t ht).2 (tb t ht).1.1 (tb t ht).1.2
          rw [e1]
          exact this
        · have := implSol_yes k x n s G R w h hc hk hl h6 hR hN hv hx hT _ rfl
          rw [hsv.1, hsv.2] at this
          exact this
    · refine ⟨0, 2, fun w s h => ?_, fun w s h _ => ?_⟩
      · cases hv : maskB v k with
        | true => exact specSol_two k v s n G w h 2 true hc hk hv (.inl ⟨rfl, rfl⟩)
        | false => exact specSol_two k v s n G w h 2 false hc hk hv (.inr (.inr ⟨rfl, rfl⟩))
      · have := implSol_few k v s n G w h (by rw [hc]; decide)
        rwa [hc] at this
end Go.Proofs.YtdojblmffmefgaaDoor
