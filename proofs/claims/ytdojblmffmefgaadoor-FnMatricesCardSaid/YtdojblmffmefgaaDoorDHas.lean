/-
  Contracts of HasMask, both sides.
-/
import Derived.Test.YtdojblmffmefgaaDoorDRank
namespace Go.Proofs.YtdojblmffmefgaaDoor
open Go.RowKit
set_option linter.unusedVariables false
set_option maxRecDepth 100000

theorem specHas_no (c v : Int) (s : Value) (n : Nat) (G : Nat → Int) (w : World) (h : RdI w s n G) (hi : isMat c n G = false) :
    Calls Tryd.prog 47 #[.agg #[.int .i64 c, s], .int .i64 v] w (VRes (.bool false) 1 w) := by
  have H := Lib.hid h
  obtain ⟨a, cap, rfl, hm, hc⟩ := h
  clear hc
  have t2 := Tryd.underlying26
  obtain ⟨w1, hw1, B1, XA, HR⟩ := box_one (c := c) H.out
  have SI := Lib.hid (specIs_any c _ n G w1 HR)
  have B1 := Lib.hid B1
  rw [hi] at SI
  clear hi XA HR
  go_enter Tryd.func47, Tryd.ntmps47
  go_wp2_with fail
  rw [← hw1]
  clear hw1
  refine SI.out.mono ?_
  rintro e w3 ⟨rfl, b3⟩
  have B3 := Lib.hid (B1.out.trans (b3.mono B1.out.size))
  go_wp2_with fail
  go_ret2
  exact ⟨rfl, B3.out⟩

theorem implHas_no (c v : Int) (s : Value) (n : Nat) (G : Nat → Int) (w : World) (h : RdI w s n G) (hi : isMat c n G = false) :
    Calls Tryd.prog 38 #[.agg #[.int .i64 c, s], .int .i64 v] w (VRes (.bool false) 1 w) := by
  have H := Lib.hid h
  obtain ⟨a, cap, rfl, hm, hc⟩ := h
  clear hc
  have t2 := Tryd.underlying26
  obtain ⟨w1, hw1, B1, XA, HR⟩ := box_one (c := c) H.out
  have SI := Lib.hid (implIs_any c _ n G w1 HR)
  have B1 := Lib.hid B1
  rw [hi] at SI
  clear hi XA HR
  go_enter Tryd.func38, Tryd.ntmps38
  go_wp2_with fail
  rw [← hw1]
  clear hw1
  refine SI.out.mono ?_
  rintro e w3 ⟨rfl, b3⟩
  have B3 := Lib.hid (B1.out.trans (b3.mono B1.out.size))
  go_wp2_with fail
  go_ret2
  exact ⟨rfl, B3.out⟩

theorem specHas_off (k : Nat) (v : Int) (s : Value) (n : Nat) (G : Nat → Int) (w : World) (h : RdI w s n G) (hi : isMat k n G = true) (hk : k ≤ 60) (hv : maskB v k = false) :
    Calls Tryd.prog 47 #[.agg #[.int .i64 k, s], .int .i64 v] w (VRes (.bool false) 2 w) := by
  have H := Lib.hid h
  obtain ⟨a, cap, rfl, hm, hc⟩ := h
  clear hc
  have t2 := Tryd.underlying26
  obtain ⟨w1, hw1, B1, XA, HR⟩ := box_one (c := k) H.out
  have SI := Lib.hid (specIs_any k _ n G w1 HR)
  have B1 := Lib.hid B1
  have XA := Lib.hid XA
  have MK := Lib.hid (fun w => l02Mask_any v k w hk)
  rw [hv] at MK
  rw [hi] at SI
  clear hi HR hv
  go_enter Tryd.func47, Tryd.ntmps47
  go_wp2_with fail
  rw [← hw1]
  clear hw1
  refine SI.out.mono ?_
  rintro e w3 ⟨rfl, b3⟩
  have B3 := Lib.hid (B1.out.trans (b3.mono B1.out.size))
  have XA3 := Lib.hid (XA.out.up b3)
  have cA0 := XA3.out.c0
  have cA1 := XA3.out.c1
  go_wp2_with fail
  refine (MK.out w3).mono ?_
  rintro e w4 ⟨rfl, rfl⟩
  go_wp2_with fail
  go_ret2
  exact ⟨rfl, B3.out⟩

theorem implHas_off (k : Nat) (v : Int) (s : Value) (n : Nat) (G : Nat → Int) (w : World) (h : RdI w s n G) (hi : isMat k n G = true) (hk : k ≤ 60) (hv : maskB v k = false) :
    Calls Tryd.prog 38 #[.agg #[.int .i64 k, s], .int .i64 v] w (VRes (.bool false) 2 w) := by
  have H := Lib.hid h
  obtain ⟨a, cap, rfl, hm, hc⟩ := h
  clear hc
  have t2 := Tryd.underlying26
  obtain ⟨w1, hw1, B1, XA, HR⟩ := box_one (c := k) H.out
  have SI := Lib.hid (implIs_any k _ n G w1 HR)
  have B1 := Lib.hid B1
  have XA := Lib.hid XA
  have MK := Lib.hid (fun w => fits_any v k w hk)
  rw [hv] at MK
  rw [hi] at SI
  clear hi HR hv
  go_enter Tryd.func38, Tryd.ntmps38
  go_wp2_with fail
  rw [← hw1]
  clear hw1
  refine SI.out.mono ?_
  rintro e w3 ⟨rfl, b3⟩
  have B3 := Lib.hid (B1.out.trans (b3.mono B1.out.size))
  have XA3 := Lib.hid (XA.out.up b3)
  have cA0 := XA3.out.c0
  have cA1 := XA3.out.c1
  go_wp2_with fail
  refine (MK.out w3).mono ?_
  rintro e w4 ⟨rfl, rfl⟩
  go_wp2_with fail
  go_ret2
  exact ⟨rfl, B3.out⟩

theorem specHas_yes (k x : Nat) (s : Value) (n : Nat) (G : Nat → Int) (R : List Nat) (w : World) (h : RdI w s n G) (hi : isMat k n G = true) (hk : k ≤ 60) (hn : R.length = n) (hn2 : n ≤ 200) (hR : ∀ x ∈ R, x < 2 ^ 60) (hN : ∀ (w : World) (s : Value), RdI w s n G → RdN w s R) (hv : maskB x k = true) (hx : x < 2 ^ 60) :
    Calls Tryd.prog 47 #[.agg #[.int .i64 k, s], .int .i64 x] w (VRes (.bool (((wo (putAll [] R) x : Nat) : Int) == 0)) 0 w) := by
  have H := Lib.hid h
  obtain ⟨a, cap, rfl, hm, hc⟩ := h
  clear hc
  have t2 := Tryd.underlying26
  obtain ⟨w1, hw1, B1, XA, HR⟩ := box_one (c := k) H.out
  have SI := Lib.hid (specIs_any k _ n G w1 HR)
  have B1 := Lib.hid B1
  have XA := Lib.hid XA
  have HR := Lib.hid HR
  have HRR := Lib.hid hR
  have HN := Lib.hid hN
  have HX := Lib.hid hx
  have PO := Lib.hid (putAll_ok hR).1
  have MK := Lib.hid (fun w => l02Mask_any x k w hk)
  rw [hv] at MK
  rw [hi] at SI
  clear hi hR hN hv hx
  go_enter Tryd.func47, Tryd.ntmps47
  go_wp2_with fail
  rw [← hw1]
  clear hw1
  refine SI.out.mono ?_
  rintro e w3 ⟨rfl, b3⟩
  have B3 := Lib.hid (B1.out.trans (b3.mono B1.out.size))
  have XA3 := Lib.hid (XA.out.up b3)
  have RN := Lib.hid (HN.out w3 _ (HR.out.below b3))
  clear b3 B1 XA HR SI HN
  have cA0 := XA3.out.c0
  have cA1 := XA3.out.c1
  go_wp2_with fail
  refine (MK.out w3).mono ?_
  rintro e w4 ⟨rfl, rfl⟩
  go_wp2_with fail
  refine (l02Reduce_any _ R w3 RN.out HRR.out (by omega)).mono ?_
  rintro e w4 ⟨u, rfl, o4, b4⟩
  have B4 := Lib.hid (B3.out.trans (b4.mono B3.out.size))
  have RU := Lib.hid (rdn_of_own o4)
  clear o4 b4 cA0 cA1
  go_wp2_with fail
  refine (l02Without_any _ (putAll [] R) x w4 RU.out HX.out PO.out).mono ?_
  rintro e w5 ⟨rfl, rfl⟩
  generalize hy : wo (putAll [] R) x = y
  have HY := Lib.hid hy
  clear hy
  go_wp2_with fail
  go_ret2
  exact ⟨by rw [HY.out]; rfl, B4.out⟩

theorem implHas_yes (k x : Nat) (s : Value) (n : Nat) (G : Nat → Int) (R : List Nat) (w : World) (h : RdI w s n G) (hi : isMat k n G = true) (hk : k ≤ 60) (hn : R.length = n) (hn2 : n ≤ 200) (hR : ∀ x ∈ R, x < 2 ^ 60) (hN : ∀ (w : World) (s : Value), RdI w s n G → RdN w s R) (hv : maskB x k = true) (hx : x < 2 ^ 60) (hT : T0 w) :
    Calls Tryd.prog 38 #[.agg #[.int .i64 k, s], .int .i64 x] w (VRes (.bool (((wo (putAll [] R) x : Nat) : Int) == 0)) 0 w) := by
  have H := Lib.hid h
  obtain ⟨a, cap, rfl, hm, hc⟩ := h
  clear hc
  have t2 := Tryd.underlying26
  have t3 := Tryd.underlying91
  obtain ⟨w1, hw1, B1, XA, HR⟩ := box_one (c := k) H.out
  have SI := Lib.hid (implIs_any k _ n G w1 HR)
  have B1 := Lib.hid B1
  have XA := Lib.hid XA
  have HR := Lib.hid HR
  have HRR := Lib.hid hR
  have HN := Lib.hid hN
  have HX := Lib.hid hx
  have HT := Lib.hid hT
  have PV := Lib.hid (spaceL_piv hR)
  have EQ : Hid ((rmd (spaceL R) (x, 0) 60).1 = wo (putAll [] R) x) := Lib.hid (by rw [rmd_wo (spaceL_piv hR) (x, 0) 60 (Nat.le_refl _), spaceL_rows hR])
  have MK := Lib.hid (fun w => fits_any x k w hk)
  rw [hv] at MK
  rw [hi] at SI
  clear hi hR hN hv hx hT
  go_enter Tryd.func38, Tryd.ntmps38
  go_wp2_with fail
  rw [← hw1]
  clear hw1
  refine SI.out.mono ?_
  rintro e w3 ⟨rfl, b3⟩
  have B3 := Lib.hid (B1.out.trans (b3.mono B1.out.size))
  have XA3 := Lib.hid (XA.out.up b3)
  have RN := Lib.hid (HN.out w3 _ (HR.out.below b3))
  clear b3 B1 XA HR SI HN
  have cA0 := XA3.out.c0
  have cA1 := XA3.out.c1
  go_wp2_with fail
  refine (MK.out w3).mono ?_
  rintro e w4 ⟨rfl, rfl⟩
  go_wp2_with fail
  refine (spaceOf_any _ R w3 RN.out HRR.out (by omega) (HT.out.below B3.out)).mono ?_
  rintro e w4 ⟨rfl, s4, b4⟩
  have B4 := Lib.hid (B3.out.trans (b4.mono B3.out.size))
  have S4 := Lib.hid s4
  clear s4 b4 cA0 cA1
  have RM := Lib.hid (remainder_any _ (spaceL R) (x, 0) w4 S4.out (fun j hj => ⟨PV.out.lt j hj, PV.out.tl j hj⟩) ⟨HX.out, Nat.two_pow_pos 60⟩)
  unfold tv at RM
  go_wp2_with fail
  refine RM.out.mono ?_
  rintro e w5 ⟨rfl, b5⟩
  have B5 := Lib.hid (B4.out.trans (b5.mono B4.out.size))
  generalize rmd (spaceL R) (x, 0) 60 = l at *
  have hfd : ∀ w : World, (Instr.field 91 (.agg #[.int .i64 ((l.1 : Nat) : Int), .int .i64 ((l.2 : Nat) : Int)]) 0).run Tryd.prog w = .ok (.int .i64 ((l.1 : Nat) : Int)) w := fun _ => by kernel_rfl
  go_wp2_with fail
  go_ret2
  exact ⟨by rw [← EQ.out]; rfl, B5.out⟩

theorem HasMask_both (c : Int) (n : Nat) (G : Nat → Int) (v : Int) : ∃ (b : Bool) (cd : Int),
    (∀ w s, RdI w s n G → Calls Tryd.prog 47 #[.agg #[.int .i64 c, s], .int .i64 v] w (VRes (.bool b) cd w)) ∧
    (∀ w s, RdI w s n G → T0 w → Calls Tryd.prog 38 #[.agg #[.int .i64 c, s], .int .i64 v] w (VRes (.bool b) cd w)) := by
  cases hi : isMat c n G with
  | false => exact ⟨false, 1, fun w s h => specHas_no c v s n G w h hi, fun w s h _ => implHas_no c v s n G w h hi⟩
  | true =>
    obtain ⟨k, R, rfl, hk, hn, hl, hR, _, hN⟩ := mat_rd hi
    cases hv : maskB v k with
    | false => exact ⟨false, 2, fun w s h => specHas_off k v s n G w h hi hk hv, fun w s h _ => implHas_off k v s n G w h hi hk hv⟩
    | true =>
      have hb : 0 ≤ v ∧ v < 2 ^ k := by simpa [maskB] using hv
      obtain ⟨x, rfl⟩ : ∃ x : Nat, v = x := ⟨v.toNat, by omega⟩
      have hx : x < 2 ^ 60 := by
        have h1 : ((x : Nat) : Int) < ((2 ^ k : Nat) : Int) := by rw [show ((2 ^ k : Nat) : Int) = 2 ^ k from by simp]; exact hb.2
        exact Nat.lt_of_lt_of_le (by omega) (Nat.pow_le_pow_right (by decide) hk)
      exact ⟨_, 0, fun w s h => specHas_yes k x s n G R w h hi hk hl hn hR hN hv hx, fun w s h hT => implHas_yes k x s n G R w h hi hk hl hn hR hN hv hx hT⟩
end Go.Proofs.YtdojblmffmefgaaDoor
