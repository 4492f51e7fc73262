/-
  Contracts of spec.TimesRow and impl.TimesRow.
-/
import Derived.Test.YtdojblmffmefgaaDoorMFew
namespace Go.Proofs.YtdojblmffmefgaaDoor
open Go.RowKit
set_option linter.unusedVariables false

theorem l02Mask_big (r : Int) (n : Nat) (w : World) (hn : 60 < n) :
    Calls Tryd.prog 81 #[.int .i64 r, .int .i64 n] w fun e w' => e = .returned (.bool false) ∧ w = w' := by
  go_enter Tryd.func81, Tryd.ntmps81
  go_wp2_with fail
  refine (l01In_no _ _ _ _ (by omega)).mono ?_
  rintro e w' ⟨rfl, rfl⟩
  go_wp2_with fail
  go_ret
  exact ⟨rfl, rfl⟩

/-- What TimesRow returns. -/
noncomputable def trCode (x c : Int) (n : Nat) (G : Nat → Int) : Int := if isMat c n G = true then (if n ≤ 60 ∧ maskB x n = true then 0 else 2) else 1
noncomputable def trVal (x c : Int) (n : Nat) (G : Nat → Int) : Int := if trCode x c n G = 0 then tm x G n else 0

theorem implTimesRow_any (x c : Int) (s : Value) (n : Nat) (G : Nat → Int) (w : World) (h : RdI w s n G) :
    Calls Tryd.prog 27 #[.int .i64 x, .agg #[.int .i64 c, s]] w (VRes (.int .i64 (trVal x c n G)) (trCode x c n G) w) := by
  obtain ⟨B0, BX, R⟩ := box_start (t := 26) (c := c) h
  have B0 := Lib.hid B0
  have BX := Lib.hid BX
  have I := Lib.hid (implFew_any c s n G _ R)
  have R := Lib.hid R
  obtain ⟨a, cap, rfl, hm, hc⟩ := h
  clear hc
  have t2 := Tryd.underlying26
  go_enter Tryd.func27, Tryd.ntmps27
  go_wp2_with fail
  generalize (w.alloc (.cells #[.int .i64 c, .slice a n cap] 26)) = w1 at *
  refine I.out.mono ?_
  rintro e w2 ⟨rfl, b2⟩
  have B2 := Lib.hid (B0.out.trans (b2.mono B0.out.size))
  have BX2 := Lib.hid (BX.out.up b2)
  have R2 := Lib.hid (R.out.below b2)
  have d0 := BX2.out.c0
  have d1 := BX2.out.c1
  clear b2
  by_cases hi : isMat c n G = true
  · by_cases h6 : n ≤ 60
    · have F0 : fewCode c n G = 0 := by unfold fewCode; rw [if_pos hi, if_pos h6]
      rw [F0]
      clear F0
      go_wp2_with fail
      refine (rowCount_any c a n cap w2).mono ?_
      rintro e w3 ⟨rfl, b3⟩
      have B3 := Lib.hid (B2.out.trans (b3.mono B2.out.size))
      have R3 := Lib.hid (R2.out.below b3)
      have d0 := (BX2.out.up b3).c0
      have d1 := (BX2.out.up b3).c1
      clear b3
      cases hb : maskB x n with
      | false =>
        have E1 : Hid (trCode x c n G = 2) := Lib.hid (by unfold trCode; rw [if_pos hi, if_neg]; rintro ⟨_, h⟩; rw [hb] at h; cases h)
        have E2 : Hid (trVal x c n G = 0) := Lib.hid (by unfold trVal; rw [E1.out]; rfl)
        have Ft := Lib.hid (fun w => fits_any x n w h6)
        rw [hb] at Ft
        clear hb hi
        go_wp2_with fail
        refine (Ft.out _).mono ?_
        rintro e w4 ⟨rfl, rfl⟩
        go_wp2_with fail
        go_ret2
        exact ⟨by rw [E1.out, E2.out]; rfl, B3.out⟩
      | true =>
        have E1 : Hid (trCode x c n G = 0) := Lib.hid (by unfold trCode; rw [if_pos hi, if_pos ⟨h6, hb⟩])
        have E2 : Hid (trVal x c n G = tm x G n) := Lib.hid (by unfold trVal; rw [E1.out]; rfl)
        have Ft := Lib.hid (fun w => fits_any x n w h6)
        rw [hb] at Ft
        clear hb hi
        go_wp2_with fail
        refine (Ft.out _).mono ?_
        rintro e w4 ⟨rfl, rfl⟩
        go_wp2_with fail
        refine (implTimes_any x c _ n G _ R3.out h6).mono ?_
        rintro e w5 ⟨rfl, b5⟩
        have B5 := Lib.hid (B3.out.trans (b5.mono B3.out.size))
        clear b5 d0 d1
        go_wp2_with fail
        go_ret2
        exact ⟨by rw [E1.out, E2.out]; rfl, B5.out⟩
    · have F2 : fewCode c n G = 2 := by unfold fewCode; rw [if_pos hi, if_neg h6]
      have E1 : Hid (trCode x c n G = 2) := Lib.hid (by unfold trCode; rw [if_pos hi, if_neg]; rintro ⟨h, _⟩; exact h6 h)
      have E2 : Hid (trVal x c n G = 0) := Lib.hid (by unfold trVal; rw [E1.out]; rfl)
      rw [F2]
      clear F2 hi
      go_wp2_with fail
      go_ret2
      exact ⟨by rw [E1.out, E2.out]; rfl, B2.out⟩
  · have F1 : fewCode c n G = 1 := by unfold fewCode; rw [if_neg hi]
    have E1 : Hid (trCode x c n G = 1) := Lib.hid (by unfold trCode; rw [if_neg hi])
    have E2 : Hid (trVal x c n G = 0) := Lib.hid (by unfold trVal; rw [E1.out]; rfl)
    rw [F1]
    clear F1 hi
    go_wp2_with fail
    go_ret2
    exact ⟨by rw [E1.out, E2.out]; rfl, B2.out⟩

theorem specTimesRow_any (x c : Int) (s : Value) (n : Nat) (G : Nat → Int) (w : World) (h : RdI w s n G) :
    Calls Tryd.prog 28 #[.int .i64 x, .agg #[.int .i64 c, s]] w (VRes (.int .i64 (trVal x c n G)) (trCode x c n G) w) := by
  obtain ⟨B0, BX, R⟩ := box_start (t := 26) (c := c) h
  have B0 := Lib.hid B0
  have BX := Lib.hid BX
  have I := Lib.hid (specIs_any c s n G _ R)
  have R := Lib.hid R
  obtain ⟨a, cap, rfl, hm, hc⟩ := h
  clear hc
  have t2 := Tryd.underlying26
  go_enter Tryd.func28, Tryd.ntmps28
  go_wp2_with fail
  generalize (w.alloc (.cells #[.int .i64 c, .slice a n cap] 26)) = w1 at *
  refine I.out.mono ?_
  rintro e w2 ⟨rfl, b2⟩
  have B2 := Lib.hid (B0.out.trans (b2.mono B0.out.size))
  have BX2 := Lib.hid (BX.out.up b2)
  have R2 := Lib.hid (R.out.below b2)
  have d0 := BX2.out.c0
  have d1 := BX2.out.c1
  clear b2
  cases hi : isMat c n G with
  | true =>
    by_cases h6 : n ≤ 60
    · cases hb : maskB x n with
      | false =>
        have E1 : Hid (trCode x c n G = 2) := Lib.hid (by unfold trCode; rw [if_pos hi, if_neg]; rintro ⟨_, h⟩; rw [hb] at h; cases h)
        have E2 : Hid (trVal x c n G = 0) := Lib.hid (by unfold trVal; rw [E1.out]; rfl)
        have Ft := Lib.hid (fun w => l02Mask_any x n w h6)
        rw [hb] at Ft
        clear hb hi
        go_wp2_with fail
        refine (Ft.out _).mono ?_
        rintro e w4 ⟨rfl, rfl⟩
        go_wp2_with fail
        go_ret2
        exact ⟨by rw [E1.out, E2.out]; rfl, B2.out⟩
      | true =>
        have E1 : Hid (trCode x c n G = 0) := Lib.hid (by unfold trCode; rw [if_pos hi, if_pos ⟨h6, hb⟩])
        have E2 : Hid (trVal x c n G = tm x G n) := Lib.hid (by unfold trVal; rw [E1.out]; rfl)
        have Ft := Lib.hid (fun w => l02Mask_any x n w h6)
        rw [hb] at Ft
        clear hb hi
        go_wp2_with fail
        refine (Ft.out _).mono ?_
        rintro e w4 ⟨rfl, rfl⟩
        go_wp2_with fail
        refine (specTimes_any x _ n G _ R2.out h6).mono ?_
        rintro e w5 ⟨rfl, rfl⟩
        go_wp2_with fail
        go_ret2
        exact ⟨by rw [E1.out, E2.out]; rfl, B2.out⟩
    · have E1 : Hid (trCode x c n G = 2) := Lib.hid (by unfold trCode; rw [if_pos hi, if_neg]; rintro ⟨h, _⟩; exact h6 h)
      have E2 : Hid (trVal x c n G = 0) := Lib.hid (by unfold trVal; rw [E1.out]; rfl)
      clear hi
      go_wp2_with fail
      refine (l02Mask_big x n _ (by omega)).mono ?_
      rintro e w4 ⟨rfl, rfl⟩
      go_wp2_with fail
      go_ret2
      exact ⟨by rw [E1.out, E2.out]; rfl, B2.out⟩
  | false =>
    have E1 : Hid (trCode x c n G = 1) := Lib.hid (by unfold trCode; rw [if_neg (by rw [hi]; simp)])
    have E2 : Hid (trVal x c n G = 0) := Lib.hid (by unfold trVal; rw [E1.out]; rfl)
    clear hi
    go_wp2_with fail
    go_ret2
    exact ⟨by rw [E1.out, E2.out]; rfl, B2.out⟩

theorem TimesRow_both (c : Int) (n : Nat) (G : Nat → Int) (x : Int) : ∃ (v : Int) (cd : Int),
    (∀ w s, RdI w s n G → Calls Tryd.prog 28 #[.int .i64 x, .agg #[.int .i64 c, s]] w (VRes (.int .i64 v) cd w)) ∧
    (∀ w s, RdI w s n G → Calls Tryd.prog 27 #[.int .i64 x, .agg #[.int .i64 c, s]] w (VRes (.int .i64 v) cd w)) :=
  ⟨_, _, fun w s h => specTimesRow_any x c s n G w h, fun w s h => implTimesRow_any x c s n G w h⟩
end Go.Proofs.YtdojblmffmefgaaDoor
