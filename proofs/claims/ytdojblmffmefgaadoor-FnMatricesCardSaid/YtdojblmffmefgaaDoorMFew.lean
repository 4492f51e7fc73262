/-
  Contracts: the error of a matrix that must have few rows; products of a mask and a matrix; TimesRow.
-/
import Derived.Test.YtdojblmffmefgaaDoorMIs
import Derived.Test.YtdojblmffmefgaaDoorMLaw
namespace Go.Proofs.YtdojblmffmefgaaDoor
open Go.RowKit
set_option linter.unusedVariables false
set_option maxRecDepth 100000

/-- The box of a struct that came by value. -/
theorem box_start {w : World} {t : TypeId} {c : Int} {s : Value} {n : Nat} {G : Nat → Int} (h : RdI w s n G) :
    Below w.heap.size w (w.alloc (.cells #[.int .i64 c, s] t)) ∧ Box (w.alloc (.cells #[.int .i64 c, s] t)) w.heap.size t (.int .i64 c) s ∧ RdI (w.alloc (.cells #[.int .i64 c, s] t)) s n G :=
  ⟨(Below.refl w.heap.size w).alloc (Nat.le_refl _) _, Box.new w _ _ _, h.below ((Below.refl w.heap.size w).alloc (Nat.le_refl _) _)⟩

theorem rowCount_any (c : Int) (a : Option Addr) (n cap : Nat) (w : World) :
    Calls Tryd.prog 79 #[.agg #[.int .i64 c, .slice a n cap]] w fun e w' => e = .returned (.int .i64 n) ∧ Below w.heap.size w w' := by
  have t2 := Tryd.underlying26
  go_enter Tryd.func79, Tryd.ntmps79
  go_wp2
  go_ret
  exact ⟨rfl, (Below.refl _ w).alloc (Nat.le_refl _) _⟩

/-- The code of a matrix that must have few rows. -/
noncomputable def fewCode (c : Int) (n : Nat) (G : Nat → Int) : Int := if isMat c n G = true then (if n ≤ 60 then 0 else 2) else 1

theorem implFew_any (c : Int) (s : Value) (n : Nat) (G : Nat → Int) (w : World) (h : RdI w s n G) :
    Calls Tryd.prog 78 #[.agg #[.int .i64 c, s]] w fun e w' => e = .returned (.int .i64 (fewCode c n G)) ∧ Below w.heap.size w w' := by
  obtain ⟨B0, BX, R⟩ := box_start (t := 26) (c := c) h
  have B0 := Lib.hid B0
  have BX := Lib.hid BX
  have I := Lib.hid (implIs_any c s n G _ R)
  obtain ⟨a, cap, rfl, hm, hc⟩ := h
  clear hc R
  have t2 := Tryd.underlying26
  go_enter Tryd.func78, Tryd.ntmps78
  go_wp2_with fail
  generalize (w.alloc (.cells #[.int .i64 c, .slice a n cap] 26)) = w1 at *
  refine I.out.mono ?_
  rintro e w2 ⟨rfl, b2⟩
  have B2 := Lib.hid (B0.out.trans (b2.mono B0.out.size))
  have d0 := (BX.out.up b2).c0
  have d1 := (BX.out.up b2).c1
  clear b2
  cases hi : isMat c n G with
  | false =>
    have E : Hid (fewCode c n G = 1) := Lib.hid (by unfold fewCode; rw [hi]; rfl)
    clear hi
    go_wp2_with fail
    go_ret
    exact ⟨by rw [E.out]; rfl, B2.out⟩
  | true =>
    go_wp2_with fail
    refine (rowCount_any c a n cap w2).mono ?_
    rintro e w3 ⟨rfl, b3⟩
    have B3 := Lib.hid (B2.out.trans (b3.mono B2.out.size))
    clear b3 d0 d1
    by_cases h6 : n ≤ 60
    · have E : Hid (fewCode c n G = 0) := Lib.hid (by unfold fewCode; rw [hi, if_pos h6]; rfl)
      clear hi
      have h6' : ¬ (60 : Int) < (n : Int) := by omega
      go_wp2_with fail
      go_ret
      exact ⟨by rw [E.out]; rfl, B3.out⟩
    · have E : Hid (fewCode c n G = 2) := Lib.hid (by unfold fewCode; rw [hi, if_neg h6]; rfl)
      clear hi
      have h6' : (60 : Int) < (n : Int) := by omega
      go_wp2_with fail
      go_ret
      exact ⟨by rw [E.out]; rfl, B3.out⟩

theorem specFew_any (c : Int) (s : Value) (n : Nat) (G : Nat → Int) (w : World) (h : RdI w s n G) :
    Calls Tryd.prog 85 #[.agg #[.int .i64 c, s]] w fun e w' => e = .returned (.int .i64 (fewCode c n G)) ∧ Below w.heap.size w w' := by
  obtain ⟨B0, BX, R⟩ := box_start (t := 26) (c := c) h
  have B0 := Lib.hid B0
  have BX := Lib.hid BX
  have I := Lib.hid (specIs_any c s n G _ R)
  obtain ⟨a, cap, rfl, hm, hc⟩ := h
  clear hc R
  have t2 := Tryd.underlying26
  go_enter Tryd.func85, Tryd.ntmps85
  go_wp2_with fail
  generalize (w.alloc (.cells #[.int .i64 c, .slice a n cap] 26)) = w1 at *
  refine I.out.mono ?_
  rintro e w2 ⟨rfl, b2⟩
  have B2 := Lib.hid (B0.out.trans (b2.mono B0.out.size))
  have d0 := (BX.out.up b2).c0
  have d1 := (BX.out.up b2).c1
  clear b2
  cases hi : isMat c n G with
  | false =>
    have E : Hid (fewCode c n G = 1) := Lib.hid (by unfold fewCode; rw [hi]; rfl)
    clear hi
    go_wp2_with fail
    go_ret
    exact ⟨by rw [E.out]; rfl, B2.out⟩
  | true =>
    by_cases h6 : n ≤ 60
    · have E : Hid (fewCode c n G = 0) := Lib.hid (by unfold fewCode; rw [hi, if_pos h6]; rfl)
      clear hi
      have h6' : ¬ (60 : Int) < (n : Int) := by omega
      go_wp2_with fail
      go_ret
      exact ⟨by rw [E.out]; rfl, B2.out⟩
    · have E : Hid (fewCode c n G = 2) := Lib.hid (by unfold fewCode; rw [hi, if_neg h6]; rfl)
      clear hi
      have h6' : (60 : Int) < (n : Int) := by omega
      go_wp2_with fail
      go_ret
      exact ⟨by rw [E.out]; rfl, B2.out⟩

theorem digit_any (r : Int) (j : Nat) (w : World) (hj : j ≤ 60) :
    Calls Tryd.prog 84 #[.int .i64 r, .int .i64 j] w fun e w' => e = .returned (.int .i64 (bits .and .i64 (r / 2 ^ j) 1)) ∧ w = w' := by
  go_enter Tryd.func84, Tryd.ntmps84
  go_wp2
  go_ret
  exact ⟨rfl, rfl⟩

/-- The sum of the rows that x tells. -/
def tmB (x : Int) (j : Nat) : Bool := bits .and .i64 (x / 2 ^ j) 1 == 1
def tm (x : Int) (G : Nat → Int) : Nat → Int
  | 0 => 0
  | i + 1 => if tmB x i = true then bits .xor .i64 (tm x G i) (G i) else tm x G i

theorem implTimes_any (x c : Int) (s : Value) (n : Nat) (G : Nat → Int) (w : World) (h : RdI w s n G) (hn : n ≤ 60) :
    Calls Tryd.prog 80 #[.int .i64 x, .agg #[.int .i64 c, s]] w fun e w' => e = .returned (.int .i64 (tm x G n)) ∧ Below w.heap.size w w' := by
  obtain ⟨B0, BX, R⟩ := box_start (t := 26) (c := c) h
  have B0 := Lib.hid B0
  obtain ⟨a, cap, rfl, hm, hc⟩ := R
  have HC := Lib.hid hc
  clear hc BX h
  have t2 := Tryd.underlying26
  go_enter Tryd.func80, Tryd.ntmps80
  go_wp2
  generalize (w.alloc (.cells #[.int .i64 c, .slice a n cap] 26)) = w1 at *
  go_loop [5, 6, 7, 11, 18, 19] (fun t _ _ i _ _ => ∃ j : Nat, j ≤ n ∧ i = .int .i64 j ∧ t = .int .i64 (tm x G j)) (fun _ _ _ i _ _ => n - (intOf i).toNat)
  case atStart => exact ⟨0, by omega, rfl, rfl⟩
  case round =>
    obtain ⟨j, hj, rfl, rfl⟩ := hrel
    by_cases hlt : j < n
    · have hlt' : (j : Int) < (n : Int) := by omega
      obtain ⟨b, off, rfl, hc⟩ := HC.out.resolve_left (by omega)
      have c1 := hc j hlt
      clear hc
      have D := Lib.hid (fun w => digit_any x j w (by omega))
      cases hb : tmB x j with
      | true =>
        have HT : Hid (tm x G (j + 1) = bits .xor .i64 (tm x G j) (G j)) := Lib.hid (by rw [tm, if_pos hb])
        have hb2 : (bits .and .i64 (x / 2 ^ j) 1 == 1) = true := hb
        clear hb
        generalize bits .and .i64 (x / 2 ^ j) 1 = d at D hb2
        generalize G j = y at c1 HT
        generalize tm x G j = t at HT ⊢
        go_wp2_with (go_at_call 84; refine (D.out _).mono ?_; rintro e w' ⟨rfl, rfl⟩)
        go_round
        case rel => exact ⟨j + 1, by omega, by go_num, by rw [HT.out]⟩
        case measure => simp [intOf]; omega
      | false =>
        have HT : Hid (tm x G (j + 1) = tm x G j) := Lib.hid (by rw [tm, if_neg (by rw [hb]; simp)])
        have hb2 : (bits .and .i64 (x / 2 ^ j) 1 == 1) = false := hb
        clear hb
        generalize bits .and .i64 (x / 2 ^ j) 1 = d at D hb2
        generalize G j = y at c1
        generalize tm x G j = t at HT ⊢
        go_wp2_with (go_at_call 84; refine (D.out _).mono ?_; rintro e w' ⟨rfl, rfl⟩)
        go_round
        case rel => exact ⟨j + 1, by omega, by go_num, by rw [HT.out]⟩
        case measure => simp [intOf]; omega
    · obtain rfl : j = n := by omega
      go_wp2
      go_ret
      exact ⟨rfl, B0.out⟩

theorem specTimes_any (x : Int) (s : Value) (n : Nat) (G : Nat → Int) (w : World) (h : RdI w s n G) (hn : n ≤ 60) :
    Calls Tryd.prog 82 #[.int .i64 x, s] w fun e w' => e = .returned (.int .i64 (tm x G n)) ∧ w = w' := by
  obtain ⟨a, cap, rfl, hm, hc⟩ := h
  have HC := Lib.hid hc
  clear hc
  go_enter Tryd.func82, Tryd.ntmps82
  go_wp2
  go_loop [5, 6] (fun t i => ∃ j : Nat, j ≤ n ∧ i = .int .i64 j ∧ t = .int .i64 (tm x G j)) (fun _ i => n - (intOf i).toNat)
  case atStart => exact ⟨0, by omega, rfl, rfl⟩
  case round =>
    obtain ⟨j, hj, rfl, rfl⟩ := hrel
    by_cases hlt : j < n
    · have hlt' : (j : Int) < (n : Int) := by omega
      obtain ⟨b, off, rfl, hc⟩ := HC.out.resolve_left (by omega)
      have c1 := hc j hlt
      clear hc
      cases hb : tmB x j with
      | true =>
        have HT : Hid (tm x G (j + 1) = bits .xor .i64 (tm x G j) (G j)) := Lib.hid (by rw [tm, if_pos hb])
        have hb2 : (bits .and .i64 (x / 2 ^ j) 1 == 1) = true := hb
        clear hb
        generalize G j = y at c1 HT
        generalize tm x G j = t at HT ⊢
        go_wp2
        go_round
        case rel => exact ⟨j + 1, by omega, by go_num, by rw [HT.out]⟩
        case measure => simp [intOf]; omega
      | false =>
        have HT : Hid (tm x G (j + 1) = tm x G j) := Lib.hid (by rw [tm, if_neg (by rw [hb]; simp)])
        have hb2 : (bits .and .i64 (x / 2 ^ j) 1 == 1) = false := hb
        clear hb
        generalize G j = y at c1
        generalize tm x G j = t at HT ⊢
        go_wp2
        go_round
        case rel => exact ⟨j + 1, by omega, by go_num, by rw [HT.out]⟩
        case measure => simp [intOf]; omega
    · obtain rfl : j = n := by omega
      go_wp2
      go_ret
      exact ⟨rfl, rfl⟩
end Go.Proofs.YtdojblmffmefgaaDoor
