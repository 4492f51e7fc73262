/-
  Contracts of spec.MultinomialParity and impl.MultinomialParity, and the walk of laws.FnExactMultinomialParity.
-/
import Derived.Test.YtfhfnjcfkpcmnaaWMulti
namespace Go.Proofs.Ytfhfnjcfkpcmnaa
open Go.RowKit
set_option linter.unusedVariables false

theorem implMulti_long (v : Value) (n : Nat) (G : Nat → Int) (w : World) (h : RdI w v n G) (hn : 20 < n) :
    Calls Try.prog 21 #[v] w fun e w' => e = .returned (.tuple #[.int .i64 0, .int .i64 2]) ∧ w = w' := by
  obtain ⟨a, cap, rfl, hm, hc⟩ := h
  clear hc
  have hn' : (20 : Int) < (n : Int) := by omega
  go_enter Try.func21, Try.ntmps21
  go_wp2
  go_ret2
  exact ⟨rfl, rfl⟩

theorem implMulti_bad (v : Value) (n : Nat) (G : Nat → Int) (w : World) (h : RdI w v n G) (hn : n ≤ 20) (hok : ¬ okNums G n) :
    Calls Try.prog 21 #[v] w fun e w' => e = .returned (.tuple #[.int .i64 0, .int .i64 2]) ∧ w = w' := by
  have A := Lib.hid (areNumbers_no v n G w h hok)
  obtain ⟨a, cap, rfl, hm, hc⟩ := h
  clear hc hok
  have hn' : (n : Int) ≤ 20 := by omega
  go_enter Try.func21, Try.ntmps21
  go_wp2_with (go_at_call 67; refine A.out.mono ?_; rintro e w' ⟨rfl, rfl⟩)
  go_ret2
  exact ⟨rfl, rfl⟩

theorem implMulti_ok (v : Value) (n : Nat) (G : Nat → Int) (w : World) (h : RdI w v n G) (hn : n ≤ 20) (hok : okNums G n) (hap : apt G n) :
    Calls Try.prog 21 #[v] w fun e w' => e = .returned (.tuple #[.int .i64 1, .int .i64 0]) ∧ w = w' := by
  have A := Lib.hid (areNumbers_yes v n G w h hok)
  obtain ⟨a, cap, rfl, hm, hc⟩ := h
  have hn' : (n : Int) ≤ 20 := by omega
  by_cases h0 : n = 0
  · subst h0
    clear hc hok hap
    go_enter Try.func21, Try.ntmps21
    go_wp2_with (go_at_call 67; refine A.out.mono ?_; rintro e w' ⟨rfl, rfl⟩)
    refine wp_loop_rounds 1 ?_
    rw [rounds_succ]
    go_wp2
    go_ret2
    exact ⟨rfl, rfl⟩
  · obtain ⟨b, off, rfl, hc'⟩ := hc.resolve_left h0
    have HC := Lib.hid hc'
    have HO := Lib.hid hap
    clear hc hc' h0 hap hok
    go_enter Try.func21, Try.ntmps21
    go_wp2_with (go_at_call 67; refine A.out.mono ?_; rintro e w' ⟨rfl, rfl⟩)
    clear A
    go_loop [4, 6, 17] (fun t _ c => ∃ j : Nat, j ≤ n ∧ c = .int .i64 j ∧ t = .int .i64 (tk G j)) (fun _ _ c => n - (intOf c).toNat)
    case atStart => exact ⟨0, by omega, rfl, rfl⟩
    case round =>
      obtain ⟨j, hj, rfl, rfl⟩ := hrel
      by_cases hlt : j < n
      · have hlt' : (j : Int) < (n : Int) := by omega
        have c1 := HC.out j hlt
        have h1 := HO.out j hlt
        have HT : Hid (tk G (j + 1) = bits .or .i64 (tk G j) (G j)) := Lib.hid rfl
        generalize G j = x at c1 h1 HT
        generalize tk G j = y at h1 HT ⊢
        go_wp2
        go_round
        case rel => exact ⟨j + 1, by omega, by go_num, by rw [HT.out]⟩
        case measure => simp [intOf]; omega
      · go_wp2
        go_ret2
        exact ⟨rfl, rfl⟩

theorem implMulti_not (v : Value) (n : Nat) (G : Nat → Int) (w : World) (h : RdI w v n G) (hn : n ≤ 20) (hok : okNums G n) (hap : ¬ apt G n) :
    Calls Try.prog 21 #[v] w fun e w' => e = .returned (.tuple #[.int .i64 0, .int .i64 0]) ∧ w = w' := by
  have A := Lib.hid (areNumbers_yes v n G w h hok)
  obtain ⟨a, cap, rfl, hm, hc⟩ := h
  have hn' : (n : Int) ≤ 20 := by omega
  obtain ⟨q, hq, hbad, hok'⟩ := apt_not hap
  obtain ⟨b, off, rfl, hc'⟩ := hc.resolve_left (by omega)
  have HC := Lib.hid hc'
  have HO := Lib.hid hok'
  have HB := Lib.hid hbad
  clear hc hc' hap hok hok' hbad
  go_enter Try.func21, Try.ntmps21
  go_wp2_with (go_at_call 67; refine A.out.mono ?_; rintro e w' ⟨rfl, rfl⟩)
  clear A
  go_loop [4, 6, 17] (fun t _ c => ∃ j : Nat, j ≤ q ∧ c = .int .i64 j ∧ t = .int .i64 (tk G j)) (fun _ _ c => n - (intOf c).toNat)
  case atStart => exact ⟨0, by omega, rfl, rfl⟩
  case round =>
    obtain ⟨j, hj, rfl, rfl⟩ := hrel
    have hlt' : (j : Int) < (n : Int) := by omega
    have c1 := HC.out j (by omega)
    by_cases hlt : j < q
    · have h1 := HO.out j hlt
      have HT : Hid (tk G (j + 1) = bits .or .i64 (tk G j) (G j)) := Lib.hid rfl
      generalize G j = x at c1 h1 HT
      generalize tk G j = y at h1 HT ⊢
      go_wp2
      go_round
      case rel => exact ⟨j + 1, by omega, by go_num, by rw [HT.out]⟩
      case measure => simp [intOf]; omega
    · obtain rfl : j = q := by omega
      have h1 := HB.out
      clear HB
      generalize G j = x at c1 h1
      generalize tk G j = y at h1 ⊢
      go_wp2
      go_ret2
      exact ⟨rfl, rfl⟩

theorem specMulti_long (v : Value) (n : Nat) (G : Nat → Int) (w : World) (h : RdI w v n G) (hn : 20 < n) :
    Calls Try.prog 22 #[v] w fun e w' => e = .returned (.tuple #[.int .i64 0, .int .i64 2]) ∧ w = w' := by
  obtain ⟨a, cap, rfl, hm, hc⟩ := h
  clear hc
  have hn' : (20 : Int) < (n : Int) := by omega
  go_enter Try.func22, Try.ntmps22
  go_wp2
  go_ret2
  exact ⟨rfl, rfl⟩

theorem specMulti_bad (v : Value) (n : Nat) (G : Nat → Int) (w : World) (h : RdI w v n G) (hn : n ≤ 20) (hok : ¬ okNums G n) :
    Calls Try.prog 22 #[v] w fun e w' => e = .returned (.tuple #[.int .i64 0, .int .i64 2]) ∧ w = w' := by
  obtain ⟨a, cap, rfl, hm, hc⟩ := h
  have hn' : (n : Int) ≤ 20 := by omega
  obtain ⟨q, hq, hbad, hok'⟩ := okNums_not hok
  obtain ⟨b, off, rfl, hc'⟩ := hc.resolve_left (by omega)
  have HC := Lib.hid hc'
  have HO := Lib.hid hok'
  have HB := Lib.hid hbad
  clear hc hc' hok hok' hbad
  go_enter Try.func22, Try.ntmps22
  go_wp2
  go_loop [4] (fun c => ∃ j : Nat, j ≤ q ∧ c = .int .i64 j) (fun c => n - (intOf c).toNat)
  case atStart => exact ⟨0, by omega, rfl⟩
  case round =>
    obtain ⟨j, hj, rfl⟩ := hrel
    have hlt' : (j : Int) < (n : Int) := by omega
    have c1 := HC.out j (by omega)
    by_cases hlt : j < q
    · have h1 := (HO.out j hlt).1
      have h2 := (HO.out j hlt).2
      generalize G j = x at c1 h1 h2
      go_wp2_with (go_at_call 64; refine (l01In_yes _ _ _ _ h1 h2).mono ?_; rintro e w' ⟨rfl, rfl⟩)
      go_round
      case rel => exact ⟨j + 1, by omega, by go_num⟩
      case measure => simp [intOf]; omega
    · obtain rfl : j = q := by omega
      generalize G j = x at c1 HB
      go_wp2_with (go_at_call 64; refine (l01In_no _ _ _ _ HB.out).mono ?_; rintro e w' ⟨rfl, rfl⟩)
      go_ret2
      exact ⟨rfl, rfl⟩

theorem specMulti_good (v : Value) (n : Nat) (G : Nat → Int) (w : World) (h : RdI w v n G) (hn : n ≤ 20) (hok : okNums G n) (x : Int) (r : Bool) (hx : x = if r then 1 else 0)
    (A : Calls Try.prog 68 #[v] w fun e w' => e = .returned (.bool r) ∧ w = w') :
    Calls Try.prog 22 #[v] w fun e w' => e = .returned (.tuple #[.int .i64 x, .int .i64 0]) ∧ w = w' := by
  have A := Lib.hid A
  have HX := Lib.hid hx
  clear hx
  obtain ⟨a, cap, rfl, hm, hc⟩ := h
  have hn' : (n : Int) ≤ 20 := by omega
  by_cases h0 : n = 0
  · subst h0
    clear hc hok
    go_enter Try.func22, Try.ntmps22
    go_wp2
    refine wp_loop_rounds 1 ?_
    rw [rounds_succ]
    cases r
    · go_wp2_with (go_at_call 68; refine A.out.mono ?_; rintro e w' ⟨rfl, rfl⟩)
      go_ret2
      exact ⟨by rw [HX.out]; rfl, rfl⟩
    · go_wp2_with (go_at_call 68; refine A.out.mono ?_; rintro e w' ⟨rfl, rfl⟩)
      go_ret2
      exact ⟨by rw [HX.out]; rfl, rfl⟩
  · obtain ⟨b, off, rfl, hc'⟩ := hc.resolve_left h0
    have HC := Lib.hid hc'
    have HO := Lib.hid hok
    clear hc hc' h0 hok
    go_enter Try.func22, Try.ntmps22
    go_wp2
    go_loop [4] (fun c => ∃ j : Nat, j ≤ n ∧ c = .int .i64 j) (fun c => n - (intOf c).toNat)
    case atStart => exact ⟨0, by omega, rfl⟩
    case round =>
      obtain ⟨j, hj, rfl⟩ := hrel
      by_cases hlt : j < n
      · have hlt' : (j : Int) < (n : Int) := by omega
        have c1 := HC.out j hlt
        have h1 := (HO.out j hlt).1
        have h2 := (HO.out j hlt).2
        generalize G j = x at c1 h1 h2
        go_wp2_with (go_at_call 64; refine (l01In_yes _ _ _ _ h1 h2).mono ?_; rintro e w' ⟨rfl, rfl⟩)
        go_round
        case rel => exact ⟨j + 1, by omega, by go_num⟩
        case measure => simp [intOf]; omega
      · cases r
        · go_wp2_with (go_at_call 68; refine A.out.mono ?_; rintro e w' ⟨rfl, rfl⟩)
          go_ret2
          exact ⟨by rw [HX.out]; rfl, rfl⟩
        · go_wp2_with (go_at_call 68; refine A.out.mono ?_; rintro e w' ⟨rfl, rfl⟩)
          go_ret2
          exact ⟨by rw [HX.out]; rfl, rfl⟩

/-- Both return the same, whatever the numbers. -/
theorem multi_same (n : Nat) (G : Nat → Int) : ∃ x c : Int,
    (∀ v w, RdI w v n G → Calls Try.prog 22 #[v] w fun e w' => e = .returned (.tuple #[.int .i64 x, .int .i64 c]) ∧ w = w') ∧
    (∀ v w, RdI w v n G → Calls Try.prog 21 #[v] w fun e w' => e = .returned (.tuple #[.int .i64 x, .int .i64 c]) ∧ w = w') := by
  by_cases hn : n ≤ 20
  · by_cases hok : okNums G n
    · by_cases hap : apt G n
      · exact ⟨1, 0, fun v w h => specMulti_good v n G w h hn hok 1 true rfl (l01Apart_yes v n G w h hap), fun v w h => implMulti_ok v n G w h hn hok hap⟩
      · exact ⟨0, 0, fun v w h => specMulti_good v n G w h hn hok 0 false rfl (l01Apart_no v n G w h hap), fun v w h => implMulti_not v n G w h hn hok hap⟩
    · exact ⟨0, 2, fun v w h => specMulti_bad v n G w h hn hok, fun v w h => implMulti_bad v n G w h hn hok⟩
  · exact ⟨0, 2, fun v w h => specMulti_long v n G w h (by omega), fun v w h => implMulti_long v n G w h (by omega)⟩

theorem walk_FnExactMultinomialParity (a0 : Option Addr) (len0 cap0 : Nat) (z0 : List Int) (w : World) (w0 : IsRow .i64 w a0 len0 cap0 z0) :
    Calls Try.prog 6 #[.slice a0 len0 cap0] w fun e w' => e = .returned (.bool true) ∧ Below w.heap.size w w' := by
  have hr := w0.rd
  clear w0
  generalize (fun i => z0.getD i 0) = G at hr
  by_cases hbig : len0 ≤ 1048576
  · have hbig' : (len0 : Int) ≤ 1048576 := by omega
    obtain ⟨x, c, S, I⟩ := multi_same len0 G
    have S := Lib.hid S
    have I := Lib.hid I
    have R := Lib.hid hr
    clear hr
    go_enter Try.func6, Try.ntmps6
    go_wp2_with fail
    refine (toInt64S_any _ len0 G _ (by omega) R.out).mono ?_
    rintro e w1 ⟨v1, rfl, o1, b1⟩
    have r1 := (rd_of_own o1 (cpy_length G len0 len0).symm).congr (cpy_get G len0)
    go_wp2_with fail
    refine (S.out _ _ r1).mono ?_
    rintro e w2 ⟨rfl, rfl⟩
    go_wp2_with fail
    refine (toInt64S_any _ len0 G _ (by omega) (R.out.below b1)).mono ?_
    rintro e w3 ⟨v3, rfl, o3, b3⟩
    have r3 := (rd_of_own o3 (cpy_length G len0 len0).symm).congr (cpy_get G len0)
    have b13 := b1.trans (b3.mono b1.size)
    go_wp2_with fail
    refine (I.out _ _ r3).mono ?_
    rintro e w4 ⟨rfl, rfl⟩
    go_wp2_with fail
    refine (toInt64S_any _ len0 G _ (by omega) (R.out.below b13)).mono ?_
    rintro e w5 ⟨v5, rfl, o5, b5⟩
    have r5 := (rd_of_own o5 (cpy_length G len0 len0).symm).congr (cpy_get G len0)
    have b15 := b13.trans (b5.mono b13.size)
    go_wp2_with fail
    refine (eqInt64S_same _ _ len0 G _ (r3.below b5) r5).mono ?_
    rintro e w6 ⟨rfl, q, rfl⟩
    go_wp2_with fail
    go_ret
    exact ⟨rfl, below_drewN b15 q⟩
  · have hbig' : (1048576 : Int) < (len0 : Int) := by omega
    go_enter Try.func6, Try.ntmps6
    go_wp2
    go_ret
    exact ⟨rfl, Below.refl _ _⟩
end Go.Proofs.Ytfhfnjcfkpcmnaa
