/-
  The excess of words: contracts of spec.ExcessOf and impl.ExcessOf.
-/
import Derived.Test.YtfmnlapnbhcacaaWWord
import Derived.Deep.QuietTactic
import Derived.BigQuiet
namespace Go.Proofs.Ytfmnlapnbhcacaa
open Go.RowKit
set_option maxRecDepth 100000
set_option linter.unusedVariables false

/-- A call that only reads answers v. -/
def Tells (v : Value) (w : World) (e : Ending) (w' : World) : Prop := e = .returned v ∧ ∃ q, w' = w.drewN q

/-- The excess. -/
def exc (G : Nat → Int) (n : Nat) : Int := if n = 0 then 0 else 2 * G 0 - dsum G n

theorem excessOfWord_some (v : Value) (n : Nat) (G : Nat → Int) (w : World) (h : RdI w v n G) (hl : n ≤ 1000) (hok : ∀ i, i < n → okRange G i) :
    Calls Try.prog 107 #[v] w (Tells (.int .i64 (exc G n)) w) := by
  have hd : ∀ i, i ≤ n → 0 ≤ dsum G i ∧ dsum G i ≤ 1000000 := fun i hi => by have := dsum_range G n i hi hok; omega
  have E : ∀ q, Calls Try.prog 102 #[v] (w.drewN q) fun e w' => e = .returned (.int .i64 (dsum G n)) ∧ ∃ p, w' = (w.drewN q).drewN p := fun q =>
    (degreeOfWord_any v n G (w.drewN q) (h.drewN q) hd).mono fun e w' ⟨he, hw⟩ => ⟨he, 0, hw.symm⟩
  have E := Lib.hid E
  obtain ⟨a, cap, rfl, hm, hc⟩ := h
  by_cases h0 : n = 0
  · subst h0
    have hx : Hid (exc G 0 = 0) := Lib.hid rfl
    rw [hx.out]
    clear hc hd E hx
    go_enter Try.func107, Try.ntmps107
    go_wp2
    go_ret
    exact ⟨rfl, 0, rfl⟩
  · obtain ⟨b, off, rfl, hc'⟩ := hc.resolve_left h0
    have c1 := hc' 0 (by omega)
    rw [Nat.add_zero] at c1
    have hx : exc G n = 2 * G 0 - dsum G n := if_neg h0
    rw [hx]
    have h1 := hok 0 (by omega)
    unfold okRange at h1
    have h2 := hd n (Nat.le_refl _)
    have hz : ((n : Int) == 0) = false := by rw [beq_eq_false_iff_ne]; omega
    have hp : (0 : Int) < (n : Int) := by omega
    clear hc hc' hd hok hx h0
    generalize dsum G n = y at *
    generalize G 0 = x at *
    go_enter Try.func107, Try.ntmps107
    go_wp2
    go_quiet ((go_at_call 102; exact Calls.quiet_of (E.out _)))
    go_wp2
    go_ret
    exact ⟨by go_num, nq, rfl⟩

theorem l03Excess_some (v : Value) (n : Nat) (G : Nat → Int) (w : World) (h : RdI w v n G) (hl : n ≤ 1000) (hok : ∀ i, i < n → okRange G i) :
    Calls Try.prog 106 #[v] w (Tells (.int .i64 (exc G n)) w) := by
  have hd : ∀ i, i ≤ n → 0 ≤ dsum G i ∧ dsum G i ≤ 1000000 := fun i hi => by have := dsum_range G n i hi hok; omega
  have E : ∀ q, Calls Try.prog 111 #[v] (w.drewN q) fun e w' => e = .returned (.int .i64 (dsum G n)) ∧ ∃ p, w' = (w.drewN q).drewN p := fun q =>
    (l03Degree_any v n G (w.drewN q) (h.drewN q) hd).mono fun e w' ⟨he, hw⟩ => ⟨he, 0, hw.symm⟩
  have E := Lib.hid E
  obtain ⟨a, cap, rfl, hm, hc⟩ := h
  by_cases h0 : n = 0
  · subst h0
    have hx : Hid (exc G 0 = 0) := Lib.hid rfl
    rw [hx.out]
    clear hc hd E hx
    go_enter Try.func106, Try.ntmps106
    go_wp2
    go_ret
    exact ⟨rfl, 0, rfl⟩
  · obtain ⟨b, off, rfl, hc'⟩ := hc.resolve_left h0
    have c1 := hc' 0 (by omega)
    rw [Nat.add_zero] at c1
    have hx : exc G n = 2 * G 0 - dsum G n := if_neg h0
    rw [hx]
    have h1 := hok 0 (by omega)
    unfold okRange at h1
    have h2 := hd n (Nat.le_refl _)
    have hz : ((n : Int) == 0) = false := by rw [beq_eq_false_iff_ne]; omega
    have hp : (0 : Int) < (n : Int) := by omega
    clear hc hc' hd hok hx h0
    generalize dsum G n = y at *
    generalize G 0 = x at *
    go_enter Try.func106, Try.ntmps106
    go_wp2
    go_quiet ((go_at_call 111; exact Calls.quiet_of (E.out _)))
    go_wp2
    go_ret
    exact ⟨by go_num, nq, rfl⟩

theorem excessOfWord_any (v : Value) (n : Nat) (G : Nat → Int) (w : World) (h : RdI w v n G) (hok : okWord G n) : Calls Try.prog 107 #[v] w (Tells (.int .i64 (exc G n)) w) :=
  excessOfWord_some v n G w h (by have := hok.1; omega) hok.le
theorem l03Excess_any (v : Value) (n : Nat) (G : Nat → Int) (w : World) (h : RdI w v n G) (hok : okWord G n) : Calls Try.prog 106 #[v] w (Tells (.int .i64 (exc G n)) w) :=
  l03Excess_some v n G w h (by have := hok.1; omega) hok.le

theorem specExc_ok (v : Value) (n : Nat) (G : Nat → Int) (w : World) (h : RdI w v n G) (hok : okWord G n) :
    Calls Try.prog 54 #[v] w (Tells (.tuple #[.int .i64 (exc G n), .int .i64 0]) w) := by
  have W := Lib.hid (l03Word_yes v n G w h hok)
  have A := Lib.hid (l03Excess_any v n G w h hok)
  clear h hok
  go_enter Try.func54, Try.ntmps54
  go_wp2_with fail
  refine W.out.mono ?_
  rintro e w' ⟨rfl, rfl⟩
  go_wp2_with fail
  refine A.out.mono ?_
  rintro e w' ⟨rfl, q, rfl⟩
  go_wp2_with fail
  go_ret2
  exact ⟨rfl, q, rfl⟩
theorem specExc_bad (v : Value) (n : Nat) (G : Nat → Int) (w : World) (h : RdI w v n G) (hok : ¬ okWord G n) :
    Calls Try.prog 54 #[v] w (Tells (.tuple #[.int .i64 0, .int .i64 1]) w) := by
  have W := Lib.hid (l03Word_no v n G w h hok)
  clear h hok
  go_enter Try.func54, Try.ntmps54
  go_wp2_with fail
  refine W.out.mono ?_
  rintro e w' ⟨rfl, rfl⟩
  go_wp2_with fail
  go_ret2
  exact ⟨rfl, 0, rfl⟩

theorem implExc_ok (v : Value) (n : Nat) (G : Nat → Int) (w : World) (h : RdI w v n G) (hok : okWord G n) (hb : ∀ i, -9223372036854775808 ≤ G i ∧ G i ≤ 9223372036854775807) :
    Calls Try.prog 55 #[v] w (Tells (.tuple #[.int .i64 (exc G n), .int .i64 0]) w) := by
  have W := Lib.hid (isWord_yes v n G w h hok)
  have A := Lib.hid (excessOfWord_any v n G w h hok)
  clear h hok
  go_enter Try.func55, Try.ntmps55
  go_wp2_with fail
  refine W.out.mono ?_
  rintro e w' ⟨rfl, rfl⟩
  go_wp2_with fail
  refine A.out.mono ?_
  rintro e w' ⟨rfl, q, rfl⟩
  go_wp2_with fail
  go_ret2
  exact ⟨rfl, q, rfl⟩
theorem implExc_bad (v : Value) (n : Nat) (G : Nat → Int) (w : World) (h : RdI w v n G) (hok : ¬ okWord G n) (hb : ∀ i, -9223372036854775808 ≤ G i ∧ G i ≤ 9223372036854775807) :
    Calls Try.prog 55 #[v] w (Tells (.tuple #[.int .i64 0, .int .i64 1]) w) := by
  have W := Lib.hid (isWord_no v n G w h hok)
  clear h hok
  go_enter Try.func55, Try.ntmps55
  go_wp2_with fail
  refine W.out.mono ?_
  rintro e w' ⟨rfl, rfl⟩
  go_wp2_with fail
  go_ret2
  exact ⟨rfl, 0, rfl⟩

theorem exc_both (n : Nat) (G : Nat → Int) (hb : ∀ i, -9223372036854775808 ≤ G i ∧ G i ≤ 9223372036854775807) : ∃ r c : Int,
    (∀ v w, RdI w v n G → Calls Try.prog 54 #[v] w (Tells (.tuple #[.int .i64 r, .int .i64 c]) w)) ∧
    (∀ v w, RdI w v n G → Calls Try.prog 55 #[v] w (Tells (.tuple #[.int .i64 r, .int .i64 c]) w)) := by
  by_cases hok : okWord G n
  · exact ⟨_, 0, fun v w h => specExc_ok v n G w h hok, fun v w h => implExc_ok v n G w h hok hb⟩
  · exact ⟨0, 1, fun v w h => specExc_bad v n G w h hok, fun v w h => implExc_bad v n G w h hok hb⟩
end Go.Proofs.Ytfmnlapnbhcacaa
