/-
  Contract of impl.DigitsOf.
-/
import Derived.Test.YtnfhfilconcajaaWDigits
import Derived.Test.YtnfhfilconcajaaWSmall
namespace Go.Proofs.Ytnfhfilconcajaa
open Go.RowKit
set_option maxRecDepth 100000
set_option linter.unusedVariables false

theorem pow_div (n i : Nat) : ((n : Int) / 2 ^ i) = ((n / 2 ^ i : Nat) : Int) := by
  rw [Int.natCast_ediv]; simp
theorem and_one (m : Nat) (h : m < 2 ^ 63) : bits .and .i64 (m : Int) 1 = ((m % 2 : Nat) : Int) := by
  rw [show (1 : Int) = ((1 : Nat) : Int) from rfl, i64_and m 1 h (by decide), Nat.and_one_is_mod]
set_option maxRecDepth 100000 in
theorem implDigitsOf_any (n : Nat) (w : World) (hx : n ≤ 1000000000000) :
    Calls Try.prog 128 #[.int .i64 n] w fun e w' => ∃ v, e = .returned (.tuple #[v, .int .i64 0]) ∧ w'.ownsRow w.heap.size 2 1 v (dg n 64).length ((dg n 64).map (Value.int .i64)) ∧ Below w.heap.size w w' := by
  obtain ⟨i0, hi, hz0, hz1, hz2⟩ := info_parts Try.info2
  have h0 : (0 : Int) ≤ (n : Int) := by omega
  have h1 : (n : Int) ≤ 1000000000000 := by omega
  go_enter Try.func128, Try.ntmps128
  go_wp2_with (go_at_call 116; refine (isNumber_yes _ _ h0 h1).mono ?_; rintro e w' ⟨rfl, rfl⟩)
  go_loopw [4, 5] (fun v c wr => ∃ i m : Nat, ∃ l : List Int, i ≤ 63 ∧ Hid (m = n / 2 ^ i) ∧ m ≤ n ∧ Hid (l = dg n i) ∧ l.length ≤ i ∧ c = .int .i64 i ∧ wr.ownsRow w.heap.size 2 1 v l.length (l.map (Value.int .i64)) ∧ Below w.heap.size w wr)
    (fun _ c _ => 64 - (intOf c).toNat)
  case atStart => exact ⟨0, n, [], by omega, Lib.hid (by simp), Nat.le_refl _, Lib.hid rfl, Nat.le_refl _, rfl, World.ownsRow_nil _ _ _ _, Below.refl _ _⟩
  case round =>
    obtain ⟨i, m, l, hi63, hm, hmn, hl, hll, rfl, hown, hbel⟩ := hrel
    have hsz := hbel.size
    have he : ((n : Int) / 2 ^ i) = (m : Int) := by rw [hm.out]; exact (pow_div n i)
    by_cases hpos : 0 < m
    · have hnext := dg_next n i m hm.out l hl.out
      have hlt := i_lt n i m hm.out (by omega) hpos
      have hmod : m % 2 = 1 ∨ m % 2 = 0 := by omega
      have hb0 : ((m : Int) != 0) = true := by rw [bne_iff_ne]; omega
      have hb2 := and_one m (by omega)
      have H2 := Lib.hid hnext.2.2
      rcases hmod with h1 | h1
      · have H1 := Lib.hid (hnext.1 h1)
        have hb1 : (bits .and .i64 (m : Int) 1 == 1) = true := by rw [hb2, beq_iff_eq]; omega
        clear hnext h1 hb2
        go_wp2_with (at_builtin; refine wpList_append_own _ rfl _ _ 53 rfl w.heap.size 2 i0 (.int .i64 0) 1 8 Try.underlying53 hi hz0 hz1 hz2 rfl (by decide) _ _ _ rfl (hown.alloc _) ⟨wr.heap.size, 0, none⟩ 1 1 [.int .i64 (i : Int)] rfl rfl ?c1 ?c2 ?c3 ?c4 ?c5 ?_)
        case c1 =>
          intro j u hj
          match j, hj with
          | 0, hj => simp at hj; subst hj; simp [Addr.add]
        case c2 => intro u hu; simp at hu; subst hu; rfl
        case c3 => unfold maxLen; omega
        case c4 => omega
        case c5 => simp; omega
        intro v' w1 hown' hgrow _
        have hb' : Below w.heap.size w w1 := (hbel.alloc hsz _).grown hgrow (by simp; omega) (fun k hk => (hown.lt k hk).1)
        clear hgrow hbel hown
        go_wp2
        go_roundw
        case rel => exact ⟨i + 1, m / 2, l ++ [(i : Int)], by omega, H2, by omega, H1, by simp; omega, by go_num, by simpa using hown', hb'⟩
        case measure => simp [intOf]; omega
      · have H1 := Lib.hid (hnext.2.1 h1)
        have hb1 : (bits .and .i64 (m : Int) 1 == 1) = false := by rw [hb2, beq_eq_false_iff_ne]; omega
        clear hnext h1 hb2
        go_wp2
        go_roundw
        case rel => exact ⟨i + 1, m / 2, l, by omega, H2, by omega, H1, by omega, by go_num, hown, hbel⟩
        case measure => simp [intOf]; omega
    · have H := Lib.hid (dg_end n i m hm.out (by omega) (by omega))
      have hb0 : ((m : Int) != 0) = false := by rw [bne_eq_false_iff_eq]; omega
      go_wp2
      go_ret2
      exact ⟨_, rfl, by rw [← H.out, ← hl.out]; exact hown, hbel⟩
end Go.Proofs.Ytnfhfilconcajaa
