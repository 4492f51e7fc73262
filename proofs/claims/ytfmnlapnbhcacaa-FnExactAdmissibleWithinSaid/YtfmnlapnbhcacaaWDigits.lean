/-
  Contract of spec.l01Digits: the places of the digits 1, in new memory.
-/
import Derived.Test.YtfmnlapnbhcacaaRows
import Derived.Test.YtfmnlapnbhcacaaWOwnB
import Derived.Test.YtfmnlapnbhcacaaPlainOnes
import Derived.WalkLawsBesides
import Derived.WalkSpells
import Derived.Lib.Hide
namespace Go.Proofs.Ytfmnlapnbhcacaa
open Go.RowKit
set_option maxRecDepth 100000
set_option linter.unusedVariables false

theorem dg_next (n i m : Nat) (h : m = n / 2 ^ i) (l : List Int) (hl : l = dg n i) : (m % 2 = 1 → l ++ [(i : Int)] = dg n (i + 1)) ∧ (m % 2 = 0 → l = dg n (i + 1)) ∧ m / 2 = n / 2 ^ (i + 1) := by
  subst h hl
  refine ⟨fun h => ?_, fun h => ?_, ?_⟩
  · rw [dg, if_pos h]
  · rw [dg, if_neg (by omega), List.append_nil]
  · rw [Nat.div_div_eq_div_mul, Nat.pow_succ]

theorem i_lt (n i m : Nat) (h : m = n / 2 ^ i) (hn : n < 9223372036854775808) (hm : 0 < m) : i < 63 := by
  apply Decidable.byContradiction
  intro hc
  have : 2 ^ 63 ≤ 2 ^ i := Nat.pow_le_pow_right (by decide) (by omega)
  have : n / 2 ^ i = 0 := Nat.div_eq_of_lt (by omega)
  omega

theorem dg_end (n i m : Nat) (h : m = n / 2 ^ i) (hi : i ≤ 64) (hm : m = 0) : dg n i = dg n 64 := by
  have e : 64 = i + (64 - i) := by omega
  rw [e, dg_stop n i (by omega)]

theorem l01Digits_any (n : Nat) (w : World) (hx : n < 9223372036854775808) :
    Calls Try.prog 81 #[.int .i64 n] w fun e w' => ∃ v, e = .returned v ∧ w'.ownsRow w.heap.size 2 1 v (dg n 64).length ((dg n 64).map (Value.int .i64)) ∧ Below w.heap.size w w' := by
  obtain ⟨i0, hi, hz0, hz1, hz2⟩ := info_parts Try.info2
  go_enter Try.func81, Try.ntmps81
  go_wp2
  go_loopw [0, 3, 4] (fun a v c wr => ∃ i m : Nat, ∃ l : List Int, i ≤ 63 ∧ Hid (m = n / 2 ^ i) ∧ m ≤ n ∧ Hid (l = dg n i) ∧ l.length ≤ i ∧ a = .int .i64 m ∧ c = .int .i64 i ∧ wr.ownsRow w.heap.size 2 1 v l.length (l.map (Value.int .i64)) ∧ Below w.heap.size w wr)
    (fun a _ _ _ => (intOf a).toNat)
  case atStart =>
    refine ⟨0, n, [], by omega, Lib.hid (by simp), Nat.le_refl _, Lib.hid rfl, Nat.le_refl _, rfl, rfl, ?_, (Below.refl _ _).alloc (Nat.le_refl _) _⟩
    exact World.ownsRow_made w #[] 0 (Nat.le_refl _) (by decide) (by simp)
  case round =>
    obtain ⟨i, m, l, hi63, hm, hmn, hl, hll, rfl, rfl, hown, hbel⟩ := hrel
    by_cases hpos : 0 < m
    · have hnext := dg_next n i m hm.out l hl.out
      have hlt := i_lt n i m hm.out hx hpos
      have hmod : m % 2 = 1 ∨ m % 2 = 0 := by omega
      have hsz := hbel.size
      rcases hmod with h1 | h1
      · have H1 := Lib.hid (hnext.1 h1)
        have H2 := Lib.hid hnext.2.2
        have hb1 : (((m : Int) % 2) == 1) = true := by rw [beq_iff_eq]; omega
        clear hnext h1
        go_wp2_with (at_builtin; refine wpList_append_own _ rfl _ _ 27 rfl w.heap.size 2 i0 (.int .i64 0) 1 8 Try.underlying27 hi hz0 hz1 hz2 rfl (by decide) _ _ _ rfl (hown.alloc _) ⟨wr.heap.size, 0, none⟩ 1 1 [.int .i64 (i : Int)] rfl rfl ?c1 ?c2 ?c3 ?c4 ?c5 ?_)
        case c1 =>
          intro j u hj
          match j, hj with
          | 0, hj => simp at hj; subst hj; simp [Addr.add]
        case c2 => intro u hu; simp at hu; subst hu; rfl
        case c3 => unfold maxLen; omega
        case c4 => omega
        case c5 => simp; omega
        intro v' w1 hown' hgrow _
        have hb' : Below w.heap.size w w1 := (hbel.alloc hsz _).grown hgrow (by simp; omega) (fun k hk => (hown.lt k hk).1)
        clear hgrow hbel hown
        go_wp2
        go_roundw
        case rel => exact ⟨i + 1, m / 2, l ++ [(i : Int)], by omega, H2, by omega, H1, by simp; omega, by go_num, by go_num, by simpa using hown', hb'⟩
        case measure => simp [intOf]; omega
      · have H1 := Lib.hid (hnext.2.1 h1)
        have H2 := Lib.hid hnext.2.2
        have hb1 : (((m : Int) % 2) == 1) = false := by rw [beq_eq_false_iff_ne]; omega
        clear hnext h1
        go_wp2
        go_roundw
        case rel => exact ⟨i + 1, m / 2, l, by omega, H2, by omega, H1, by omega, by go_num, by go_num, hown, hbel⟩
        case measure => simp [intOf]; omega
    · have H := Lib.hid (dg_end n i m hm.out (by omega) (by omega))
      go_wp2
      go_ret
      exact ⟨_, rfl, by rw [← H.out, ← hl.out]; exact hown, hbel⟩
end Go.Proofs.Ytfmnlapnbhcacaa
