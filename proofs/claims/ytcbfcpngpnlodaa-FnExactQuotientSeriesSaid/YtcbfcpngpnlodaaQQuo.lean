/-
  Plain: products of series, and the quotient series of a profile.
-/
import Derived.Test.YtcbfcpngpnlodaaQRow
namespace Go.Proofs.Ytcbfcpngpnlodaa
open Go.RowKit
set_option maxRecDepth 100000
set_option linter.unusedVariables false

/-- The sum of the first n numbers. -/
def sumTo (f : Nat → Int) : Nat → Int
  | 0 => 0
  | n + 1 => sumTo f n + f n
theorem sumTo_congr {f g : Nat → Int} : ∀ n, (∀ k, k < n → f k = g k) → sumTo f n = sumTo g n
  | 0, _ => rfl
  | n + 1, h => by rw [sumTo, sumTo, sumTo_congr n (fun k hk => h k (by omega)), h n (by omega)]
theorem sumTo_zero {f : Nat → Int} (a : Nat) : ∀ b, (∀ k, a ≤ k → k < a + b → f k = 0) → sumTo f (a + b) = sumTo f a
  | 0, _ => rfl
  | b + 1, h => by
    rw [← Nat.add_assoc, sumTo, sumTo_zero a b (fun k h1 h2 => h k h1 (by omega)), h (a + b) (by omega) (by omega), Int.add_zero]
theorem sumTo_sub (f g : Nat → Int) : ∀ n, sumTo (fun k => f k - g k) n = sumTo f n - sumTo g n
  | 0 => rfl
  | n + 1 => by rw [sumTo, sumTo, sumTo, sumTo_sub f g n]; omega
/-- The product of two series. -/
def convS (s t : Nat → Int) (n : Nat) : Int := sumTo (fun k => s k * t (n - k)) (n + 1)
theorem conv_sh (s t : Nat → Int) (k n : Nat) : convS s (shS k t) n = shS k (convS s t) n := by
  unfold convS
  by_cases h : k ≤ n
  · have e : shS k (convS s t) n = sumTo (fun i => s i * t (n - k - i)) (n - k + 1) := by unfold shS convS; rw [if_pos h]
    show _ = shS k (convS s t) n
    rw [e, show n + 1 = (n - k + 1) + k by omega, sumTo_zero (n - k + 1) k (fun i h1 h2 => by
      unfold shS; rw [if_neg (by omega), Int.mul_zero])]
    refine sumTo_congr _ fun i hi => ?_
    unfold shS
    rw [if_pos (by omega), show n - i - k = n - k - i by omega]
  · have e : shS k (convS s t) n = 0 := by unfold shS; rw [if_neg h]
    show _ = shS k (convS s t) n
    rw [e, ← Nat.zero_add (n + 1), sumTo_zero 0 (n + 1) (fun i h1 h2 => by unfold shS; rw [if_neg (by omega), Int.mul_zero])]
    rfl
theorem conv_exc (s t : Nat → Int) (k : Nat) : convS s (excS k t) = excS k (convS s t) := by
  funext n
  show sumTo (fun i => s i * (t (n - i) - shS k t (n - i))) (n + 1) = convS s t n - shS k (convS s t) n
  rw [← conv_sh]
  unfold convS
  rw [← sumTo_sub]
  refine sumTo_congr _ fun i _ => ?_
  rw [Int.mul_sub]
theorem conv_adm (s t : Nat → Int) {k : Nat} (hk : 0 < k) : convS s (admS k t) = admS k (convS s t) := by
  have h := conv_exc s (admS k t) k
  rw [exc_adm hk] at h
  rw [h, adm_exc hk]
theorem conv_one (s : Nat → Int) : convS s oneS = s := by
  funext n
  unfold convS
  rw [sumTo]
  have h : sumTo (fun k => s k * oneS (n - k)) n = 0 := by
    have := sumTo_zero (f := fun k => s k * oneS (n - k)) 0 n (fun k _ h2 => by unfold oneS; rw [if_neg (by omega), Int.mul_zero])
    rw [Nat.zero_add] at this
    rw [this]; rfl
  rw [h, Nat.sub_self]
  show 0 + s n * 1 = s n
  omega
/-- The steps of the places that a profile excludes. -/
def stQ (H : Nat → Nat) (i : Nat) : Nat := stS i * 2 ^ H i
theorem stQ_pos (H : Nat → Nat) (i : Nat) : 0 < stQ H i := Nat.mul_pos (stS_pos i) (Nat.pow_pos (by decide))
def admAll (H : Nat → Nat) (s : Nat → Int) : Nat → Nat → Int
  | 0 => s
  | j + 1 => admS (stQ H j) (admAll H s j)
theorem admAll_adm (H : Nat → Nat) (s : Nat → Int) {k : Nat} (hk : 0 < k) : ∀ j, admAll H (admS k s) j = admS k (admAll H s j)
  | 0 => rfl
  | j + 1 => by rw [admAll, admAll, admAll_adm H s hk j, adm_comm (stQ_pos H j) hk]
theorem admAll_exc (H : Nat → Nat) (s : Nat → Int) (k : Nat) : ∀ j, admAll H (excS k s) j = excS k (admAll H s j)
  | 0 => rfl
  | j + 1 => by rw [admAll, admAll, admAll_exc H s k j, adm_exc_comm (stQ_pos H j)]
theorem conv_admAll (H : Nat → Nat) (s t : Nat → Int) : ∀ j, convS s (admAll H t j) = admAll H (convS s t) j
  | 0 => rfl
  | j + 1 => by rw [admAll, admAll, conv_adm s _ (stQ_pos H j), conv_admAll H s t j]
/-- The series of the whole algebra, by its first j places. -/
def cntS : Nat → Nat → Int
  | 0 => oneS
  | j + 1 => admS (stS j) (cntS j)
theorem admAll_ser (H : Nat → Nat) : ∀ j, admAll H (serS H j) j = cntS j
  | 0 => rfl
  | j + 1 => by
    rw [admAll, serS_step, cntS, ← admAll_ser H j, admAll_exc, admAll_adm H _ (stS_pos j)]
    exact adm_exc (stQ_pos H j) _
/-- The quotient series times the series of the profile is that of the algebra. -/
theorem conv_quo (H : Nat → Nat) (j : Nat) : convS (serS H j) (admAll H oneS j) = cntS j := by
  rw [conv_admAll, conv_one, admAll_ser]
theorem mulS_zero (k : Nat) (s : Nat → Int) (hk : 0 < k) : mulS k s 0 = s 0 := by
  unfold mulS shS; rw [if_neg (by omega)]; omega
theorem ser_zero (H : Nat → Nat) : ∀ j, serS H j 0 = 1
  | 0 => rfl
  | j + 1 => by
    rw [serS]
    have : ∀ h, mulI (stS j) (serS H j) h 0 = serS H j 0 := fun h => by
      induction h with
      | zero => rfl
      | succ h ih => rw [mulI, mulS_zero _ _ (Nat.mul_pos (stS_pos j) (Nat.pow_pos (by decide))), ih]
    rw [this, ser_zero H j]
/-- The part of the product that a quotient's number is told by. -/
theorem quo_at (s q c : Nat → Int) (h : convS s q = c) (h0 : s 0 = 1) (n : Nat) : q n = c n - sumTo (fun k => s (k + 1) * q (n - (k + 1))) n := by
  have h1 := congrFun h n
  unfold convS at h1
  have h2 : ∀ m, sumTo (fun k => s k * q (n - k)) (m + 1) = s 0 * q n + sumTo (fun k => s (k + 1) * q (n - (k + 1))) m := fun m => by
    induction m with
    | zero => simp [sumTo]
    | succ m ih => rw [sumTo, ih, sumTo]; omega
  rw [h2 n, h0] at h1
  omega
theorem cnt_agree {d : Nat} (i : Nat) (hd : ∀ k, i ≤ k → d < stS k) : ∀ j, AgS d (cntS (i + j)) (cntS i)
  | 0 => fun _ _ => rfl
  | j + 1 => fun n hn => by
    rw [← Nat.add_assoc, cntS, admS_low _ (by have := hd (i + j) (by omega); omega)]
    exact cnt_agree i hd j n hn

/-! ### The specification's row of the algebra -/
theorem sp_st (i : Nat) : sp i = stS i := by have := sp_pow i; unfold stS; omega
theorem upd_rep (d p n : Nat) (s : Nat → Int) (t : Nat → Int) (hn : n ≤ d) (hp : p ≤ n) (h1 : t n = s n + s (n - p)) (h2 : ∀ k, k ≤ d → k ≠ n → s k = t k) : upd p (repS d s) n = repS d t := by
  unfold upd
  rw [repS_at d s n hn, repS_at d s (n - p) (by omega), wrap_wrap_add]
  exact repS_set d s t n _ hn (by rw [h1]) h2
theorem cpRow_rep (d p : Nat) (hp : 0 < p) (s : Nat → Int) : ∀ m, p + m ≤ d + 1 → cpRow p (repS d s) m = repS d (midA p s (p + m))
  | 0, h => repS_congr fun n hn => by
      unfold midA
      split
      · rw [admS_low s (by omega)]
      · rfl
  | m + 1, h => by
    rw [cpRow, cpRow_rep d p hp s m (by omega)]
    refine upd_rep d p (p + m) _ _ (by omega) (by omega) ?_ ?_
    · unfold midA
      rw [if_pos (by omega), if_neg (by omega), if_pos (by omega), admS_up (n := p + m) s hp (by omega)]
    · intro k hk hne
      unfold midA
      by_cases c : k < p + m
      · rw [if_pos c, if_pos (by omega)]
      · rw [if_neg c, if_neg (by omega)]
theorem cpTo_rep (d : Nat) : ∀ i, cpTo d i = repS d (cntS i)
  | 0 => by
    rw [cpTo, cntS, ← repS_one]
    rfl
  | i + 1 => by
    rw [cpTo, cpTo_rep d i, cntS, sp_st]
    have hp := stS_pos i
    by_cases h : stS i ≤ d + 1
    · rw [cpRow_rep d (stS i) hp _ _ (by omega)]
      exact repS_congr fun n hn => by unfold midA; rw [if_pos (by omega)]
    · rw [show d + 1 - stS i = 0 by omega, cpRow]
      exact repS_congr fun n hn => (admS_low _ (by omega)).symm
theorem stS_big {k : Nat} (h : 16 ≤ k) : 200 < stS k := by
  have : 2 ^ 17 ≤ 2 ^ (k + 1) := Nat.pow_le_pow_right (by decide) (by omega)
  unfold stS
  have e : 2 ^ 17 = 131072 := by decide
  omega
theorem wrap_mod (x k : Int) : wrap64 (x + 18446744073709551616 * k) = wrap64 x := by unfold wrap64; omega
theorem wrap_eq (x : Int) : ∃ k, wrap64 x = x + 18446744073709551616 * k := ⟨-((x + 9223372036854775808) / 18446744073709551616), by unfold wrap64; omega⟩
theorem wrap_wrap_mul (a b : Int) : wrap64 (wrap64 a * wrap64 b) = wrap64 (a * b) := by
  obtain ⟨k, hk⟩ := wrap_eq a
  obtain ⟨l, hl⟩ := wrap_eq b
  rw [hk, hl]
  have e : (a + 18446744073709551616 * k) * (b + 18446744073709551616 * l) = a * b + 18446744073709551616 * (a * l + k * b + 18446744073709551616 * (k * l)) := by
    rw [Int.add_mul, Int.mul_add, Int.mul_add]
    have e1 : a * (18446744073709551616 * l) = 18446744073709551616 * (a * l) := by rw [← Int.mul_assoc, Int.mul_comm a, Int.mul_assoc]
    have e2 : 18446744073709551616 * k * b = 18446744073709551616 * (k * b) := Int.mul_assoc _ _ _
    have e3 : 18446744073709551616 * k * (18446744073709551616 * l) = 18446744073709551616 * (18446744073709551616 * (k * l)) := by
      rw [Int.mul_assoc, ← Int.mul_assoc k, Int.mul_comm k, Int.mul_assoc 18446744073709551616 k l]
    rw [e1, e2, e3]
    omega
  rw [e, wrap_mod]
end Go.Proofs.Ytcbfcpngpnlodaa
