/-
  Joined: PlainBits.
-/
import Derived.WalkKit
section
namespace Go.Proofs.Ytnfhfilconcajaa
open Go.RowKit
set_option maxRecDepth 100000

theorem i64_keep : ∀ n : Int, 0 ≤ n → n < 2 ^ 63 → IntKind.i64.wrap n = n := by
  intro n h0 h1
  rw [IntKind.wrap_i64]
  omega

theorem i64_and (a b : Nat) (ha : a < 2 ^ 63) (hb : b < 2 ^ 63) : bits .and .i64 (a : Int) (b : Int) = ((a &&& b : Nat) : Int) :=
  (bits_nat .i64 63 (by decide) i64_keep a b ha hb).1

theorem i64_or (a b : Nat) (ha : a < 2 ^ 63) (hb : b < 2 ^ 63) : bits .or .i64 (a : Int) (b : Int) = ((a ||| b : Nat) : Int) :=
  (bits_nat .i64 63 (by decide) i64_keep a b ha hb).2

theorem i64_andNot (a b : Nat) (ha : a < 2 ^ 63) (hb : b < 2 ^ 63) : bits .andNot .i64 (a : Int) (b : Int) = ((a &&& (2 ^ 64 - (b + 1)) : Nat) : Int) := by
  have hx : a &&& (2 ^ 64 - (b + 1)) < 2 ^ 63 := Nat.lt_of_le_of_lt Nat.and_le_left ha
  show IntKind.i64.wrap ((BitVec.ofInt 64 (a : Int) &&& ~~~BitVec.ofInt 64 (b : Int)).toNat : Int) = _
  have h1 : (BitVec.ofInt 64 (a : Int)).toNat = a := by
    rw [BitVec.ofInt_natCast, BitVec.toNat_ofNat]; exact Nat.mod_eq_of_lt (by omega)
  have h2 : (BitVec.ofInt 64 (b : Int)).toNat = b := by
    rw [BitVec.ofInt_natCast, BitVec.toNat_ofNat]; exact Nat.mod_eq_of_lt (by omega)
  rw [BitVec.toNat_and, BitVec.toNat_not, h1, h2, IntKind.wrap_i64]
  have e : 2 ^ 64 - 1 - b = 2 ^ 64 - (b + 1) := by omega
  rw [e]
  omega

/-- All digits of k are digits of n: told by 'and', or by 'and not'. -/
theorem andNot_zero (k n : Nat) (hk : k < 2 ^ 63) (hn : n < 2 ^ 63) : (k &&& (2 ^ 64 - (n + 1)) = 0) ↔ (n &&& k = k) := by
  have hn' : n < 2 ^ 64 := by omega
  constructor
  · intro h
    apply Nat.eq_of_testBit_eq
    intro i
    have hi := congrArg (fun x => Nat.testBit x i) h
    simp only [Nat.testBit_and, Nat.testBit_two_pow_sub_succ hn', Nat.zero_testBit] at hi
    simp only [Nat.testBit_and]
    by_cases h64 : i < 64
    · simp [h64] at hi
      cases hb : k.testBit i <;> simp_all
    · have : k.testBit i = false := Nat.testBit_lt_two_pow (Nat.lt_of_lt_of_le hk (Nat.pow_le_pow_right (by decide) (by omega)))
      simp [this]
  · intro h
    apply Nat.eq_of_testBit_eq
    intro i
    have hi := congrArg (fun x => Nat.testBit x i) h
    simp only [Nat.testBit_and] at hi
    simp only [Nat.testBit_and, Nat.testBit_two_pow_sub_succ hn', Nat.zero_testBit]
    cases hb : k.testBit i <;> simp_all

/-- BinomialParity's two tests say the same. -/
theorem binomial_tests (n k : Int) (h0 : 0 ≤ n) (h1 : n ≤ 1000000000000) (h2 : 0 ≤ k) (h3 : k ≤ 1000000000000) :
    (bits .andNot .i64 k n != 0) = (decide (n < k) || (bits .and .i64 n k != k)) := by
  obtain ⟨N, rfl⟩ := Int.eq_ofNat_of_zero_le h0
  obtain ⟨K, rfl⟩ := Int.eq_ofNat_of_zero_le h2
  rw [i64_andNot K N (by omega) (by omega), i64_and N K (by omega) (by omega)]
  have hz := andNot_zero K N (by omega) (by omega)
  have hle : N &&& K ≤ N := Nat.and_le_left
  by_cases h : N &&& K = K
  · have h' := hz.2 h
    rw [h', h]
    have : ¬ (N : Int) < K := by omega
    simp [this]
  · have h' : K &&& (2 ^ 64 - (N + 1)) ≠ 0 := fun e => h (hz.1 e)
    have e1 : (((K &&& (2 ^ 64 - (N + 1)) : Nat) : Int) != 0) = true := by
      rw [bne_iff_ne]; intro e; exact h' (by exact_mod_cast e)
    have e2 : ((((N &&& K : Nat) : Int)) != (K : Int)) = true := by
      rw [bne_iff_ne]; intro e; exact h (by exact_mod_cast e)
    rw [e1, e2]; simp

theorem i64_bounds {n : Int} (h : (Lit.int .i64 n).wf = true) : -9223372036854775808 ≤ n ∧ n ≤ 9223372036854775807 := by
  have e : (Lit.int .i64 n).wf = (decide (IntKind.i64.min ≤ n) && decide (n ≤ IntKind.i64.max)) := rfl
  rw [e] at h
  simp [IntKind.min, IntKind.max, IntKind.signed, IntKind.bits] at h
  omega
end Go.Proofs.Ytnfhfilconcajaa
end
