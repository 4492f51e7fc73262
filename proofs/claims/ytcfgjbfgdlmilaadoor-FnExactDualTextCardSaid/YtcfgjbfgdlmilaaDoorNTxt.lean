/-
  Texts of elements: spec.l01List, spec.l04Text, impl.textOfNumbers; the bounds of the numbers.
-/
import Derived.Test.YtcfgjbfgdlmilaaDoorTxtImpl
import Derived.Test.YtcfgjbfgdlmilaaDoorNIsI
namespace Go.Proofs.YtcfgjbfgdlmilaaDoor.Ml
open Go.RowKit
set_option linter.unusedVariables false
set_option maxRecDepth 100000

/-! ### Plain -/
/-- The first k numbers of a list. -/
def numsT (l : List Int) (k : Nat) : List UInt8 := Lib.join ((List.range k).map fun j => decT (l.getD j 0)) [44]
theorem numsT_zero (l : List Int) : numsT l 0 = [] := rfl
theorem numsT_succ (l : List Int) (k : Nat) : numsT l (k + 1) = numsT l k ++ (sepT 44 k ++ decT (l.getD k 0)) := join_range _ _ _
theorem decT_len {n : Int} (h0 : 0 ≤ n) (h : n < 100) : (decT n).length ≤ 2 := dec_len (n := n.toNat) (by omega)
theorem numsT_len {l : List Int} (h : Small l) (k : Nat) (hk : k ≤ l.length) : (numsT l k).length ≤ 60 := by
  have h1 := join_range_len (fun j => decT (l.getD j 0)) 44 2 k fun i hi => decT_len (h.2 i (by omega)).1 (h.2 i (by omega)).2
  have h2 := h.1
  unfold numsT
  omega
/-- A term. -/
def termT (l : List Int) : List UInt8 := 40 :: (numsT l l.length ++ [41])
theorem termT_len {l : List Int} (h : Small l) : (termT l).length ≤ 62 := by
  have := numsT_len h l.length (Nat.le_refl _)
  unfold termT
  rw [List.length_cons, List.length_append, List.length_singleton]
  omega
/-- The first i terms. -/
def termsT (X : Nat → List Int) (i : Nat) : List UInt8 := Lib.join ((List.range i).map fun j => termT (X j)) [43]
theorem termsT_zero (X : Nat → List Int) : termsT X 0 = [] := rfl
theorem termsT_succ (X : Nat → List Int) (i : Nat) : termsT X (i + 1) = termsT X i ++ (sepT 43 i ++ termT (X i)) := join_range _ _ _
theorem termsT_len (X : Nat → List Int) (m i : Nat) (h : ∀ j, j < m → Small (X j)) (hi : i ≤ m) : (termsT X i).length ≤ i * 63 :=
  join_range_len _ _ _ _ fun j hj => termT_len (h j (by omega))
theorem termsT_ne (X : Nat → List Int) (i : Nat) (h : 0 < i) : termsT X i ≠ [] := by
  obtain ⟨k, rfl⟩ : ∃ k, i = k + 1 := ⟨i - 1, by omega⟩
  rw [termsT_succ]
  simp [termT]
def melT (X : Nat → List Int) (m : Nat) : List UInt8 := if m = 0 then [48] else termsT X m

theorem sp_small (j : Nat) (h : j < 10) : 1 ≤ sp j ∧ sp j ≤ 1023 := by
  have : j = 0 ∨ j = 1 ∨ j = 2 ∨ j = 3 ∨ j = 4 ∨ j = 5 ∨ j = 6 ∨ j = 7 ∨ j = 8 ∨ j = 9 := by omega
  rcases this with rfl | rfl | rfl | rfl | rfl | rfl | rfl | rfl | rfl | rfl <;> decide
theorem wrap_id {x : Int} (h0 : -9223372036854775808 ≤ x) (h1 : x < 9223372036854775808) : wrap64 x = x := by unfold wrap64; omega
theorem dgr_real (G : Nat → Int) : ∀ n, n ≤ 10 → okNums G n → 0 ≤ dgr G n ∧ dgr G n ≤ (n : Int) * 1023000000000000 ∧ ∀ i, i < n → G i ≤ dgr G n
  | 0, _, _ => ⟨Int.le_refl _, by simp [dgr], fun i hi => absurd hi (Nat.not_lt_zero _)⟩
  | n + 1, hn, h => by
    obtain ⟨h1, h2, h3⟩ := dgr_real G n (by omega) fun i hi => h i (by omega)
    obtain ⟨p1, p2⟩ := sp_small n (by omega)
    obtain ⟨g1, g2⟩ := h n (Nat.lt_succ_self n)
    have q1 : 0 ≤ G n * (sp n : Int) := Int.mul_nonneg g1 (by omega)
    have q2 : G n * (sp n : Int) ≤ 1000000000000 * 1023 := Int.mul_le_mul g2 (by omega) (by omega) (by omega)
    have q3 : G n ≤ G n * (sp n : Int) := by
      have := Int.mul_le_mul_of_nonneg_left (show (1 : Int) ≤ (sp n : Int) by omega) g1
      omega
    have e : dgr G (n + 1) = wrap64 (dgr G n + wrap64 (G n * (sp n : Int))) := rfl
    rw [e]
    generalize G n * (sp n : Int) = pr at q1 q2 q3
    generalize dgr G n = y at h1 h2 h3
    rw [wrap_id (x := pr) (by omega) (by omega), wrap_id (x := y + pr) (by omega) (by omega)]
    refine ⟨by omega, by omega, fun i hi => ?_⟩
    by_cases k : i = n
    · subst k; omega
    · have := h3 i (by omega); omega
theorem goodE_small {l : List Int} (h : goodE l) : Small l := by
  obtain ⟨⟨h1, _, h3⟩, h2⟩ := h
  obtain ⟨_, _, d3⟩ := dgr_real (gOf l) l.length h1 h3
  refine ⟨by omega, fun j hj => ?_⟩
  have a : l[j]?.getD 0 ≤ dgL l := d3 j hj
  have b : 0 ≤ l[j]?.getD 0 := (h3 j hj).1
  rw [List.getD_eq_getElem?_getD]
  omega

/-! ### spec.l01List with commas -/
end Go.Proofs.YtcfgjbfgdlmilaaDoor.Ml
