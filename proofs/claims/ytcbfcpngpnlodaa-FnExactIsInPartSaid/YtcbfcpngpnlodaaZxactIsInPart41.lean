/-
  Joined: NGood.
-/
import Derived.Test.YtcbfcpngpnlodaaZxactIsInPart38
section
namespace Go.Proofs.Ytcbfcpngpnlodaa
open Go.RowKit
set_option linter.unusedVariables false
set_option maxRecDepth 100000

theorem sp_ten (j : Nat) (h : j < 10) : 1 ≤ sp j ∧ sp j ≤ 1023 ∧ (5 ≤ j → 63 ≤ sp j) := by
  have : j = 0 ∨ j = 1 ∨ j = 2 ∨ j = 3 ∨ j = 4 ∨ j = 5 ∨ j = 6 ∨ j = 7 ∨ j = 8 ∨ j = 9 := by omega
  rcases this with rfl | rfl | rfl | rfl | rfl | rfl | rfl | rfl | rfl | rfl <;> decide
theorem wrap_same {x : Int} (h0 : -9223372036854775808 ≤ x) (h1 : x < 9223372036854775808) : wrap64 x = x := by unfold wrap64; omega
/-- A number's part in a degree. -/
theorem dgr_part (G : Nat → Int) : ∀ n, n ≤ 10 → okNums G n → 0 ≤ dgr G n ∧ dgr G n ≤ (n : Int) * 1023000000000000 ∧ ∀ i, i < n → G i * (sp i : Int) ≤ dgr G n
  | 0, _, _ => ⟨Int.le_refl _, by simp [dgr], fun i hi => absurd hi (Nat.not_lt_zero _)⟩
  | n + 1, hn, h => by
    obtain ⟨h1, h2, h3⟩ := dgr_part G n (by omega) fun i hi => h i (by omega)
    obtain ⟨p1, p2, _⟩ := sp_ten n (by omega)
    obtain ⟨g1, g2⟩ := h n (Nat.lt_succ_self n)
    have q1 : 0 ≤ G n * (sp n : Int) := Int.mul_nonneg g1 (by omega)
    have q2 : G n * (sp n : Int) ≤ 1000000000000 * 1023 := Int.mul_le_mul g2 (by omega) (by omega) (by omega)
    have e : dgr G (n + 1) = wrap64 (dgr G n + wrap64 (G n * (sp n : Int))) := rfl
    obtain ⟨pr, hpr⟩ : ∃ pr, G n * (sp n : Int) = pr := ⟨_, rfl⟩
    rw [e]
    rw [hpr] at q1 q2 ⊢
    generalize dgr G n = y at h1 h2 h3
    rw [wrap_same (x := pr) (by omega) (by omega), wrap_same (x := y + pr) (by omega) (by omega)]
    refine ⟨by omega, by omega, fun i hi => ?_⟩
    by_cases k : i = n
    · subst k; rw [hpr]; omega
    · have := h3 i (by omega); omega
theorem good_part {l : List Int} (h : goodE l) (i : Nat) : 0 ≤ l[i]?.getD 0 ∧ l[i]?.getD 0 * (sp i : Int) ≤ dgL l ∧ 0 ≤ dgL l := by
  obtain ⟨⟨h1, _, h3⟩, h2⟩ := h
  obtain ⟨d1, _, d3⟩ := dgr_part (gOf l) l.length h1 h3
  by_cases k : i < l.length
  · exact ⟨(h3 i k).1, d3 i k, d1⟩
  · rw [List.getElem?_eq_none (by omega)]
    refine ⟨Int.le_refl 0, ?_, d1⟩
    show 0 * (sp i : Int) ≤ dgL l
    rw [Int.zero_mul]
    exact d1
theorem good_forty {l : List Int} (h : goodE l) (i : Nat) (hi : i < l.length) : 0 ≤ l[i]?.getD 0 ∧ l[i]?.getD 0 ≤ 40 := by
  obtain ⟨a, b, _⟩ := good_part h i
  have h40 := h.2
  obtain ⟨p1, _, _⟩ := sp_ten i (by have := h.1.1; omega)
  have : l[i]?.getD 0 * 1 ≤ l[i]?.getD 0 * (sp i : Int) := Int.mul_le_mul_of_nonneg_left (by omega) a
  omega
end Go.Proofs.Ytcbfcpngpnlodaa
end
