/-
  The walk of laws.FnExactBinomialParity: it returns true, whatever the two numbers.
-/
import Derived.Test.YtfhfnjcfkpcmnaaRows
import Derived.Test.YtfhfnjcfkpcmnaaPlainBits
import Derived.WalkLawsBesides
import Derived.WalkSpells
namespace Go.Proofs.Ytfhfnjcfkpcmnaa
open Go.RowKit

theorem i64_bounds {n : Int} (h : (Lit.int .i64 n).wf = true) : -9223372036854775808 ≤ n ∧ n ≤ 9223372036854775807 := by
  have e : (Lit.int .i64 n).wf = (decide (IntKind.i64.min ≤ n) && decide (n ≤ IntKind.i64.max)) := rfl
  rw [e] at h
  simp [IntKind.min, IntKind.max, IntKind.signed, IntKind.bits] at h
  omega

theorem walk_FnExactBinomialParity (a0 a1 : Int) (w : World) (w0 : (Lit.int .i64 a0).wf = true) (w1 : (Lit.int .i64 a1).wf = true) :
    Calls Try.prog 5 #[.int .i64 a0, .int .i64 a1] w fun e w' => e = .returned (.bool true) ∧ Below w.heap.size w w' := by
  have b0 := i64_bounds w0
  have b1 := i64_bounds w1
  clear w0 w1
  by_cases h0 : 0 ≤ a0
  · by_cases h1 : a0 ≤ 1000000000000
    · by_cases h2 : 0 ≤ a1
      · by_cases h3 : a1 ≤ 1000000000000
        · have hb := binomial_tests a0 a1 h0 h1 h2 h3
          by_cases h4 : a0 < a1
          · have h5 : (bits .andNot .i64 a1 a0 != 0) = true := by rw [hb]; simp [h4]
            clear hb
            go_enter Try.func5, Try.ntmps5
            go_wp2
            go_ret
            exact ⟨rfl, Below.refl _ _⟩
          · cases h6 : (bits .and .i64 a0 a1 != a1)
            · have h5 : (bits .andNot .i64 a1 a0 != 0) = false := by rw [hb, h6]; simp [h4]
              clear hb
              go_enter Try.func5, Try.ntmps5
              go_wp2
              go_ret
              exact ⟨rfl, Below.refl _ _⟩
            · have h5 : (bits .andNot .i64 a1 a0 != 0) = true := by rw [hb, h6]; simp
              clear hb
              go_enter Try.func5, Try.ntmps5
              go_wp2
              go_ret
              exact ⟨rfl, Below.refl _ _⟩
        · go_enter Try.func5, Try.ntmps5
          go_wp2
          go_ret
          exact ⟨rfl, Below.refl _ _⟩
      · go_enter Try.func5, Try.ntmps5
        go_wp2
        go_ret
        exact ⟨rfl, Below.refl _ _⟩
    · go_enter Try.func5, Try.ntmps5
      go_wp2
      go_ret
      exact ⟨rfl, Below.refl _ _⟩
  · go_enter Try.func5, Try.ntmps5
    go_wp2
    go_ret
    exact ⟨rfl, Below.refl _ _⟩
end Go.Proofs.Ytfhfnjcfkpcmnaa
