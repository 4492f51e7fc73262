/-
  Texts of dual elements, plain: powers, monomials and sums as lists of bytes, and how a text grows.
-/
import Derived.Test.YtcfgjbfgdlmilaaDoorNTxt
namespace Go.Proofs.YtcfgjbfgdlmilaaDoor.Dl
open Go.RowKit Go.Proofs.YtcfgjbfgdlmilaaDoor.Ml
set_option linter.unusedVariables false
set_option maxRecDepth 100000

/-- A power of a variable. -/
def expT (e : Int) : List UInt8 := if 1 < e then 94 :: decT e else []
def powT (i : Nat) (e : Int) : List UInt8 := ([120] ++ decT ((i : Int) + 1)) ++ expT e
theorem expT_yes {e : Int} (h : 1 < e) : expT e = [94] ++ decT e := if_pos h
theorem expT_no {e : Int} (h : ¬ 1 < e) : expT e = [] := if_neg h
theorem expT_len {e : Int} (h0 : 0 ≤ e) (h : e < 100) : (expT e).length ≤ 3 := by
  unfold expT
  split
  · have := decT_len h0 h; simp; omega
  · simp
theorem powT_len {i : Nat} {e : Int} (hi : i < 20) (h0 : 0 ≤ e) (h : e < 100) : (powT i e).length ≤ 6 := by
  have h1 := decT_len (n := (i : Int) + 1) (by omega) (by omega)
  have h2 := expT_len h0 h
  unfold powT
  simp only [List.length_append, List.length_singleton]
  omega
theorem powT_ne (i : Nat) (e : Int) : powT i e ≠ [] := by unfold powT; simp
/-- The powers of the first k variables. -/
def powsT (l : List Int) : Nat → List (List UInt8)
  | 0 => []
  | k + 1 => powsT l k ++ (if l.getD k 0 = 0 then [] else [powT k (l.getD k 0)])
theorem powsT_zero {l : List Int} {k : Nat} (h : l.getD k 0 = 0) : powsT l (k + 1) = powsT l k := by rw [powsT, if_pos h, List.append_nil]
theorem powsT_succ {l : List Int} {k : Nat} (h : l.getD k 0 ≠ 0) : powsT l (k + 1) = powsT l k ++ [powT k (l.getD k 0)] := by rw [powsT, if_neg h]
theorem powsT_len (l : List Int) : ∀ k, (powsT l k).length ≤ k
  | 0 => Nat.le_refl _
  | k + 1 => by
    have := powsT_len l k
    rw [powsT, List.length_append]
    split <;> simp <;> omega
def monoT (l : List Int) (k : Nat) : List UInt8 := Lib.join (powsT l k) [32]
theorem monoT_zero (l : List Int) : monoT l 0 = [] := rfl
theorem monoT_skip {l : List Int} {k : Nat} (h : l.getD k 0 = 0) : monoT l (k + 1) = monoT l k := by unfold monoT; rw [powsT_zero h]
theorem monoT_first {l : List Int} {k : Nat} (h0 : powsT l k = []) (h : l.getD k 0 ≠ 0) : monoT l (k + 1) = powT k (l.getD k 0) := by
  unfold monoT
  rw [powsT_succ h, h0]
  simp [Lib.join, List.intercalate]
theorem monoT_next {l : List Int} {k : Nat} (h0 : powsT l k ≠ []) (h : l.getD k 0 ≠ 0) : monoT l (k + 1) = monoT l k ++ ([32] ++ powT k (l.getD k 0)) := by
  unfold monoT
  rw [powsT_succ h]
  exact join_snoc _ _ _ h0
theorem monoT_nil {l : List Int} {k : Nat} (h : powsT l k = []) : monoT l k = [] := by unfold monoT; rw [h]; rfl
theorem monoT_ne {l : List Int} : ∀ {k : Nat}, powsT l k ≠ [] → monoT l k ≠ []
  | 0, h => absurd rfl h
  | k + 1, h => by
    by_cases hz : l.getD k 0 = 0
    · rw [monoT_skip hz]
      rw [powsT_zero hz] at h
      exact monoT_ne h
    · by_cases h0 : powsT l k = []
      · rw [monoT_first h0 hz]; exact powT_ne _ _
      · rw [monoT_next h0 hz]; simp
theorem monoT_len {l : List Int} (h : Small l) : ∀ k, k ≤ l.length → (monoT l k).length ≤ k * 7
  | 0, _ => by rw [monoT_zero]; simp
  | k + 1, hk => by
    have ih := monoT_len h k (by omega)
    have h1 := h.2 k (by omega)
    have h20 := h.1
    have h2 := powT_len (i := k) (by omega) h1.1 h1.2
    by_cases hz : l.getD k 0 = 0
    · rw [monoT_skip hz]; omega
    · by_cases h0 : powsT l k = []
      · rw [monoT_first h0 hz]; omega
      · rw [monoT_next h0 hz]
        simp only [List.length_append, List.length_singleton]
        omega
/-- The powers are there, if the list does not end in 0. -/
theorem powsT_some {l : List Int} (h : l.length ≠ 0) (hz : l.getD (l.length - 1) 0 ≠ 0) : powsT l l.length ≠ [] := by
  obtain ⟨k, hk⟩ : ∃ k, l.length = k + 1 := ⟨l.length - 1, by omega⟩
  rw [hk, Nat.add_sub_cancel] at hz
  rw [hk, powsT_succ hz]
  simp
/-- A term. -/
def dtT (l : List Int) : List UInt8 := if l.length = 0 then [49] else monoT l l.length
theorem dtT_nil {l : List Int} (h : l.length = 0) : dtT l = [49] := if_pos h
theorem dtT_pos {l : List Int} (h : l.length ≠ 0) : dtT l = monoT l l.length := if_neg h
theorem dtT_len {l : List Int} (h : Small l) : (dtT l).length ≤ 140 := by
  by_cases h0 : l.length = 0
  · rw [dtT_nil h0]; simp
  · rw [dtT_pos h0]
    have := monoT_len h l.length (Nat.le_refl _)
    have := h.1
    omega
theorem dtT_ne {l : List Int} (h : isE l) : dtT l ≠ [] := by
  by_cases h0 : l.length = 0
  · rw [dtT_nil h0]; simp
  · rw [dtT_pos h0]
    refine monoT_ne (powsT_some h0 ?_)
    have := h.2.1.resolve_left h0
    rw [List.getD_eq_getElem?_getD]
    exact this
/-- The first i terms. -/
def dtsT (X : Nat → List Int) (i : Nat) : List UInt8 := Lib.join ((List.range i).map fun j => dtT (X j)) [43]
theorem dtsT_zero (X : Nat → List Int) : dtsT X 0 = [] := rfl
theorem dtsT_succ (X : Nat → List Int) (i : Nat) : dtsT X (i + 1) = dtsT X i ++ (sepT 43 i ++ dtT (X i)) := join_range _ _ _
theorem dtsT_len (X : Nat → List Int) (m i : Nat) (h : ∀ j, j < m → Small (X j)) (hi : i ≤ m) : (dtsT X i).length ≤ i * 141 :=
  join_range_len _ _ _ _ fun j hj => dtT_len (h j (by omega))
def delT (X : Nat → List Int) (m : Nat) : List UInt8 := if m = 0 then [48] else dtsT X m
end Go.Proofs.YtcfgjbfgdlmilaaDoor.Dl
