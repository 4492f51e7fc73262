/-
  Admissible words, as both programs find them. No program in sight.
-/
import Derived.Test.YtfmnlapnbhcacaaWPartPlain
namespace Go.Proofs.Ytfmnlapnbhcacaa
open Go.RowKit
set_option maxRecDepth 100000
set_option linter.unusedVariables false

/-- All admissible words that begin with zs, whose other integers have the sum d and begin with at most so much. -/
def adm : Nat → List Int → Nat → Nat → List (List Int)
  | 0, zs, d, _ => if d = 0 then [zs] else []
  | f + 1, zs, d, most => if d = 0 then [zs] else (List.range (min most d)).flatMap fun (i : Nat) => adm f (zs ++ [((i + 1 : Nat) : Int)]) (d - (i + 1)) ((i + 1) / 2)

def admTo (f : Nat) (zs : List Int) (d j : Nat) : List (List Int) := (List.range j).flatMap fun (i : Nat) => adm f (zs ++ [((i + 1 : Nat) : Int)]) (d - (i + 1)) ((i + 1) / 2)
theorem admTo_zero (f : Nat) (zs : List Int) (d : Nat) : admTo f zs d 0 = [] := rfl
theorem admTo_succ (f : Nat) (zs : List Int) (d j : Nat) : admTo f zs d (j + 1) = admTo f zs d j ++ adm f (zs ++ [((j + 1 : Nat) : Int)]) (d - (j + 1)) ((j + 1) / 2) := by
  unfold admTo
  rw [List.range_succ, List.flatMap_append]
  simp
theorem adm_zero (f : Nat) (zs : List Int) (most : Nat) : adm f zs 0 most = [zs] := by
  cases f <;> simp [adm]
theorem adm_succ (f : Nat) (zs : List Int) (d most : Nat) (h : 0 < d) : adm (f + 1) zs d most = admTo f zs d (min most d) := by
  rw [adm, if_neg (by omega)]
  rfl

theorem pow_step2 (d a b : Nat) (h : a + 1 ≤ b) (hb : b ≤ d) : 2 * 2 ^ (d - b) ≤ 2 ^ (d - a) := by
  have e : 2 * 2 ^ (d - b) = 2 ^ (d - b + 1) := by rw [Nat.pow_succ, Nat.mul_comm]
  rw [e]
  exact Nat.pow_le_pow_right (by decide) (by omega)

theorem admTo_len (f : Nat) (h : ∀ zs d most, (adm f zs d most).length ≤ 2 ^ d) (zs : List Int) (d j : Nat) (hd : j + 1 ≤ d) : (admTo f zs d (j + 1)).length + 2 ^ (d - (j + 1)) ≤ 2 ^ d := by
  induction j with
  | zero =>
    rw [admTo_succ, admTo_zero, List.nil_append]
    have h1 := h (zs ++ [((0 + 1 : Nat) : Int)]) (d - (0 + 1)) ((0 + 1) / 2)
    have h2 := pow_step2 d 0 1 (by decide) hd
    rw [Nat.sub_zero] at h2
    rw [Nat.zero_add] at *
    omega
  | succ j ih =>
    have h0 := ih (by omega)
    rw [admTo_succ, List.length_append]
    have h1 := h (zs ++ [((j + 1 + 1 : Nat) : Int)]) (d - (j + 1 + 1)) ((j + 1 + 1) / 2)
    have h2 := pow_step2 d (j + 1) (j + 1 + 1) (Nat.le_refl _) hd
    omega

theorem adm_len (f : Nat) : ∀ (zs : List Int) (d most : Nat), (adm f zs d most).length ≤ 2 ^ d := by
  induction f with
  | zero =>
    intro zs d most
    rw [adm]
    split
    · rename_i h; subst h; exact Nat.le_refl 1
    · exact Nat.zero_le _
  | succ f ih =>
    intro zs d most
    by_cases h0 : d = 0
    · subst h0
      rw [adm_zero]
      exact Nat.le_refl _
    · rw [adm_succ _ _ _ _ (by omega)]
      cases hc : min most d with
      | zero => exact Nat.zero_le _
      | succ j =>
        have h1 : j + 1 ≤ d := by
          have : min most d ≤ d := Nat.min_le_right _ _
          omega
        exact Nat.le_trans (Nat.le_add_right _ _) (admTo_len f ih zs d j h1)

/-- There is room for the words that are still to come. -/
theorem admTo_room (f : Nat) (zs : List Int) (d j : Nat) (hd : j + 1 ≤ d) : (admTo f zs d j).length + 2 ^ (d - (j + 1)) ≤ 2 ^ d := by
  cases j with
  | zero =>
    rw [admTo_zero, List.length_nil, Nat.zero_add]
    exact Nat.pow_le_pow_right (by decide) (Nat.sub_le _ _)
  | succ j =>
    have h1 := admTo_len f (adm_len f) zs d j (by omega)
    have h2 := pow_step2 d (j + 1) (j + 1 + 1) (Nat.le_refl _) hd
    omega

theorem adm_row (f : Nat) : ∀ (zs : List Int) (d most : Nat) (x : List Int), x ∈ adm f zs d most → x.length ≤ zs.length + d := by
  induction f with
  | zero =>
    intro zs d most x hx
    rw [adm] at hx
    split at hx
    · rw [List.mem_singleton.1 hx]; exact Nat.le_add_right _ _
    · cases hx
  | succ f ih =>
    intro zs d most x hx
    by_cases h0 : d = 0
    · subst h0
      rw [adm_zero] at hx
      rw [List.mem_singleton.1 hx]
      omega
    · rw [adm_succ _ _ _ _ (by omega)] at hx
      obtain ⟨i, hi, h⟩ := List.mem_flatMap.1 hx
      have h1 := List.mem_range.1 hi
      have h2 := ih _ _ _ _ h
      have h4 : min most d ≤ d := Nat.min_le_right _ _
      rw [List.length_append, List.length_singleton] at h2
      omega
end Go.Proofs.Ytfmnlapnbhcacaa
