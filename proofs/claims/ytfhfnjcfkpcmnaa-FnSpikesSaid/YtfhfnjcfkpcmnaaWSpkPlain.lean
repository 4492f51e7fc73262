/-
  Spike lists in descending order, as both programs find them. No program in sight.
-/
import Derived.Test.YtfhfnjcfkpcmnaaWPartPlain
namespace Go.Proofs.Ytfhfnjcfkpcmnaa
open Go.RowKit
set_option linter.unusedVariables false

/-- How many spikes are at most m. -/
def scnt (m : Nat) : Nat := (m + 1).log2
theorem scnt_lt (m i : Nat) : i < scnt m ↔ sp i ≤ m := by
  unfold scnt
  have h1 := sp_pow i
  have h2 : i + 1 ≤ (m + 1).log2 ↔ 2 ^ (i + 1) ≤ m + 1 := Nat.le_log2 (by omega)
  rw [← h1] at h2
  omega

def spk : Nat → List Int → Nat → Nat → List (List Int)
  | 0, zs, d, _ => if d = 0 then [zs] else []
  | f + 1, zs, d, most => if d = 0 then [zs] else (List.range (scnt (min most d))).flatMap fun (i : Nat) => spk f (zs ++ [(sp i : Int)]) (d - sp i) (sp i)

def spkTo (f : Nat) (zs : List Int) (d j : Nat) : List (List Int) := (List.range j).flatMap fun (i : Nat) => spk f (zs ++ [(sp i : Int)]) (d - sp i) (sp i)
theorem spkTo_zero (f : Nat) (zs : List Int) (d : Nat) : spkTo f zs d 0 = [] := rfl
theorem spkTo_succ (f : Nat) (zs : List Int) (d j : Nat) : spkTo f zs d (j + 1) = spkTo f zs d j ++ spk f (zs ++ [(sp j : Int)]) (d - sp j) (sp j) := by
  unfold spkTo
  rw [List.range_succ, List.flatMap_append]
  simp
theorem spk_zero (f : Nat) (zs : List Int) (most : Nat) : spk f zs 0 most = [zs] := by
  cases f <;> simp [spk]
theorem spk_succ (f : Nat) (zs : List Int) (d most : Nat) (h : 0 < d) : spk (f + 1) zs d most = spkTo f zs d (scnt (min most d)) := by
  rw [spk, if_neg (by omega)]
  rfl

theorem pow_step (d a b : Nat) (h : a + 1 ≤ b) (hb : b ≤ d) : 2 * 2 ^ (d - b) ≤ 2 ^ (d - a) := by
  have e : 2 * 2 ^ (d - b) = 2 ^ (d - b + 1) := by rw [Nat.pow_succ, Nat.mul_comm]
  rw [e]
  exact Nat.pow_le_pow_right (by decide) (by omega)

theorem spkTo_len (f : Nat) (h : ∀ zs d most, (spk f zs d most).length ≤ 2 ^ d) (zs : List Int) (d j : Nat) (hd : sp j ≤ d) : (spkTo f zs d (j + 1)).length + 2 ^ (d - sp j) ≤ 2 ^ d := by
  induction j with
  | zero =>
    rw [spkTo_succ, spkTo_zero, List.nil_append]
    have h1 := h (zs ++ [(sp 0 : Int)]) (d - sp 0) (sp 0)
    have h2 := pow_step d 0 (sp 0) (by decide) hd
    rw [Nat.sub_zero] at h2
    omega
  | succ j ih =>
    have hm : sp j + 1 ≤ sp (j + 1) := by have := sp_gt j; rw [sp]; omega
    have h0 := ih (by omega)
    rw [spkTo_succ, List.length_append]
    have h1 := h (zs ++ [(sp (j + 1) : Int)]) (d - sp (j + 1)) (sp (j + 1))
    have h2 := pow_step d (sp j) (sp (j + 1)) hm hd
    omega

theorem spk_len (f : Nat) : ∀ (zs : List Int) (d most : Nat), (spk f zs d most).length ≤ 2 ^ d := by
  induction f with
  | zero =>
    intro zs d most
    rw [spk]
    split
    · rename_i h; subst h; exact Nat.le_refl 1
    · exact Nat.zero_le _
  | succ f ih =>
    intro zs d most
    by_cases h0 : d = 0
    · subst h0
      rw [spk_zero]
      exact Nat.le_refl _
    · rw [spk_succ _ _ _ _ (by omega)]
      cases hc : scnt (min most d) with
      | zero => exact Nat.zero_le _
      | succ j =>
        have h1 : sp j ≤ d := by
          have := (scnt_lt (min most d) j).1 (by omega)
          exact Nat.le_trans this (Nat.min_le_right _ _)
        exact Nat.le_trans (Nat.le_add_right _ _) (spkTo_len f ih zs d j h1)

/-- There is room for the lists that are still to come. -/
theorem spkTo_room (f : Nat) (zs : List Int) (d j : Nat) (hd : sp j ≤ d) : (spkTo f zs d j).length + 2 ^ (d - sp j) ≤ 2 ^ d := by
  cases j with
  | zero =>
    rw [spkTo_zero, List.length_nil, Nat.zero_add]
    exact Nat.pow_le_pow_right (by decide) (Nat.sub_le _ _)
  | succ j =>
    have hm : sp j + 1 ≤ sp (j + 1) := by have := sp_gt j; rw [sp]; omega
    have h1 := spkTo_len f (spk_len f) zs d j (by omega)
    have h2 := pow_step d (sp j) (sp (j + 1)) hm hd
    omega

theorem spk_row (f : Nat) : ∀ (zs : List Int) (d most : Nat) (x : List Int), x ∈ spk f zs d most → x.length ≤ zs.length + d := by
  induction f with
  | zero =>
    intro zs d most x hx
    rw [spk] at hx
    split at hx
    · rw [List.mem_singleton.1 hx]; exact Nat.le_add_right _ _
    · cases hx
  | succ f ih =>
    intro zs d most x hx
    by_cases h0 : d = 0
    · subst h0
      rw [spk_zero] at hx
      rw [List.mem_singleton.1 hx]
      omega
    · rw [spk_succ _ _ _ _ (by omega)] at hx
      obtain ⟨i, hi, h⟩ := List.mem_flatMap.1 hx
      have h1 := (scnt_lt (min most d) i).1 (List.mem_range.1 hi)
      have h2 := ih _ _ _ _ h
      have h3 := sp_gt i
      have h4 : min most d ≤ d := Nat.min_le_right _ _
      rw [List.length_append, List.length_singleton] at h2
      omega
end Go.Proofs.Ytfhfnjcfkpcmnaa
