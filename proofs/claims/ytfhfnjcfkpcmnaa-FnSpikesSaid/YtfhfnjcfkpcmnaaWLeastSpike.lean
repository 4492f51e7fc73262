/-
  Contracts of spec.LeastSpike and impl.LeastSpike, and the walk of laws.FnExactLeastSpike.
-/
import Derived.Test.YtfhfnjcfkpcmnaaWOnesIn
namespace Go.Proofs.Ytfhfnjcfkpcmnaa
open Go.RowKit

/-- s is the least length of a spike list for d: d + s has at most s digits 1, and no smaller s does so. -/
def LS (d s : Nat) : Prop := pcl 64 (d + s) ≤ s ∧ ∀ t, t < s → t < pcl 64 (d + t)
def LSto (d s : Nat) : Prop := ∀ t, t < s → t < pcl 64 (d + t)
theorem LSto.next {d s : Nat} (h : LSto d s) (h1 : s < pcl 64 (d + s)) : LSto d (s + 1) := by
  intro t ht
  by_cases e : t = s
  · subst e; exact h1
  · exact h t (by omega)
theorem LS.unique {d s t : Nat} (h : LS d s) (k : LS d t) : s = t := by
  by_cases h1 : s < t
  · have := k.2 s h1; have := h.1; omega
  · by_cases h2 : t < s
    · have := h.2 t h2; have := k.1; omega
    · omega

theorem implLeastSpike_any (d : Nat) (w : World) (hx : d ≤ 1000000) :
    Calls Try.prog 44 #[.int .i64 d] w fun e w' => ∃ s : Nat, LS d s ∧ s ≤ 64 ∧ e = .returned (.tuple #[.int .i64 s, .int .i64 0]) ∧ w = w' := by
  have h0 : (0 : Int) ≤ (d : Int) := by omega
  have h1 : (d : Int) ≤ 1000000 := by omega
  go_enter Try.func44, Try.ntmps44
  go_wp2
  go_loop [4] (fun a => ∃ s : Nat, s ≤ 64 ∧ LSto d s ∧ a = .int .i64 s) (fun a => 64 - (intOf a).toNat)
  case atStart => exact ⟨0, by omega, fun t ht => by omega, rfl⟩
  case round =>
    obtain ⟨s, hs, hto, rfl⟩ := hrel
    have hle := pcl_le 64 (d + s)
    by_cases hc : s < pcl 64 (d + s)
    · have hn := hto.next hc
      go_wp2_with (go_at_call 70; refine (countOnes_any (d + s) _ (by omega)).mono ?_; rintro e w' ⟨rfl, rfl⟩)
      go_round
      case rel => exact ⟨s + 1, by omega, hn, by go_num⟩
      case measure => simp [intOf]; omega
    · have hl : LS d s := ⟨by omega, hto⟩
      go_wp2_with (go_at_call 70; refine (countOnes_any (d + s) _ (by omega)).mono ?_; rintro e w' ⟨rfl, rfl⟩)
      go_ret2
      exact ⟨s, hl, hs, rfl, rfl⟩

theorem specSpike_any (d : Nat) (w : World) (hx : d ≤ 1000000) :
    Calls Try.prog 87 #[.int .i64 d] w fun e w' => ∃ s : Nat, LS d s ∧ e = .returned (.int .i64 s) ∧ Below w.heap.size w w' := by
  go_enter Try.func87, Try.ntmps87
  go_wp2
  go_loopw [3] (fun a wr => ∃ s : Nat, s ≤ 64 ∧ LSto d s ∧ a = .int .i64 s ∧ Below w.heap.size w wr) (fun a _ => 64 - (intOf a).toNat)
  case atStart => exact ⟨0, by omega, fun t ht => by omega, rfl, Below.refl _ _⟩
  case round =>
    obtain ⟨s, hs, hto, rfl, hbel⟩ := hrel
    have hle := pcl_le 64 (d + s)
    have hd := Lib.hid (dg_length (d + s) 64)
    have hsz := hbel.size
    by_cases hc : s < pcl 64 (d + s)
    · have hn := hto.next hc
      go_wp2_with (go_at_call 69; refine (l01Digits_any (d + s) _ (by omega)).mono ?_; rintro e w' ⟨v, rfl, hown, hb⟩; rw [hd.out] at hown; obtain ⟨a, cap, rfl, _⟩ := own_len hown; clear hown; have hb2 := hbel.trans (hb.mono hsz))
      go_roundw
      case rel => exact ⟨s + 1, by omega, hn, by go_num, by assumption⟩
      case measure => simp [intOf]; omega
    · have hl : LS d s := ⟨by omega, hto⟩
      go_wp2_with (go_at_call 69; refine (l01Digits_any (d + s) _ (by omega)).mono ?_; rintro e w' ⟨v, rfl, hown, hb⟩; rw [hd.out] at hown; obtain ⟨a, cap, rfl, _⟩ := own_len hown; clear hown; have hb2 := hbel.trans (hb.mono hsz))
      go_ret
      exact ⟨s, hl, rfl, by assumption⟩

theorem specLeastSpike_any (d : Nat) (w : World) (hx : d ≤ 1000000) :
    Calls Try.prog 47 #[.int .i64 d] w fun e w' => ∃ s : Nat, LS d s ∧ e = .returned (.tuple #[.int .i64 s, .int .i64 0]) ∧ Below w.heap.size w w' := by
  have h0 : (0 : Int) ≤ (d : Int) := by omega
  have h1 : (d : Int) ≤ 1000000 := by omega
  go_enter Try.func47, Try.ntmps47
  go_wp2_with (first | (go_at_call 64; go_in) | (go_at_call 87; refine (specSpike_any d _ hx).mono ?_; rintro e w1 ⟨s, hl, rfl, hb⟩))
  go_ret2
  exact ⟨_, by assumption, rfl, by assumption⟩

theorem walk_FnExactLeastSpike (a0 : Int) (w : World) (w0 : (Lit.int .i64 a0).wf = true) :
    Calls Try.prog 12 #[.int .i64 a0] w fun e w' => e = .returned (.bool true) ∧ Below w.heap.size w w' := by
  have b0 := i64_bounds w0
  clear w0
  by_cases h0 : 0 ≤ a0
  · by_cases h1 : a0 ≤ 1000000
    · obtain ⟨n, rfl⟩ := Int.eq_ofNat_of_zero_le h0
      go_enter Try.func12, Try.ntmps12
      go_wp2_with fail
      refine (specLeastSpike_any n _ (by omega)).mono ?_
      rintro e w1 ⟨s, hl, rfl, hb⟩
      go_wp2_with fail
      refine (implLeastSpike_any n _ (by omega)).mono ?_
      rintro e w2 ⟨t, hk, _, rfl, rfl⟩
      obtain rfl : s = t := hl.unique hk
      go_wp2_with fail
      go_ret
      exact ⟨rfl, hb⟩
    · go_enter Try.func12, Try.ntmps12
      go_wp2
      go_ret
      exact ⟨rfl, Below.refl _ _⟩
  · go_enter Try.func12, Try.ntmps12
    go_wp2
    go_ret
    exact ⟨rfl, Below.refl _ _⟩
end Go.Proofs.Ytfhfnjcfkpcmnaa
