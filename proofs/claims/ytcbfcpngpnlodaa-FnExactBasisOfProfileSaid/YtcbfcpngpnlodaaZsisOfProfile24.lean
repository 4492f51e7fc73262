/-
  Joined: WDigits, WImplDigits, WBinomial, WDigitsOf, WCount.
-/
import Derived.Test.YtcbfcpngpnlodaaRows
import Derived.Test.YtcbfcpngpnlodaaZsisOfProfile02
import Derived.Test.YtcbfcpngpnlodaaZsisOfProfile23
import Derived.WalkLawsBesides
import Derived.WalkSpells
import Derived.Lib.Hide
import Derived.Test.YtcbfcpngpnlodaaZsisOfProfile06
import Derived.Test.YtcbfcpngpnlodaaZsisOfProfile01
import Derived.Test.YtcbfcpngpnlodaaZsisOfProfile22
import Derived.BigRegion
section
namespace Go.Proofs.Ytcbfcpngpnlodaa
open Go.RowKit
set_option maxRecDepth 100000
set_option linter.unusedVariables false

theorem dg_next (n i m : Nat) (h : m = n / 2 ^ i) (l : List Int) (hl : l = dg n i) : (m % 2 = 1 → l ++ [(i : Int)] = dg n (i + 1)) ∧ (m % 2 = 0 → l = dg n (i + 1)) ∧ m / 2 = n / 2 ^ (i + 1) := by
  subst h hl
  refine ⟨fun h => ?_, fun h => ?_, ?_⟩
  · rw [dg, if_pos h]
  · rw [dg, if_neg (by omega), List.append_nil]
  · rw [Nat.div_div_eq_div_mul, Nat.pow_succ]

theorem i_lt (n i m : Nat) (h : m = n / 2 ^ i) (hn : n < 9223372036854775808) (hm : 0 < m) : i < 63 := by
  apply Decidable.byContradiction
  intro hc
  have : 2 ^ 63 ≤ 2 ^ i := Nat.pow_le_pow_right (by decide) (by omega)
  have : n / 2 ^ i = 0 := Nat.div_eq_of_lt (by omega)
  omega

theorem dg_end (n i m : Nat) (h : m = n / 2 ^ i) (hi : i ≤ 64) (hm : m = 0) : dg n i = dg n 64 := by
  have e : 64 = i + (64 - i) := by omega
  rw [e, dg_stop n i (by omega)]

end Go.Proofs.Ytcbfcpngpnlodaa
end
section
namespace Go.Proofs.Ytcbfcpngpnlodaa
open Go.RowKit
set_option maxRecDepth 100000
set_option linter.unusedVariables false

theorem pow_div (n i : Nat) : ((n : Int) / 2 ^ i) = ((n / 2 ^ i : Nat) : Int) := by
  rw [Int.natCast_ediv]; simp
theorem and_one (m : Nat) (h : m < 2 ^ 63) : bits .and .i64 (m : Int) 1 = ((m % 2 : Nat) : Int) := by
  rw [show (1 : Int) = ((1 : Nat) : Int) from rfl, i64_and m 1 h (by decide), Nat.and_one_is_mod]
end Go.Proofs.Ytcbfcpngpnlodaa
end
section
namespace Go.Proofs.Ytcbfcpngpnlodaa
open Go.RowKit
set_option maxRecDepth 100000


end Go.Proofs.Ytcbfcpngpnlodaa
end
section
namespace Go.Proofs.Ytcbfcpngpnlodaa
set_option maxRecDepth 100000
set_option linter.unusedVariables false
open Go.RowKit

/-- What DigitsOf returns: the places, and the code. -/
def dgOf (a : Int) : List Int := if 0 ≤ a ∧ a ≤ 1000000000000 then dg a.toNat 64 else []
def cdOf (a : Int) : Int := if 0 ≤ a ∧ a ≤ 1000000000000 then 0 else 2
theorem dgOf_len (a : Int) : (dgOf a).length ≤ 64 := by
  unfold dgOf
  split
  · rw [dg_length]; exact pcl_le _ _
  · exact Nat.zero_le _

end Go.Proofs.Ytcbfcpngpnlodaa
end
section
namespace Go.Proofs.Ytcbfcpngpnlodaa
open Go.RowKit
set_option maxRecDepth 100000
set_option linter.unusedVariables false

theorem spike_num (i : Nat) (h : i ≤ 60) : wrap64 (wrap64 (2 ^ i) - 1) = ((2 ^ i - 1 : Nat) : Int) := by
  have hp : 2 ^ i ≤ 2 ^ 60 := Nat.pow_le_pow_right (by decide) h
  have h1 : 1 ≤ 2 ^ i := Nat.one_le_two_pow
  have e : ((2 : Int) ^ i) = ((2 ^ i : Nat) : Int) := by simp
  rw [e]
  generalize 2 ^ i = x at *
  unfold wrap64
  omega

theorem spikeNumber_any (i : Nat) (w : World) (h : i ≤ 60) :
    Calls Try.prog 77 #[.int .i64 i] w fun e w' => e = .returned (.int .i64 (((2 ^ i - 1 : Nat)) : Int)) ∧ w = w' := by
  have h0 : (0 : Int) ≤ (i : Int) := by omega
  go_enter Try.func77, Try.ntmps77
  go_wp2
  go_ret
  exact ⟨by show Ending.returned (.int .i64 (wrap64 (wrap64 (2 ^ i) - 1))) = _; rw [spike_num i h], rfl⟩

theorem own_cell {w : World} {B g n cap : Nat} {xs : List Int} (h : w.ownsRow B 2 1 (.slice (some ⟨g, 0, none⟩) n cap) n (xs.map (Value.int .i64))) (j : Nat) (hj : j < n) : w.cell? ⟨g, j, none⟩ = some (.int .i64 (xs[j]?.getD 0)) := by
  have hl := h.1
  rw [List.length_map] at hl
  rw [h.cellAt j (by omega), List.getElem?_map, List.getElem?_eq_getElem (by omega)]
  rfl

theorem made_list (d : Nat) : (madeCells (Value.cells (.int .i64 0)) ((d + 1) * 1)).toList = (List.replicate (d + 1) (0 : Int)).map (Value.int .i64) := by
  rw [Nat.mul_one, List.map_replicate]
  exact toList_madeCells_one _ _

set_option maxRecDepth 100000 in
theorem specCount_any (d : Nat) (w : World) (hx : d ≤ 300) :
    Calls Try.prog 84 #[.int .i64 d] w fun e w' => ∃ g, e = .returned (.slice (some ⟨g, 0, none⟩) (d + 1) (d + 1)) ∧ w'.ownsRow w.heap.size 2 1 (.slice (some ⟨g, 0, none⟩) (d + 1) (d + 1)) (d + 1) ((cpTo d 301).map (Value.int .i64)) ∧ Below w.heap.size w w' := by
  obtain ⟨i0, hi, hz0, hz1, hz2⟩ := info_parts Try.info2
  go_enter Try.func84, Try.ntmps84
  go_wp2_with (at_make; refine wpList_make_full _ rfl _ _ 22 rfl w.heap.size 2 i0 (.int .i64 0) 1 Try.underlying22 hi hz0 hz1 .i64 .i64 ((d : Int) + 1) ((d : Int) + 1) (d + 1) rfl rfl (by omega) (by omega) (by rw [hz2]; omega) (by unfold maxLen; omega) (Nat.le_refl _) ?_; intro w1 hown hgrow; rw [made_list] at hown; have hc0 := own_cell hown 0 (by omega); have hf0 := hown.frozenAt 0; have H1 := Lib.hid hown; have G1 := Lib.hid hgrow; clear hown hgrow)
  have hst := H1.out.stored 0 (.int .i64 1)
  have e0 : ((List.replicate (d + 1) (0 : Int)).map (Value.int .i64)).set 0 (.int .i64 1) = (cpTo d 0).map (Value.int .i64) := rfl
  rw [e0] at hst
  have B1 : Below w.heap.size w (w1.setCell ⟨w.heap.size, 0, none⟩ (.int .i64 1)) := ((Below.refl _ w).grown G1.out (Nat.le_refl _) (by intro k hk; cases hk)).setCell (Nat.le_refl _) _
  have O1 := Lib.hid hst.1
  clear hst e0 hc0 hf0 H1 G1
  generalize hW : w1.setCell ⟨w.heap.size, 0, none⟩ (.int .i64 1) = w2 at O1 B1 ⊢
  clear hW
  go_loopw [4, 5] (fun a c wr => ∃ i : Nat, i ≤ 301 ∧ a = .int .i64 (sp i) ∧ Hid (wr.ownsRow w.heap.size 2 1 (.slice (some ⟨w.heap.size, 0, none⟩) (d + 1) (d + 1)) (d + 1) ((cpTo d i).map (Value.int .i64))) ∧ Below w.heap.size w wr) (fun a _ _ => d + 1 - (intOf a).toNat)
  case atStart => exact ⟨0, by omega, rfl, O1, B1⟩
  case round =>
    clear O1 B1
    obtain ⟨i, hi1, rfl, ho, hb⟩ := hrel
    have hsg := sp_gt i
    by_cases hle : sp i ≤ d
    · have E : Hid (cpTo d (i + 1) = cpRow (sp i) (cpTo d i) (d + 1 - sp i)) := Lib.hid rfl
      have E2 : Hid (sp (i + 1) = 2 * sp i + 1) := Lib.hid rfl
      have hlen := Lib.hid (cpTo_length d i)
      generalize hp : sp i = p at *
      clear hp
      go_wp2
      obtain ⟨wo, rfl⟩ : ∃ wo : World, wo = wr := ⟨_, rfl⟩
      go_loopw [5] (fun c wr => ∃ m : Nat, p + m ≤ d + 1 ∧ c = .int .i64 ((p : Int) + (m : Int)) ∧ Hid (wr.ownsRow w.heap.size 2 1 (.slice (some ⟨w.heap.size, 0, none⟩) (d + 1) (d + 1)) (d + 1) ((cpRow p (cpTo d i) m).map (Value.int .i64))) ∧ Below w.heap.size w wr) (fun c _ => d + 1 - (intOf c).toNat)
      case atStart => exact ⟨0, by omega, by simp, ho, hb⟩
      case round =>
        clear ho hb
        obtain ⟨m, hm, rfl, ho, hb⟩ := hrel
        by_cases hlt : p + m ≤ d
        · have c1 := own_cell ho.out (p + m) (by omega)
          have c2 := own_cell ho.out m (by omega)
          have f1 := ho.out.frozenAt (p + m)
          have hup := Lib.hid (map_upd p (cpRow p (cpTo d i) m) (p + m))
          have e3 : p + m - p = m := by omega
          rw [e3] at hup
          clear e3
          generalize (cpRow p (cpTo d i) m)[p + m]?.getD 0 = u at c1 hup
          generalize (cpRow p (cpTo d i) m)[m]?.getD 0 = v at c2 hup
          have hlt' : (p : Int) + (m : Int) ≤ (d : Int) := by omega
          have hst := ho.out.stored (p + m) (.int .i64 (wrap64 (u + v)))
          rw [← hup.out] at hst
          have HS := Lib.hid hst
          clear hst ho
          have hsz := hb.size
          go_wp2
          go_region
          go_wp2
          go_roundw
          case rel => exact ⟨m + 1, by omega, by go_num, Lib.hid (by rw [cpRow]; exact HS.out.1), (hb.setCell (Nat.le_refl _) _).drew⟩
          case measure => simp [intOf]; omega
        · have hlt' : ¬ (p : Int) + (m : Int) ≤ (d : Int) := by omega
          obtain rfl : m = d + 1 - p := by omega
          go_wp2
          go_roundw
          case rel => exact ⟨i + 1, by omega, by rw [E2.out]; go_num, by rw [E.out]; exact ho, hb⟩
          case measure => simp [intOf]; omega
    · have hle' : ¬ (sp i : Int) ≤ (d : Int) := by omega
      have hE := Lib.hid (cpTo_end d i 301 (by omega) hi1)
      go_wp2
      go_ret
      exact ⟨w.heap.size, rfl, by rw [← hE.out]; exact ho.out, hb⟩

theorem spike_sp (i : Nat) (w : World) (h : i ≤ 59) :
    Calls Try.prog 77 #[.int .i64 ((i : Int) + 1)] w fun e w' => e = .returned (.int .i64 (sp i)) ∧ w = w' := by
  have e : sp i = 2 ^ (i + 1) - 1 := by have := sp_pow i; omega
  rw [e]
  exact spikeNumber_any (i + 1) w (by omega)

theorem sp_small (i : Nat) (h : sp i ≤ 300) : i ≤ 7 := by
  apply Decidable.byContradiction
  intro hc
  obtain ⟨j, rfl⟩ : ∃ j, i = 8 + j := ⟨i - 8, by omega⟩
  have := sp_mono 8 j
  have e : sp 8 = 511 := by decide
  omega

end Go.Proofs.Ytcbfcpngpnlodaa
end
