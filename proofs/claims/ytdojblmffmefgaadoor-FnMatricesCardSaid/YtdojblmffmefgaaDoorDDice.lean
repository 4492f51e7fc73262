/-
  laws.roll, (*laws.dice).below, laws.same9.
-/
import Derived.Test.YtdojblmffmefgaaDoorDSame
import Derived.Test.YtdojblmffmefgaaDoorDFam
namespace Go.Proofs.YtdojblmffmefgaaDoor
open Go.RowKit
set_option linter.unusedVariables false
set_option maxRecDepth 100000

/-- The dice that lie in block g; the code lies below B. -/
def Dice (w : World) (g B : Nat) : Prop :=
  B ≤ g ∧ ∃ (a : Option Addr) (m cap at_ : Nat) (h : Int), Code w B a m ∧ m ≤ 4096 ∧ at_ ≤ m ∧ w.heap[g]? = some (.cells #[.slice a m cap, .int .i64 at_, .int .u64 h] 82 (0, 0))

def RollRes (w : World) (e : Ending) (w' : World) : Prop :=
  e = .returned (.pointer (some ⟨w.heap.size, 0, none⟩)) ∧ Below w.heap.size w w' ∧ Dice w' w.heap.size w.heap.size

set_option maxHeartbeats 1000000 in
theorem roll_any (a : Option Addr) (m cap : Nat) (seed : Int) (w : World) (hc : Code w w.heap.size a m) (hm : m ≤ 4096) :
    Calls Tryd.prog 32 #[.slice a m cap, .int .u64 seed] w (RollRes w) := by
  have HC := Lib.hid hc
  clear hc
  have t71 := Tryd.underlying82
  go_enter Tryd.func32, Tryd.ntmps32
  go_wp2
  generalize IntKind.u64.wrap (IntKind.u64.wrap (seed * 6257) + (m : Int)) = h0
  have HB0 : Hid ((w.alloc (.cells #[.slice a m cap, .int .i64 0, .int .u64 h0] 82)).heap[w.heap.size]? = some (.cells #[.slice a m cap, .int .i64 0, .int .u64 h0] 82 (0, 0))) := Lib.hid (heap_alloc_new w _)
  have B0 : Hid (Below w.heap.size w (w.alloc (.cells #[.slice a m cap, .int .i64 0, .int .u64 h0] 82))) := Lib.hid ((Below.refl _ w).alloc (Nat.le_refl _) _)
  generalize hG : w.heap.size = G at *
  go_loopw [6] (fun c wr => ∃ (j : Nat) (h : Int), j ≤ m ∧ c = .int .i64 j ∧ Hid (wr.heap[G]? = some (.cells #[.slice a m cap, .int .i64 0, .int .u64 h] 82 (0, 0))) ∧ Hid (Below G w wr)) (fun c _ => m - (intOf c).toNat)
  case atStart => exact ⟨0, _, by omega, rfl, HB0, B0⟩
  case round =>
    clear HB0 B0
    obtain ⟨j, h, hj, rfl, hblk, hb⟩ := hrel
    by_cases hlt : j < m
    · have hlt' : (j : Int) < (m : Int) := by omega
      have d2 : wr.cell? ⟨G, 2, none⟩ = some (.int .u64 h) := cell_of_row wr G 2 _ _ (0, 0) hblk.out
      have f2 : wr.frozen? ⟨G, 2, none⟩ = false := by simp [World.frozen?, hblk.out]
      rcases HC.out with h0 | ⟨b, off, rfl, hbl, hc⟩
      · omega
      obtain ⟨x, hx0, hx1, hx⟩ := hc j hlt
      have hx' := (hb.out.cell (p := ⟨b, off + j, none⟩) hbl).trans hx
      clear hc hx
      go_wp2
      go_region
      have HN : Hid ((wr.setCell ⟨G, 2, none⟩ (.int .u64 (IntKind.u64.wrap (IntKind.u64.wrap (IntKind.u64.wrap (h * 1099511628211) + x) + 5)))).heap[G]? = some (.cells #[.slice (some ⟨b, off, none⟩) m cap, .int .i64 0, .int .u64 (IntKind.u64.wrap (IntKind.u64.wrap (IntKind.u64.wrap (h * 1099511628211) + x) + 5))] 82 (0, 0))) := Lib.hid (by
        simp [World.setCell, Array.getElem?_modify, hblk.out])
      have HB3 : Hid (Below G w (wr.setCell ⟨G, 2, none⟩ (.int .u64 (IntKind.u64.wrap (IntKind.u64.wrap (IntKind.u64.wrap (h * 1099511628211) + x) + 5))))) := Lib.hid (Below.setCell (p := ⟨G, 2, none⟩) hb.out (Nat.le_refl _) _)
      generalize IntKind.u64.wrap (IntKind.u64.wrap (IntKind.u64.wrap (h * 1099511628211) + x) + 5) = h3 at *
      generalize IntKind.u64.wrap (IntKind.u64.wrap (h * 1099511628211) + x) = h4 at *
      go_wp2
      go_roundw
      case rel => exact ⟨j + 1, h3, by omega, by go_num, HN, Lib.hid HB3.out.drew⟩
      case measure => simp [intOf]; omega
    · obtain rfl : j = m := by omega
      go_wp2
      go_ret
      subst hG
      exact ⟨rfl, hb.out, Nat.le_refl _, a, j, cap, 0, h, HC.out.below hb.out, hm, Nat.zero_le _, hblk.out⟩

def DBelow (B : Nat) (n : Int) (w : World) (e : Ending) (w' : World) : Prop :=
  ∃ x : Int, e = .returned (.int .i64 x) ∧ 0 ≤ x ∧ x < n ∧ Below B w w'

set_option maxHeartbeats 1000000 in
theorem dice_below (g B : Nat) (n : Int) (w : World) (hs : Dice w g B) (h1 : 1 ≤ n) (h2 : n ≤ 2000000000000000) :
    Calls Tryd.prog 33 #[.pointer (some ⟨g, 0, none⟩), .int .i64 n] w (DBelow B n w) := by
  obtain ⟨hB, a, m, cap, at_, h, hcode, hm, hat, hblk⟩ := hs
  have hlt : g < w.heap.size := (Array.getElem?_eq_some_iff.1 hblk).1
  have d0 : w.cell? ⟨g, 0, none⟩ = some (.slice a m cap) := cell_of_row w g 0 _ _ (0, 0) hblk
  have d1 : w.cell? ⟨g, 1, none⟩ = some (.int .i64 at_) := cell_of_row w g 1 _ _ (0, 0) hblk
  have d2 : w.cell? ⟨g, 2, none⟩ = some (.int .u64 h) := cell_of_row w g 2 _ _ (0, 0) hblk
  have f1 : w.frozen? ⟨g, 1, none⟩ = false := by simp [World.frozen?, hblk]
  have f2 : w.frozen? ⟨g, 2, none⟩ = false := by simp [World.frozen?, hblk]
  have HC := Lib.hid hcode
  have HB := Lib.hid hblk
  clear hcode hblk
  have t71 := Tryd.underlying82
  have hn1 : ¬ n < 1 := by omega
  go_enter Tryd.func33, Tryd.ntmps33
  go_wp2
  generalize IntKind.u64.wrap (IntKind.u64.wrap (h * 6364136223846793005) + 1442695040888963407) = h2
  obtain ⟨k, hk, hk2⟩ := mask_le (h2 / 8589934592)
  rw [hk, IntWalk.wrap64_in (k : Int) ⟨by omega, by omega⟩]
  clear hk
  by_cases hlt2 : at_ < m
  · rcases HC.out with h0 | ⟨b, off, rfl, hb, hc⟩
    · omega
    obtain ⟨x, hx0, hx1, hx⟩ := hc at_ hlt2
    have hbg : b ≠ g := by omega
    clear hc
    go_quiet (fail)
    go_wp2
    go_quiet (fail)
    go_wp2
    go_ret
    refine ⟨(k + x) % n, rfl, Int.emod_nonneg _ (by omega), Int.emod_lt_of_pos _ (by omega), ?_⟩
    first
      | exact Below.setCell (p := ⟨g, 1, none⟩) (below_drewN (Below.setCell (p := ⟨g, 2, none⟩) (Below.refl B w) hB _) _) hB _
      | exact below_drewN (Below.setCell (p := ⟨g, 1, none⟩) (below_drewN (Below.setCell (p := ⟨g, 2, none⟩) (Below.refl B w) hB _) _) hB _) _
  · go_quiet (fail)
    go_wp2
    go_ret
    refine ⟨k % n, rfl, Int.emod_nonneg _ (by omega), Int.emod_lt_of_pos _ (by omega), ?_⟩
    exact below_drewN (Below.setCell (p := ⟨g, 2, none⟩) (Below.refl B w) hB _) _

theorem same9_same (Va Vb : Value) (m : Nat) (Ba Bb : Nat) (VA VB : Nat → Value) (Y : Nat → List Int) (w : World) (ha : Fam w Ba Va m VA Y) (hb : Fam w Bb Vb m VB Y) :
    Calls Tryd.prog 19 #[Va, Vb] w fun e w' => e = .returned (.bool true) ∧ ∃ q, w' = w.drewN q := by
  obtain ⟨aa, capa, rfl, hm, hca⟩ := ha.head
  obtain ⟨ab, capb, rfl, _, hcb⟩ := hb.head
  unfold maxLen at hm
  have RA := Lib.hid ha.rd
  have RB := Lib.hid hb.rd
  clear ha hb
  by_cases h0 : m = 0
  · subst h0
    clear hca hcb RA RB
    go_enter Tryd.func19, Tryd.ntmps19
    go_wp2
    refine wp_loop_rounds 1 ?_
    rw [rounds_succ]
    go_wp2
    go_ret
    exact ⟨rfl, 0, rfl⟩
  · obtain ⟨ba, rfl, hca'⟩ := hca.resolve_left h0
    obtain ⟨bb, rfl, hcb'⟩ := hcb.resolve_left h0
    have hpos : 0 < m := by omega
    have HA := Lib.hid hca'
    have HB := Lib.hid hcb'
    clear hca hcb hca' hcb' h0
    go_enter Tryd.func19, Tryd.ntmps19
    go_wp2
    go_loopw [5] (fun i wr => ∃ k q : Nat, k ≤ m ∧ i = .int .i64 k ∧ Hid (wr = w.drewN q)) (fun i _ => m - (intOf i).toNat)
    case atStart => exact ⟨0, 0, by omega, rfl, Lib.hid rfl⟩
    case round =>
      obtain ⟨k, q, hk, rfl, hw⟩ := hrel
      by_cases hlt : k < m
      · have c1 : wr.cell? ⟨ba, k, none⟩ = some (VA k) := by rw [hw.out]; exact HA.out k hlt
        have c2 : wr.cell? ⟨bb, k, none⟩ = some (VB k) := by rw [hw.out]; exact HB.out k hlt
        have hlt' : (k : Int) < (m : Int) := by omega
        have E : ∀ n, Calls Tryd.prog 58 #[VA k, VB k] (wr.drewN n) fun e w' => e = .returned (.bool true) ∧ ∃ p, w' = (wr.drewN n).drewN p := by
          intro n
          have e1 : RdI (wr.drewN n) (VA k) (Y k).length (fun j => (Y k)[j]?.getD 0) := by rw [hw.out]; exact RA.out k hlt
          have e2 : RdI (wr.drewN n) (VB k) (Y k).length (fun j => (Y k)[j]?.getD 0) := by rw [hw.out]; exact RB.out k hlt
          exact likeInts_same _ _ _ _ _ e1 e2
        have E := Lib.hid E
        generalize VA k = va at c1 E
        generalize VB k = vb at c2 E
        go_wp2
        go_quiet ((go_at_call 58; exact Calls.quiet_of (E.out _)))
        go_wp2
        go_roundw
        case rel => exact ⟨k + 1, q + nq, by omega, by go_num, Lib.hid (by rw [hw.out]; exact World.drewN_drewN ..)⟩
        case measure => simp [intOf]; omega
      · go_wp2
        go_ret
        exact ⟨rfl, q, hw.out⟩
end Go.Proofs.YtdojblmffmefgaaDoor
