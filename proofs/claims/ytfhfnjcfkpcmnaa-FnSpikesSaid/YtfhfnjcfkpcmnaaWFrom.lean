/-
  spec.l01From: a source in a new block.
-/
import Derived.Test.YtfhfnjcfkpcmnaaWDraw
import Derived.BigRegion
import Derived.StillTailTactics
namespace Go.Proofs.Ytfhfnjcfkpcmnaa
open Go.RowKit
set_option linter.unusedVariables false

/-- What spec.l01From returns: a source in a new block. -/
def FromRes (w : World) (e : Ending) (w' : World) : Prop :=
  e = .returned (.pointer (some ⟨w.heap.size, 0, none⟩)) ∧ Below w.heap.size w w' ∧ Src w' w.heap.size w.heap.size

set_option maxRecDepth 100000 in
theorem l01From_any (a : Option Addr) (m cap : Nat) (w : World) (hc : Code w w.heap.size a m) (hm : m ≤ 4096) :
    Calls Try.prog 60 #[.slice a m cap] w (FromRes w) := by
  have HC := Lib.hid hc
  clear hc
  have t71 := Try.underlying71
  go_enter Try.func60, Try.ntmps60
  go_wp2
  have HB0 : Hid ((w.alloc (.cells #[.slice a m cap, .int .i64 0, .int .u64 (7451 + (m : Int))] 71)).heap[w.heap.size]? = some (.cells #[.slice a m cap, .int .i64 0, .int .u64 (7451 + (m : Int))] 71 (0, 0))) := Lib.hid (heap_alloc_new w _)
  have B0 : Hid (Below w.heap.size w (w.alloc (.cells #[.slice a m cap, .int .i64 0, .int .u64 (7451 + (m : Int))] 71))) := Lib.hid ((Below.refl _ w).alloc (Nat.le_refl _) _)
  generalize hG : w.heap.size = G at *
  go_loopw [4] (fun c wr => ∃ (j : Nat) (h : Int), j ≤ m ∧ c = .int .i64 j ∧ Hid (wr.heap[G]? = some (.cells #[.slice a m cap, .int .i64 0, .int .u64 h] 71 (0, 0))) ∧ Hid (Below G w wr)) (fun c _ => m - (intOf c).toNat)
  case atStart => exact ⟨0, _, by omega, rfl, HB0, B0⟩
  case round =>
    clear HB0 B0
    obtain ⟨j, h, hj, rfl, hblk, hb⟩ := hrel
    by_cases hlt : j < m
    · have hlt' : (j : Int) < (m : Int) := by omega
      have d2 : wr.cell? ⟨G, 2, none⟩ = some (.int .u64 h) := cell_of_row wr G 2 _ _ (0, 0) hblk.out
      have f2 : wr.frozen? ⟨G, 2, none⟩ = false := by simp [World.frozen?, hblk.out]
      rcases HC.out with h0 | ⟨b, off, rfl, hbl, hc⟩
      · omega
      obtain ⟨x, hx0, hx1, hx⟩ := hc j hlt
      have hx' := (hb.out.cell (p := ⟨b, off + j, none⟩) hbl).trans hx
      clear hc hx
      go_wp2
      go_region
      have HN : Hid ((wr.setCell ⟨G, 2, none⟩ (.int .u64 (IntKind.u64.wrap (IntKind.u64.wrap (IntKind.u64.wrap (h * 1099511628211) + x) + 11)))).heap[G]? = some (.cells #[.slice (some ⟨b, off, none⟩) m cap, .int .i64 0, .int .u64 (IntKind.u64.wrap (IntKind.u64.wrap (IntKind.u64.wrap (h * 1099511628211) + x) + 11))] 71 (0, 0))) := Lib.hid (by
        simp [World.setCell, Array.getElem?_modify, hblk.out])
      have HB3 : Hid (Below G w (wr.setCell ⟨G, 2, none⟩ (.int .u64 (IntKind.u64.wrap (IntKind.u64.wrap (IntKind.u64.wrap (h * 1099511628211) + x) + 11))))) := Lib.hid (Below.setCell (p := ⟨G, 2, none⟩) hb.out (Nat.le_refl _) _)
      generalize IntKind.u64.wrap (IntKind.u64.wrap (IntKind.u64.wrap (h * 1099511628211) + x) + 11) = h3 at *
      generalize IntKind.u64.wrap (IntKind.u64.wrap (h * 1099511628211) + x) = h4 at *
      go_wp2
      go_roundw
      case rel => exact ⟨j + 1, h3, by omega, by go_num, HN, Lib.hid HB3.out.drew⟩
      case measure => simp [intOf]; omega
    · obtain rfl : j = m := by omega
      go_wp2
      go_ret
      subst hG
      exact ⟨rfl, hb.out, Nat.le_refl _, a, j, cap, 0, h, HC.out.below hb.out, hm, Nat.zero_le _, hblk.out⟩
end Go.Proofs.Ytfhfnjcfkpcmnaa
