/-
  The source of numbers that follow from a code: spec.l01Next gives a number from 0 to n - 1.
-/
import Derived.Test.YtdojblmffmefgaaDoorWArgs
import Derived.Test.YtdojblmffmefgaaDoorPlainBits
import Derived.Deep.QuietTactic
import Derived.BigQuiet
import Derived.BigRegion
import Derived.StillTailTactics
import Derived.Laws.Bits64b
namespace Go.Proofs.YtdojblmffmefgaaDoor
open Go.RowKit
set_option linter.unusedVariables false

theorem mask_le (X : Int) : ∃ k : Nat, bits .and .u64 X 16777215 = (k : Int) ∧ k ≤ 16777215 := by
  refine ⟨(BitVec.ofInt 64 X &&& BitVec.ofInt 64 16777215).toNat, ?_, ?_⟩
  · show IntKind.u64.wrap ((BitVec.ofInt 64 X &&& BitVec.ofInt 64 16777215).toNat : Int) = _
    rw [IntKind.wrap_u64]
    have := (BitVec.ofInt 64 X &&& BitVec.ofInt 64 16777215).isLt
    omega
  · rw [BitVec.toNat_and]
    exact Nat.le_trans Nat.and_le_right (by decide)

/-- The bytes that a code lies in, all of them below B. -/
def Code (w : World) (B : Nat) (a : Option Addr) (m : Nat) : Prop :=
  m = 0 ∨ ∃ b off, a = some ⟨b, off, none⟩ ∧ b < B ∧ ∀ i, i < m → ∃ x : Int, 0 ≤ x ∧ x ≤ 255 ∧ w.cell? ⟨b, off + i, none⟩ = some (.int .u8 x)

theorem Code.below {w w' : World} {B : Nat} {a : Option Addr} {m : Nat} (h : Code w B a m) (k : Below B w w') : Code w' B a m := by
  rcases h with h | ⟨b, off, rfl, hb, hc⟩
  · exact .inl h
  · refine .inr ⟨b, off, rfl, hb, fun i hi => ?_⟩
    obtain ⟨x, h0, h1, h2⟩ := hc i hi
    exact ⟨x, h0, h1, (k.cell (p := ⟨b, off + i, none⟩) hb).trans h2⟩

/-- The source that lies in block g; the code lies below B. -/
def Src (w : World) (g B : Nat) : Prop :=
  B ≤ g ∧ ∃ (a : Option Addr) (m cap at_ : Nat) (h : Int), Code w B a m ∧ m ≤ 4096 ∧ at_ ≤ m ∧ w.heap[g]? = some (.cells #[.slice a m cap, .int .i64 at_, .int .u64 h] 108 (0, 0))

def NextRes (B g : Nat) (n : Int) (w : World) (e : Ending) (w' : World) : Prop :=
  ∃ x : Int, e = .returned (.int .i64 x) ∧ 0 ≤ x ∧ x < n ∧ Below B w w' ∧ Src w' g B ∧ ∀ b, b ≠ g → w'.heap[b]? = w.heap[b]?

set_option maxRecDepth 100000 in
theorem l01Next_any (g B : Nat) (n : Int) (w : World) (hs : Src w g B) (h1 : 1 ≤ n) (h2 : n ≤ 2000000000000000) :
    Calls Tryd.prog 74 #[.pointer (some ⟨g, 0, none⟩), .int .i64 n] w (NextRes B g n w) := by
  obtain ⟨hB, a, m, cap, at_, h, hcode, hm, hat, hblk⟩ := hs
  have hlt : g < w.heap.size := (Array.getElem?_eq_some_iff.1 hblk).1
  have d0 : w.cell? ⟨g, 0, none⟩ = some (.slice a m cap) := cell_of_row w g 0 _ _ (0, 0) hblk
  have d1 : w.cell? ⟨g, 1, none⟩ = some (.int .i64 at_) := cell_of_row w g 1 _ _ (0, 0) hblk
  have d2 : w.cell? ⟨g, 2, none⟩ = some (.int .u64 h) := cell_of_row w g 2 _ _ (0, 0) hblk
  have f1 : w.frozen? ⟨g, 1, none⟩ = false := by simp [World.frozen?, hblk]
  have f2 : w.frozen? ⟨g, 2, none⟩ = false := by simp [World.frozen?, hblk]
  have HC := Lib.hid hcode
  have HB := Lib.hid hblk
  clear hcode hblk
  have t71 := Tryd.underlying108
  go_enter Tryd.func74, Tryd.ntmps74
  go_wp2
  generalize IntKind.u64.wrap (IntKind.u64.wrap (h * 6364136223846793005) + 1442695040888963407) = h2
  obtain ⟨k, hk, hk2⟩ := mask_le (h2 / 8589934592)
  rw [hk, IntWalk.wrap64_in (k : Int) ⟨by omega, by omega⟩]
  clear hk
  have HB2 : Hid ((w.setCell ⟨g, 2, none⟩ (.int .u64 h2)).heap[g]? = some (.cells #[.slice a m cap, .int .i64 at_, .int .u64 h2] 108 (0, 0))) := Lib.hid (by
    simp [World.setCell, Array.getElem?_modify, HB.out])
  by_cases hlt2 : at_ < m
  · rcases HC.out with h0 | ⟨b, off, rfl, hb, hc⟩
    · omega
    obtain ⟨x, hx0, hx1, hx⟩ := hc at_ hlt2
    have hbg : b ≠ g := by omega
    clear hc
    go_quiet (fail)
    go_wp2
    go_quiet (fail)
    go_wp2
    go_ret
    refine ⟨(k + x) % n, rfl, Int.emod_nonneg _ (by omega), Int.emod_lt_of_pos _ (by omega), ?_, ⟨hB, some ⟨b, off, none⟩, m, cap, at_ + 1, h2, ?_, hm, hlt2, ?_⟩, ?_⟩
    · exact Below.setCell (p := ⟨g, 1, none⟩) (below_drewN (Below.setCell (p := ⟨g, 2, none⟩) (Below.refl B w) hB _) _) hB _
    · exact HC.out.below (Below.setCell (p := ⟨g, 1, none⟩) (below_drewN (Below.setCell (p := ⟨g, 2, none⟩) (Below.refl B w) hB _) _) hB _)
    · simp [World.setCell, World.drewN, Array.getElem?_modify, HB.out]
    · intro c hcg
      simp [World.setCell, World.drewN, Array.getElem?_modify, Ne.symm hcg]
  · go_quiet (fail)
    go_wp2
    go_ret
    refine ⟨k % n, rfl, Int.emod_nonneg _ (by omega), Int.emod_lt_of_pos _ (by omega), ?_, ⟨hB, a, m, cap, at_, h2, ?_, hm, hat, HB2.out⟩, ?_⟩
    · exact below_drewN (Below.setCell (p := ⟨g, 2, none⟩) (Below.refl B w) hB _) _
    · exact HC.out.below (below_drewN (Below.setCell (p := ⟨g, 2, none⟩) (Below.refl B w) hB _) _)
    · intro c hcg
      simp [World.setCell, World.drewN, Array.getElem?_modify, Ne.symm hcg]

/-- spec.l01Pick at k numbers that lie in block r: one of them. -/
def PickRes (B g : Nat) (zs : List Int) (w : World) (e : Ending) (w' : World) : Prop :=
  ∃ x : Int, e = .returned (.int .i64 x) ∧ x ∈ zs ∧ Below B w w' ∧ Src w' g B ∧ ∀ b, b ≠ g → w'.heap[b]? = w.heap[b]?

set_option maxRecDepth 100000 in
theorem l01Pick_any (g B r cap : Nat) (zs : List Int) (w : World) (hs : Src w g B) (hr : w.heap[r]? = some (.cells (zs.map (Value.int .i64)).toArray 2 (0, 0))) (hgr : g ≠ r) (h1 : 1 ≤ zs.length) (h2 : zs.length ≤ 4) :
    Calls Tryd.prog 111 #[.pointer (some ⟨g, 0, none⟩), .slice (some ⟨r, 0, none⟩) zs.length cap] w (PickRes B g zs w) := by
  have N := Lib.hid (l01Next_any g B (zs.length : Int) w hs (by omega) (by omega))
  go_enter Tryd.func111, Tryd.ntmps111
  go_wp2_with fail
  refine N.out.mono ?_
  rintro e w1 ⟨x, rfl, hx0, hx1, hb, hsrc, hk⟩
  have hr1 : w1.heap[r]? = some (.cells (zs.map (Value.int .i64)).toArray 2 (0, 0)) := (hk r (Ne.symm hgr)).trans hr
  obtain ⟨k, rfl⟩ := Int.eq_ofNat_of_zero_le hx0
  have hkl : k < zs.length := by omega
  have hc : w1.cell? ⟨r, k, none⟩ = some (.int .i64 (zs[k]'hkl)) := (cell_of_row w1 r k _ _ (0, 0) hr1).trans (by simp [hkl])
  have HS := Lib.hid hsrc
  have HM := Lib.hid (show zs[k]'hkl ∈ zs from List.getElem_mem hkl)
  have HB := Lib.hid hb
  have HK := Lib.hid hk
  clear hr1 hsrc hb hk hr N
  generalize zs[k]'hkl = z at hc HM
  go_wp2
  go_ret
  exact ⟨z, rfl, HM.out, HB.out, HS.out, HK.out⟩

theorem Src.lt {w : World} {g B : Nat} (h : Src w g B) : B ≤ g ∧ g < w.heap.size := by
  obtain ⟨hB, _, _, _, _, _, _, _, _, hblk⟩ := h
  exact ⟨hB, (Array.getElem?_eq_some_iff.1 hblk).1⟩

theorem Src.alloc {w : World} {g B : Nat} (h : Src w g B) (o : Obj) : Src (w.alloc o) g B := by
  have hl := h.lt
  obtain ⟨hB, a, m, cap, at_, x, hc, hm, ha, hblk⟩ := h
  exact ⟨hB, a, m, cap, at_, x, hc.below ((Below.refl B w).alloc (by omega) o), hm, ha, ((Below.heap_alloc w o g hl.2).trans hblk)⟩

/-- What spec.l01From returns: a source in a new block. -/
def FromRes (w : World) (e : Ending) (w' : World) : Prop :=
  e = .returned (.pointer (some ⟨w.heap.size, 0, none⟩)) ∧ Below w.heap.size w w' ∧ Src w' w.heap.size w.heap.size

set_option maxRecDepth 100000 in
theorem l01From_any (a : Option Addr) (m cap : Nat) (w : World) (hc : Code w w.heap.size a m) (hm : m ≤ 4096) :
    Calls Tryd.prog 68 #[.slice a m cap] w (FromRes w) := by
  have HC := Lib.hid hc
  clear hc
  have t71 := Tryd.underlying108
  go_enter Tryd.func68, Tryd.ntmps68
  go_wp2
  have HB0 : Hid ((w.alloc (.cells #[.slice a m cap, .int .i64 0, .int .u64 (7451 + (m : Int))] 108)).heap[w.heap.size]? = some (.cells #[.slice a m cap, .int .i64 0, .int .u64 (7451 + (m : Int))] 108 (0, 0))) := Lib.hid (heap_alloc_new w _)
  have B0 : Hid (Below w.heap.size w (w.alloc (.cells #[.slice a m cap, .int .i64 0, .int .u64 (7451 + (m : Int))] 108))) := Lib.hid ((Below.refl _ w).alloc (Nat.le_refl _) _)
  generalize hG : w.heap.size = G at *
  go_loopw [4] (fun c wr => ∃ (j : Nat) (h : Int), j ≤ m ∧ c = .int .i64 j ∧ Hid (wr.heap[G]? = some (.cells #[.slice a m cap, .int .i64 0, .int .u64 h] 108 (0, 0))) ∧ Hid (Below G w wr)) (fun c _ => m - (intOf c).toNat)
  case atStart => exact ⟨0, _, by omega, rfl, HB0, B0⟩
  case round =>
    clear HB0 B0
    obtain ⟨j, h, hj, rfl, hblk, hb⟩ := hrel
    by_cases hlt : j < m
    · have hlt' : (j : Int) < (m : Int) := by omega
      have d2 : wr.cell? ⟨G, 2, none⟩ = some (.int .u64 h) := cell_of_row wr G 2 _ _ (0, 0) hblk.out
      have f2 : wr.frozen? ⟨G, 2, none⟩ = false := by simp [World.frozen?, hblk.out]
      rcases HC.out with h0 | ⟨b, off, rfl, hbl, hc⟩
      · omega
      obtain ⟨x, hx0, hx1, hx⟩ := hc j hlt
      have hx' := (hb.out.cell (p := ⟨b, off + j, none⟩) hbl).trans hx
      clear hc hx
      go_wp2
      go_region
      have HN : Hid ((wr.setCell ⟨G, 2, none⟩ (.int .u64 (IntKind.u64.wrap (IntKind.u64.wrap (IntKind.u64.wrap (h * 1099511628211) + x) + 11)))).heap[G]? = some (.cells #[.slice (some ⟨b, off, none⟩) m cap, .int .i64 0, .int .u64 (IntKind.u64.wrap (IntKind.u64.wrap (IntKind.u64.wrap (h * 1099511628211) + x) + 11))] 108 (0, 0))) := Lib.hid (by
        simp [World.setCell, Array.getElem?_modify, hblk.out])
      have HB3 : Hid (Below G w (wr.setCell ⟨G, 2, none⟩ (.int .u64 (IntKind.u64.wrap (IntKind.u64.wrap (IntKind.u64.wrap (h * 1099511628211) + x) + 11))))) := Lib.hid (Below.setCell (p := ⟨G, 2, none⟩) hb.out (Nat.le_refl _) _)
      generalize IntKind.u64.wrap (IntKind.u64.wrap (IntKind.u64.wrap (h * 1099511628211) + x) + 11) = h3 at *
      generalize IntKind.u64.wrap (IntKind.u64.wrap (h * 1099511628211) + x) = h4 at *
      go_wp2
      go_roundw
      case rel => exact ⟨j + 1, h3, by omega, by go_num, HN, Lib.hid HB3.out.drew⟩
      case measure => simp [intOf]; omega
    · obtain rfl : j = m := by omega
      go_wp2
      go_ret
      subst hG
      exact ⟨rfl, hb.out, Nat.le_refl _, a, j, cap, 0, h, HC.out.below hb.out, hm, Nat.zero_le _, hblk.out⟩

theorem Src.news {w w' : World} {g B : Nat} (h : Src w g B) (k : Below w.heap.size w w') : Src w' g B := by
  have hl := h.lt
  obtain ⟨hB, a, m, cap, at_, x, hc, hm, ha, hblk⟩ := h
  exact ⟨hB, a, m, cap, at_, x, hc.below (k.mono (by omega)), hm, ha, (k.block g hl.2).trans hblk⟩

set_option maxRecDepth 100000 in
theorem big_no (a : Option Addr) (m cap : Nat) (w : World) (hm : m ≤ 4096) :
    Calls Tryd.prog 15 #[.slice a m cap] w fun e w' => e = .returned (.bool false) ∧ w' = w := by
  go_enter Tryd.func15, Tryd.ntmps15
  go_wp2
  go_ret
  exact ⟨by show Ending.returned (.bool (decide (4096 < (m : Int)))) = _; rw [decide_eq_false (by omega)], rfl⟩

set_option maxRecDepth 100000 in
theorem big_yes (a : Option Addr) (m cap : Nat) (w : World) (hm : 4096 < m) (hM : m ≤ maxLen) :
    Calls Tryd.prog 15 #[.slice a m cap] w fun e w' => e = .returned (.bool true) ∧ w' = w := by
  unfold maxLen at hM
  go_enter Tryd.func15, Tryd.ntmps15
  go_wp2
  go_ret
  exact ⟨by show Ending.returned (.bool (decide (4096 < (m : Int)))) = _; rw [decide_eq_true (by omega)], rfl⟩
end Go.Proofs.YtdojblmffmefgaaDoor
