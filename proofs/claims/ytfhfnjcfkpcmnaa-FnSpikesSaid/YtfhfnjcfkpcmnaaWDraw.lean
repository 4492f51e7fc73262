/-
  The source of numbers that follow from a code: spec.l01Next gives a number from 0 to n - 1.
-/
import Derived.Test.YtfhfnjcfkpcmnaaWArgs
import Derived.Test.YtfhfnjcfkpcmnaaPlainBits
import Derived.Deep.QuietTactic
import Derived.BigQuiet
import Derived.Laws.Bits64b
namespace Go.Proofs.Ytfhfnjcfkpcmnaa
open Go.RowKit
set_option linter.unusedVariables false

theorem mask_le (X : Int) : ∃ k : Nat, bits .and .u64 X 16777215 = (k : Int) ∧ k ≤ 16777215 := by
  refine ⟨(BitVec.ofInt 64 X &&& BitVec.ofInt 64 16777215).toNat, ?_, ?_⟩
  · show IntKind.u64.wrap ((BitVec.ofInt 64 X &&& BitVec.ofInt 64 16777215).toNat : Int) = _
    rw [IntKind.wrap_u64]
    have := (BitVec.ofInt 64 X &&& BitVec.ofInt 64 16777215).isLt
    omega
  · rw [BitVec.toNat_and]
    exact Nat.le_trans Nat.and_le_right (by decide)

/-- The bytes that a code lies in, all of them below B. -/
def Code (w : World) (B : Nat) (a : Option Addr) (m : Nat) : Prop :=
  m = 0 ∨ ∃ b off, a = some ⟨b, off, none⟩ ∧ b < B ∧ ∀ i, i < m → ∃ x : Int, 0 ≤ x ∧ x ≤ 255 ∧ w.cell? ⟨b, off + i, none⟩ = some (.int .u8 x)

theorem Code.below {w w' : World} {B : Nat} {a : Option Addr} {m : Nat} (h : Code w B a m) (k : Below B w w') : Code w' B a m := by
  rcases h with h | ⟨b, off, rfl, hb, hc⟩
  · exact .inl h
  · refine .inr ⟨b, off, rfl, hb, fun i hi => ?_⟩
    obtain ⟨x, h0, h1, h2⟩ := hc i hi
    exact ⟨x, h0, h1, (k.cell (p := ⟨b, off + i, none⟩) hb).trans h2⟩

/-- The source that lies in block g; the code lies below B. -/
def Src (w : World) (g B : Nat) : Prop :=
  B ≤ g ∧ ∃ (a : Option Addr) (m cap at_ : Nat) (h : Int), Code w B a m ∧ m ≤ 4096 ∧ at_ ≤ m ∧ w.heap[g]? = some (.cells #[.slice a m cap, .int .i64 at_, .int .u64 h] 71 (0, 0))

def NextRes (B g : Nat) (n : Int) (w : World) (e : Ending) (w' : World) : Prop :=
  ∃ x : Int, e = .returned (.int .i64 x) ∧ 0 ≤ x ∧ x < n ∧ Below B w w' ∧ Src w' g B ∧ ∀ b, b ≠ g → w'.heap[b]? = w.heap[b]?

set_option maxRecDepth 100000 in
theorem l01Next_any (g B : Nat) (n : Int) (w : World) (hs : Src w g B) (h1 : 1 ≤ n) (h2 : n ≤ 2000000000000000) :
    Calls Try.prog 62 #[.pointer (some ⟨g, 0, none⟩), .int .i64 n] w (NextRes B g n w) := by
  obtain ⟨hB, a, m, cap, at_, h, hcode, hm, hat, hblk⟩ := hs
  have hlt : g < w.heap.size := (Array.getElem?_eq_some_iff.1 hblk).1
  have d0 : w.cell? ⟨g, 0, none⟩ = some (.slice a m cap) := cell_of_row w g 0 _ _ (0, 0) hblk
  have d1 : w.cell? ⟨g, 1, none⟩ = some (.int .i64 at_) := cell_of_row w g 1 _ _ (0, 0) hblk
  have d2 : w.cell? ⟨g, 2, none⟩ = some (.int .u64 h) := cell_of_row w g 2 _ _ (0, 0) hblk
  have f1 : w.frozen? ⟨g, 1, none⟩ = false := by simp [World.frozen?, hblk]
  have f2 : w.frozen? ⟨g, 2, none⟩ = false := by simp [World.frozen?, hblk]
  have HC := Lib.hid hcode
  have HB := Lib.hid hblk
  clear hcode hblk
  have t71 := Try.underlying71
  go_enter Try.func62, Try.ntmps62
  go_wp2
  generalize IntKind.u64.wrap (IntKind.u64.wrap (h * 6364136223846793005) + 1442695040888963407) = h2
  obtain ⟨k, hk, hk2⟩ := mask_le (h2 / 8589934592)
  rw [hk, IntWalk.wrap64_in (k : Int) ⟨by omega, by omega⟩]
  clear hk
  have HB2 : Hid ((w.setCell ⟨g, 2, none⟩ (.int .u64 h2)).heap[g]? = some (.cells #[.slice a m cap, .int .i64 at_, .int .u64 h2] 71 (0, 0))) := Lib.hid (by
    simp [World.setCell, Array.getElem?_modify, HB.out])
  by_cases hlt2 : at_ < m
  · rcases HC.out with h0 | ⟨b, off, rfl, hb, hc⟩
    · omega
    obtain ⟨x, hx0, hx1, hx⟩ := hc at_ hlt2
    have hbg : b ≠ g := by omega
    clear hc
    go_quiet (fail)
    go_wp2
    go_quiet (fail)
    go_wp2
    go_ret
    refine ⟨(k + x) % n, rfl, Int.emod_nonneg _ (by omega), Int.emod_lt_of_pos _ (by omega), ?_, ⟨hB, some ⟨b, off, none⟩, m, cap, at_ + 1, h2, ?_, hm, hlt2, ?_⟩, ?_⟩
    · exact Below.setCell (p := ⟨g, 1, none⟩) (below_drewN (Below.setCell (p := ⟨g, 2, none⟩) (Below.refl B w) hB _) _) hB _
    · exact HC.out.below (Below.setCell (p := ⟨g, 1, none⟩) (below_drewN (Below.setCell (p := ⟨g, 2, none⟩) (Below.refl B w) hB _) _) hB _)
    · simp [World.setCell, World.drewN, Array.getElem?_modify, HB.out]
    · intro c hcg
      simp [World.setCell, World.drewN, Array.getElem?_modify, Ne.symm hcg]
  · go_quiet (fail)
    go_wp2
    go_ret
    refine ⟨k % n, rfl, Int.emod_nonneg _ (by omega), Int.emod_lt_of_pos _ (by omega), ?_, ⟨hB, a, m, cap, at_, h2, ?_, hm, hat, HB2.out⟩, ?_⟩
    · exact below_drewN (Below.setCell (p := ⟨g, 2, none⟩) (Below.refl B w) hB _) _
    · exact HC.out.below (below_drewN (Below.setCell (p := ⟨g, 2, none⟩) (Below.refl B w) hB _) _)
    · intro c hcg
      simp [World.setCell, World.drewN, Array.getElem?_modify, Ne.symm hcg]

/-- spec.l01Pick at k numbers that lie in block r: one of them. -/
def PickRes (B g : Nat) (zs : List Int) (w : World) (e : Ending) (w' : World) : Prop :=
  ∃ x : Int, e = .returned (.int .i64 x) ∧ x ∈ zs ∧ Below B w w' ∧ Src w' g B ∧ ∀ b, b ≠ g → w'.heap[b]? = w.heap[b]?

set_option maxRecDepth 100000 in
theorem l01Pick_any (g B r cap : Nat) (zs : List Int) (w : World) (hs : Src w g B) (hr : w.heap[r]? = some (.cells (zs.map (Value.int .i64)).toArray 2 (0, 0))) (hgr : g ≠ r) (h1 : 1 ≤ zs.length) (h2 : zs.length ≤ 4) :
    Calls Try.prog 66 #[.pointer (some ⟨g, 0, none⟩), .slice (some ⟨r, 0, none⟩) zs.length cap] w (PickRes B g zs w) := by
  have N := Lib.hid (l01Next_any g B (zs.length : Int) w hs (by omega) (by omega))
  go_enter Try.func66, Try.ntmps66
  go_wp2_with fail
  refine N.out.mono ?_
  rintro e w1 ⟨x, rfl, hx0, hx1, hb, hsrc, hk⟩
  have hr1 : w1.heap[r]? = some (.cells (zs.map (Value.int .i64)).toArray 2 (0, 0)) := (hk r (Ne.symm hgr)).trans hr
  obtain ⟨k, rfl⟩ := Int.eq_ofNat_of_zero_le hx0
  have hkl : k < zs.length := by omega
  have hc : w1.cell? ⟨r, k, none⟩ = some (.int .i64 (zs[k]'hkl)) := (cell_of_row w1 r k _ _ (0, 0) hr1).trans (by simp [hkl])
  have HS := Lib.hid hsrc
  have HM := Lib.hid (show zs[k]'hkl ∈ zs from List.getElem_mem hkl)
  have HB := Lib.hid hb
  have HK := Lib.hid hk
  clear hr1 hsrc hb hk hr N
  generalize zs[k]'hkl = z at hc HM
  go_wp2
  go_ret
  exact ⟨z, rfl, HM.out, HB.out, HS.out, HK.out⟩

theorem Src.lt {w : World} {g B : Nat} (h : Src w g B) : B ≤ g ∧ g < w.heap.size := by
  obtain ⟨hB, _, _, _, _, _, _, _, _, hblk⟩ := h
  exact ⟨hB, (Array.getElem?_eq_some_iff.1 hblk).1⟩

theorem Src.alloc {w : World} {g B : Nat} (h : Src w g B) (o : Obj) : Src (w.alloc o) g B := by
  have hl := h.lt
  obtain ⟨hB, a, m, cap, at_, x, hc, hm, ha, hblk⟩ := h
  exact ⟨hB, a, m, cap, at_, x, hc.below ((Below.refl B w).alloc (by omega) o), hm, ha, ((Below.heap_alloc w o g hl.2).trans hblk)⟩

/-- What spec.l01Near returns: a number within these bounds. -/
def NearRes (B g : Nat) (w : World) (e : Ending) (w' : World) : Prop :=
  ∃ x : Int, e = .returned (.int .i64 x) ∧ -9223372036854775808 ≤ x ∧ x ≤ 9223372036854775807 ∧ Below B w w' ∧ Src w' g B

set_option maxRecDepth 100000 in
theorem l01Near_any (g B : Nat) (most : Int) (w : World) (hs : Src w g B) (h1 : 0 ≤ most) (h2 : most ≤ 1000000000) :
    Calls Try.prog 71 #[.pointer (some ⟨g, 0, none⟩), .int .i64 most] w (NearRes B g w) := by
  have N := Lib.hid (l01Next_any g B 14 w hs (by omega) (by omega))
  clear hs
  go_enter Try.func71, Try.ntmps71
  go_wp2_with fail
  refine N.out.mono ?_
  rintro e w1 ⟨x, rfl, hx0, hx1, hb, hsrc, hk⟩
  clear hk N
  have HS := Lib.hid hsrc
  have HB := Lib.hid hb
  have hgl := hsrc.lt
  clear hsrc hb
  by_cases hx : x = 0
  · subst hx
    go_wp2_with fail
    refine (l01Pick_any g B w1.heap.size 4 [-1, most + 1, 1125899906842624, -4611686018427387904] _ (HS.out.alloc _) (heap_alloc_new w1 _) (by omega) (by simp) (by simp)).mono ?_
    rintro e w2 ⟨y, rfl, hy, hb2, hsrc2, hk2⟩
    have HS2 := Lib.hid hsrc2
    have HB2 := Lib.hid (((Below.refl B w1).alloc (by omega) _).trans hb2)
    have HY : Hid (-9223372036854775808 ≤ y ∧ y ≤ 9223372036854775807) := Lib.hid (by
      simp only [List.mem_cons, List.not_mem_nil, or_false] at hy
      omega)
    clear hsrc2 hb2 hk2 hy
    go_wp2
    go_ret
    exact ⟨y, rfl, HY.out.1, HY.out.2, HB.out.trans HB2.out, HS2.out⟩
  · have hx' : (x == 0) = false := by rw [beq_eq_false_iff_ne]; exact hx
    have N2 := Lib.hid (l01Next_any g B (most + 1) w1 HS.out (by omega) (by omega))
    go_wp2_with fail
    refine N2.out.mono ?_
    rintro e w2 ⟨y, rfl, hy0, hy1, hb2, hsrc2, hk2⟩
    have HS2 := Lib.hid hsrc2
    have HB2 := Lib.hid hb2
    clear hsrc2 hb2 hk2 N2
    go_wp2
    go_ret
    exact ⟨y, rfl, by omega, by omega, HB.out.trans HB2.out, HS2.out⟩

end Go.Proofs.Ytfhfnjcfkpcmnaa
