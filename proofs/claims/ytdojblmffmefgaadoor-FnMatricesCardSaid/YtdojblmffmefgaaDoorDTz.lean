/-
  Contracts: math/bits.TrailingZeros64 (its table lies in the library's variable), pivot, plus.
-/
import Derived.Test.YtdojblmffmefgaaDoorDNum
import Derived.Laws.Bits64b
namespace Go.Proofs.YtdojblmffmefgaaDoor
open Go.RowKit
set_option linter.unusedVariables false
set_option maxRecDepth 100000

/-- The table in its variable. -/
def T0 (w : World) : Prop := ∀ j, j < 64 → w.cell? ⟨0, j, none⟩ = some (.int .u8 ((Lib.deBruijn64tab.getD j 0 : Nat) : Int))
theorem T0.below {w w' : World} (h : T0 w) (k : Below w.heap.size w w') : T0 w' := fun j hj =>
  (k.cell (p := ⟨0, j, none⟩) (World.block_lt_of_cell? w _ (h j hj))).trans (h j hj)
theorem T0.drewN {w : World} (h : T0 w) (q : Nat) : T0 (w.drewN q) := h

theorem tz_key (x : Nat) (h0 : x ≠ 0) (h : x < 2 ^ 60) : ∃ idx : Nat, idx < 64 ∧ Lib.deBruijn64tab.getD idx 0 = tz x ∧
    IntKind.u64.wrap (bits BinOp.and IntKind.u64 (x : Int) (IntKind.u64.wrap (-(x : Int))) * 285870213051353865) / 288230376151711744 = (idx : Int) := by
  obtain ⟨hl, hk⟩ := Lib.lowest_bit 64 x h0 (by omega)
  obtain ⟨a, b⟩ := Lib.deBruijn64_at _ hk
  refine ⟨_, a, b, ?_⟩
  have e1 : IntKind.u64.wrap (-(x : Int)) = ((18446744073709551616 - x : Nat) : Int) := by rw [IntKind.wrap_u64]; omega
  rw [e1, bits_and_u64_nat x _ (by omega) (by omega)]
  have e2 : x &&& (18446744073709551616 - x) = 2 ^ Lib.ctz 64 x := hl
  rw [e2, IntKind.wrap_u64]
  generalize 2 ^ Lib.ctz 64 x = z
  omega

theorem TrailingZeros64_any (x : Nat) (w : World) (h0 : x ≠ 0) (h : x < 2 ^ 60) (hT : T0 w) :
    Calls Tryd.prog 115 #[.int .u64 x] w fun e w' => e = .returned (.int .i64 ((tz x : Nat) : Int)) ∧ w = w' := by
  obtain ⟨idx, hi, ht, key⟩ := tz_key x h0 h
  have c1 := hT idx hi
  rw [ht] at c1
  have hx0 : ((x : Int) == 0) = false := by rw [beq_eq_false_iff_ne]; omega
  have hb := tz_lt60 x h0 h
  have hi' : (idx : Int) < 64 := by omega
  have hz : (0 : Int) ≤ (idx : Int) := by omega
  have K := Lib.hid key
  clear key ht hT h0 h
  generalize tz x = t at *
  go_enter Tryd.func115, Tryd.ntmps115
  go_wp2_with (simp only [K.out])
  go_ret
  exact ⟨rfl, rfl⟩

theorem pivot_any (x : Nat) (w : World) (h0 : x ≠ 0) (h : x < 2 ^ 60) (hT : T0 w) :
    Calls Tryd.prog 113 #[.int .i64 x] w fun e w' => e = .returned (.int .i64 ((tz x : Nat) : Int)) ∧ w = w' := by
  have T := Lib.hid (TrailingZeros64_any x w h0 h hT)
  have hx : (x : Int) < 18446744073709551616 := by omega
  clear hT h0 h
  go_enter Tryd.func113, Tryd.ntmps113
  go_wp2_with fail
  refine T.out.mono ?_
  rintro e w' ⟨rfl, rfl⟩
  go_wp2_with fail
  go_ret
  exact ⟨rfl, rfl⟩

/-- A row with a trace, as a value. -/
def tv (r : TR) : Value := .agg #[.int .i64 ((r.1 : Nat) : Int), .int .i64 ((r.2 : Nat) : Int)]

theorem plus_any (a b : TR) (w : World) (ha : a.1 < 2 ^ 60 ∧ a.2 < 2 ^ 60) (hb : b.1 < 2 ^ 60 ∧ b.2 < 2 ^ 60) :
    Calls Tryd.prog 112 #[tv a, tv b] w fun e w' => e = .returned (tv (addTR a b)) ∧ Below w.heap.size w w' := by
  obtain ⟨a1, a2⟩ := a
  obtain ⟨b1, b2⟩ := b
  have X1 := Lib.hid (i64_xor a1 b1 (by have := ha.1; simp at this; omega) (by have := hb.1; simp at this; omega))
  have X2 := Lib.hid (i64_xor a2 b2 (by have := ha.2; simp at this; omega) (by have := hb.2; simp at this; omega))
  clear ha hb
  unfold tv addTR
  simp only []
  have t3 := Tryd.underlying91
  go_enter Tryd.func112, Tryd.ntmps112
  go_wp2
  have B := Box.new ((w.alloc (.cells #[.int .i64 (a1 : Int), .int .i64 (a2 : Int)] 91)).alloc (.cells #[.int .i64 (b1 : Int), .int .i64 (b2 : Int)] 91)) 91 (.int .i64 (bits .xor .i64 (a1 : Int) (b1 : Int))) (.int .i64 (bits .xor .i64 (a2 : Int) (b2 : Int)))
  refine bodyPost_ret (results_cell_row rfl _ _ (w.heap.size + 1 + 1) 91 _ (0, 0) _ rfl (by simpa [Box] using B) t3 rfl (by kernel_rfl)) rfl ?_
  exact ⟨by rw [X1.out, X2.out], (((Below.refl w.heap.size w).alloc (Nat.le_refl _) _).alloc (by simp) _).alloc (by simp; omega) _⟩

/-- The array of the space, in block g. -/
def Sp (w : World) (g : Nat) (S : Nat → TR) : Prop :=
  ∃ cs : Array Value, w.heap[g]? = some (.cells cs 94 (0, 0)) ∧ cs.size = 120 ∧ ∀ j, j < 60 → cs[j * 2]? = some (.int .i64 (((S j).1 : Nat) : Int)) ∧ cs[j * 2 + 1]? = some (.int .i64 (((S j).2 : Nat) : Int))
section
variable {w w' : World} {g : Nat} {S : Nat → TR}
theorem Sp.lt (h : Sp w g S) : g < w.heap.size := by obtain ⟨_, h, _⟩ := h; exact (Array.getElem?_eq_some_iff.1 h).1
theorem Sp.up (h : Sp w g S) (k : Below w.heap.size w w') : Sp w' g S := by
  have hl := h.lt
  obtain ⟨cs, h1, h2⟩ := h
  exact ⟨cs, (k.block g hl).trans h1, h2⟩
theorem Sp.below {B : Nat} (h : Sp w g S) (k : Below B w w') (hg : g < B) : Sp w' g S := by
  obtain ⟨cs, h1, h2⟩ := h
  exact ⟨cs, (k.block g hg).trans h1, h2⟩
theorem Sp.c0 (h : Sp w g S) (j : Nat) (hj : j < 60) : w.cell? ⟨g, j * 2, none⟩ = some (.int .i64 (((S j).1 : Nat) : Int)) := by
  obtain ⟨cs, h1, h2, h3⟩ := h
  rw [cell_of_row w g (j * 2) cs _ _ h1]; exact (h3 j hj).1
theorem Sp.c1 (h : Sp w g S) (j : Nat) (hj : j < 60) : w.cell? ⟨g, j * 2 + 1, none⟩ = some (.int .i64 (((S j).2 : Nat) : Int)) := by
  obtain ⟨cs, h1, h2, h3⟩ := h
  rw [cell_of_row w g (j * 2 + 1) cs _ _ h1]; exact (h3 j hj).2
theorem Sp.fr (h : Sp w g S) (i : Nat) : w.frozen? ⟨g, i, none⟩ = false := by
  obtain ⟨cs, h1, _⟩ := h
  simp [World.frozen?, h1]
/-- Row i is stored. -/
theorem Sp.set (h : Sp w g S) (i : Nat) (hi : i < 60) (r : TR) : Sp ((w.setCell ⟨g, i * 2, none⟩ (.int .i64 ((r.1 : Nat) : Int))).setCell ⟨g, i * 2 + 1, none⟩ (.int .i64 ((r.2 : Nat) : Int))) g (fun j => if j = i then r else S j) := by
  obtain ⟨cs, h1, h2, h3⟩ := h
  have e1 := heap_setCell_same w g (i * 2) cs _ (.int .i64 ((r.1 : Nat) : Int)) h1
  have e2 := heap_setCell_same _ g (i * 2 + 1) _ _ (.int .i64 ((r.2 : Nat) : Int)) e1
  refine ⟨_, e2, by simp [h2], fun j hj => ?_⟩
  obtain ⟨a, b⟩ := h3 j hj
  by_cases e : j = i
  · subst e
    simp only [if_true]
    constructor
    · rw [Array.getElem?_setIfInBounds_ne (by omega), Array.getElem?_setIfInBounds_self_of_lt (by omega)]
    · rw [Array.getElem?_setIfInBounds_self_of_lt (by simp; omega)]
  · simp only [if_neg e]
    constructor
    · rw [Array.getElem?_setIfInBounds_ne (by omega), Array.getElem?_setIfInBounds_ne (by omega)]; exact a
    · rw [Array.getElem?_setIfInBounds_ne (by omega), Array.getElem?_setIfInBounds_ne (by omega)]; exact b
end
end Go.Proofs.YtdojblmffmefgaaDoor
