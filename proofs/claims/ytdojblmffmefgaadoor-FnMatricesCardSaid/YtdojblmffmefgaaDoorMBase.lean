/-
  Matrices: structs of two cells in blocks of their own; the helpers of the exact laws (toMatrix, szMatrix, eqMatrix, markMatrix, heldMatrix).
-/
import Derived.Test.YtdojblmffmefgaaDoorWOwnC
import Derived.BigRegion
import Derived.Laws.ResultCell
namespace Go.Proofs.YtdojblmffmefgaaDoor
open Go.RowKit
set_option linter.unusedVariables false
set_option maxRecDepth 100000

theorem _root_.Go.World.ownsRow.shape {w : World} {B : Nat} {v : Value} {n : Nat} {xs : List Value} {e : TypeId} {s : Nat} (h : w.ownsRow B e s v n xs) : ∃ a cap, v = .slice a n cap := by
  rcases h.2 with ⟨rfl, h0⟩ | ⟨g, cap, cur, rfl, _⟩
  · exact ⟨none, 0, by rw [h0]⟩
  · exact ⟨_, cap, rfl⟩

/-- Block g holds a struct of two cells. -/
def Box (w : World) (g : Nat) (t : TypeId) (x y : Value) : Prop := w.heap[g]? = some (.cells #[x, y] t (0, 0))
section
variable {w w' : World} {g : Nat} {t : TypeId} {x y : Value}
theorem Box.lt (h : Box w g t x y) : g < w.heap.size := (Array.getElem?_eq_some_iff.1 h).1
theorem Box.c0 (h : Box w g t x y) : w.cell? ⟨g, 0, none⟩ = some x := cell_of_row w g 0 _ _ (0, 0) h
theorem Box.c1 (h : Box w g t x y) : w.cell? ⟨g, 1, none⟩ = some y := cell_of_row w g 1 _ _ (0, 0) h
theorem Box.fr (h : Box w g t x y) (i : Nat) : w.frozen? ⟨g, i, none⟩ = false := by unfold Box at h; simp [World.frozen?, h]
theorem Box.new (w : World) (t : TypeId) (x y : Value) : Box (w.alloc (.cells #[x, y] t)) w.heap.size t x y := heap_alloc_new w _
theorem Box.alloc (h : Box w g t x y) (o : Obj) : Box (w.alloc o) g t x y := (heap_alloc_old w o h.lt).trans h
theorem Box.below {B : Nat} (h : Box w g t x y) (k : Below B w w') (hg : g < B) : Box w' g t x y := (k.block g hg).trans h
theorem Box.up (h : Box w g t x y) (k : Below w.heap.size w w') : Box w' g t x y := h.below k h.lt
theorem Box.drewN (h : Box w g t x y) (q : Nat) : Box (w.drewN q) g t x y := h
theorem Box.set0 (h : Box w g t x y) (v : Value) : Box (w.setCell ⟨g, 0, none⟩ v) g t v y := heap_setCell_same w g 0 _ t v h
theorem Box.set1 (h : Box w g t x y) (v : Value) : Box (w.setCell ⟨g, 1, none⟩ v) g t x v := heap_setCell_same w g 1 _ t v h
theorem Box.other (h : Box w g t x y) (a : Addr) (v : Value) (hne : g ≠ a.block) : Box (w.setCell a v) g t x y := (heap_setCell_other w a g v hne).trans h
end

theorem toMatrix_any (c : Int) (s : Value) (n : Nat) (G : Nat → Int) (w : World) (hn : n ≤ 17592186044416) (h : RdI w s n G) :
    Calls Tryd.prog 60 #[.agg #[.int .i64 c, s]] w fun e w' => ∃ u, e = .returned (.agg #[.int .i64 c, u]) ∧ w'.ownsRow w.heap.size 2 1 u n ((cpy G n n).map (Value.int .i64)) ∧ Below w.heap.size w w' := by
  have H := Lib.hid h
  clear h
  have t1 := Tryd.underlying58
  have t2 := Tryd.underlying26
  go_enter Tryd.func60, Tryd.ntmps60
  go_wp2_with fail
  have W1 : ∃ w1, w1 = (((w.alloc (.cells #[.int .i64 c, s] 58)).alloc (.cells #[.int .i64 0, .slice none 0 0] 26)).alloc (.cells #[.int .i64 c, .slice none 0 0] 26)) := ⟨_, rfl⟩
  obtain ⟨w1, hw1⟩ := W1
  have B0 : Hid (Below w.heap.size w w1) := Lib.hid (by rw [hw1]; exact (((Below.refl w.heap.size w).alloc (Nat.le_refl _) _).alloc (by simp) _).alloc (by simp; omega) _)
  have b1 : Hid (Box w1 (w.heap.size + 1) 26 (.int .i64 0) (.slice none 0 0)) := Lib.hid (by rw [hw1]; have := (Box.new (w.alloc (.cells #[.int .i64 c, s] 58)) 26 (.int .i64 0) (.slice none 0 0)).alloc (.cells #[.int .i64 c, .slice none 0 0] 26); simpa using this)
  have b2 : Hid (Box w1 (w.heap.size + 1 + 1) 26 (.int .i64 c) (.slice none 0 0)) := Lib.hid (by rw [hw1]; have := Box.new ((w.alloc (.cells #[.int .i64 c, s] 58)).alloc (.cells #[.int .i64 0, .slice none 0 0] 26)) 26 (.int .i64 c) (.slice none 0 0); simpa using this)
  have hs : Hid (w1.heap.size = w.heap.size + 3) := Lib.hid (by rw [hw1]; simp)
  have R := Lib.hid (H.out.below B0.out)
  rw [← hw1]
  clear hw1
  refine (toInt64S_any s n G w1 hn R.out).mono ?_
  rintro e w2 ⟨u, rfl, ho, hb⟩
  obtain ⟨ua, ucap, rfl⟩ := ho.shape
  have D1 := Lib.hid (b1.out.up hb)
  have D2 := Lib.hid (b2.out.up hb)
  have c10 := D1.out.c0
  have c11 := D1.out.c1
  have c20 := D2.out.c0
  have c21 := D2.out.c1
  have f10 := D1.out.fr 0
  have f11 := D1.out.fr 1
  have f21 := D2.out.fr 1
  have HO := Lib.hid ho
  have HB := Lib.hid (B0.out.trans (hb.mono B0.out.size))
  clear ho hb
  go_wp2
  have E1 := ((D1.out.other ⟨w.heap.size + 1 + 1, 1, none⟩ (.slice ua n ucap) (by simp)).set0 (.int .i64 c)).set1 (.slice ua n ucap)
  refine bodyPost_ret (results_cell_row rfl _ _ (w.heap.size + 1) 26 _ (0, 0) _ rfl E1 t2 rfl (by kernel_rfl)) rfl ?_
  have hb3 := ((HB.out.setCell (p := ⟨w.heap.size + 1 + 1, 1, none⟩) (by simp; omega) (.slice ua n ucap)).setCell (p := ⟨w.heap.size + 1, 0, none⟩) (by simp) (.int .i64 c)).setCell (p := ⟨w.heap.size + 1, 1, none⟩) (by simp) (.slice ua n ucap)
  refine ⟨_, rfl, ?_, hb3⟩
  refine own_sameblock (own_base HO.out (by have := hs.out; omega)) fun g hg => ?_
  have hlt := (HO.out.lt g hg).1
  have := hs.out
  rw [heap_setCell_other _ _ _ _ (by simp; omega), heap_setCell_other _ _ _ _ (by simp; omega), heap_setCell_other _ _ _ _ (by simp; omega)]

theorem szMatrix_yes (c : Int) (a : Option Addr) (n cap : Nat) (l : Int) (w : World) (h0 : (n : Int) ≤ l) (h1 : l ≤ 1048576) :
    Calls Tryd.prog 59 #[.agg #[.int .i64 c, .slice a n cap], .int .i64 l] w fun e w' => e = .returned (.int .i64 (l - (n : Int))) ∧ Below w.heap.size w w' := by
  have t1 := Tryd.underlying58
  have hw : IntKind.i64.wrap (l - (n : Int)) = l - (n : Int) := IntWalk.i64_in _ (by omega)
  have hn : ¬ l - (n : Int) < 0 := by omega
  go_enter Tryd.func59, Tryd.ntmps59
  go_wp2
  go_ret
  exact ⟨rfl, (Below.refl _ w).alloc (Nat.le_refl _) _⟩

theorem szMatrix_no (c : Int) (a : Option Addr) (n cap : Nat) (l : Int) (w : World) (h0 : l < (n : Int)) (h1 : 0 ≤ l) (hn : n ≤ maxLen) :
    Calls Tryd.prog 59 #[.agg #[.int .i64 c, .slice a n cap], .int .i64 l] w fun e w' => e = .returned (.int .i64 (-1)) ∧ Below w.heap.size w w' := by
  unfold maxLen at hn
  have t1 := Tryd.underlying58
  have hw : IntKind.i64.wrap (l - (n : Int)) = l - (n : Int) := IntWalk.i64_in _ (by omega)
  have hn : l - (n : Int) < 0 := by omega
  go_enter Tryd.func59, Tryd.ntmps59
  go_wp2
  go_ret
  exact ⟨rfl, (Below.refl _ w).alloc (Nat.le_refl _) _⟩

theorem eqMatrix_same (c : Int) (s1 s2 : Value) (n : Nat) (G : Nat → Int) (w : World) (h1 : RdI w s1 n G) (h2 : RdI w s2 n G) :
    Calls Tryd.prog 61 #[.agg #[.int .i64 c, s1], .agg #[.int .i64 c, s2]] w fun e w' => e = .returned (.bool true) ∧ Below w.heap.size w w' := by
  have H1 := Lib.hid h1
  have H2 := Lib.hid h2
  obtain ⟨a1, q1, rfl, _, _⟩ := h1
  obtain ⟨a2, q2, rfl, _, _⟩ := h2
  have t2 := Tryd.underlying26
  have B0 : Hid (Below w.heap.size w ((w.alloc (.cells #[.int .i64 c, .slice a1 n q1] 26)).alloc (.cells #[.int .i64 c, .slice a2 n q2] 26))) := Lib.hid (((Below.refl w.heap.size w).alloc (Nat.le_refl _) _).alloc (by simp) _)
  have E := Lib.hid (fun q : Nat => eqInt64S_same _ _ n G _ ((H1.out.below B0.out).drewN q) ((H2.out.below B0.out).drewN q))
  go_enter Tryd.func61, Tryd.ntmps61
  go_wp2_with fail
  refine (E.out 0).mono ?_
  rintro e w' ⟨rfl, q, rfl⟩
  go_wp2_with fail
  go_ret
  exact ⟨rfl, below_drewN B0.out _⟩

theorem markMatrix_own (c : Int) (v : Value) (n : Nat) (xs : List Value) (k : Int) (B : Nat) (w : World) (hk0 : 0 ≤ k) (hk : k ≤ 2305843009213693952) (hn : n ≤ 2305843009213693952) (hown : w.ownsRow B 2 1 v n xs) :
    Calls Tryd.prog 62 #[.agg #[.int .i64 c, v], .int .i64 k] w fun e w' => e = .returned (.int .i64 (k + (n : Int))) ∧ w'.ownsRow B 2 1 v n ((marks k n).map (Value.int .i64)) ∧ w.grownBy w' v.ownBlock := by
  obtain ⟨a, cap, rfl⟩ := hown.shape
  have t2 := Tryd.underlying26
  have B0 : Hid (Below w.heap.size w (w.alloc (.cells #[.int .i64 c, .slice a n cap] 26))) := Lib.hid ((Below.refl w.heap.size w).alloc (Nat.le_refl _) _)
  have M := Lib.hid (markInt64S_own _ n xs k B _ hk0 hk hn (own_below hown B0.out))
  clear hown
  go_enter Tryd.func62, Tryd.ntmps62
  go_wp2_with fail
  refine M.out.mono ?_
  rintro e w' ⟨rfl, ho, hg, hs⟩
  have HO := Lib.hid ho
  have HG := Lib.hid hg
  clear ho hg hs M
  go_wp2_with fail
  go_ret
  refine ⟨rfl, HO.out, ?_⟩
  exact ⟨HG.out.os.trans B0.out.os, HG.out.tape.trans B0.out.tape, HG.out.output.trans B0.out.output, Nat.le_trans B0.out.size HG.out.size, fun i hi hne => (HG.out.block i (Nat.lt_of_lt_of_le hi B0.out.size) hne).trans (B0.out.block i hi)⟩

theorem heldMatrix_own (c : Int) (v : Value) (n : Nat) (k : Int) (B : Nat) (w : World) (hk0 : 0 ≤ k) (hk : k ≤ 2305843009213693952) (hn : n ≤ 2305843009213693952) (hown : w.ownsRow B 2 1 v n ((marks k n).map (Value.int .i64))) :
    Calls Tryd.prog 63 #[.agg #[.int .i64 c, v], .int .i64 k] w fun e w' => e = .returned (.int .i64 (k + (n : Int))) ∧ Below w.heap.size w w' := by
  obtain ⟨a, cap, rfl⟩ := hown.shape
  have t2 := Tryd.underlying26
  have B0 : Hid (Below w.heap.size w (w.alloc (.cells #[.int .i64 c, .slice a n cap] 26))) := Lib.hid ((Below.refl w.heap.size w).alloc (Nat.le_refl _) _)
  have M := Lib.hid (heldInt64S_own _ n k B _ hk0 hk hn (own_below hown B0.out))
  have hge : ¬ k + (n : Int) < 0 := by omega
  clear hown
  go_enter Tryd.func63, Tryd.ntmps63
  go_wp2_with fail
  refine M.out.mono ?_
  rintro e w' ⟨rfl, rfl⟩
  go_wp2_with fail
  go_ret
  exact ⟨rfl, B0.out⟩
end Go.Proofs.YtdojblmffmefgaaDoor
