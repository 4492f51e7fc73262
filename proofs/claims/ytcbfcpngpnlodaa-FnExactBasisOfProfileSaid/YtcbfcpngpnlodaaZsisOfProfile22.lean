/-
  Joined: SBox, NBase, PlainCount.
-/
import Derived.Test.YtcbfcpngpnlodaaZsisOfProfile21
import Derived.Test.YtcbfcpngpnlodaaZsisOfProfile12
import Derived.BigRegion
import Derived.Laws.ResultCell
import Derived.Test.YtcbfcpngpnlodaaZsisOfProfile01
section
namespace Go.Proofs.Ytcbfcpngpnlodaa
open Go.RowKit
set_option linter.unusedVariables false
set_option maxRecDepth 100000

/-- Block g holds one cell. -/
def Box1 (w : World) (g : Nat) (t : TypeId) (x : Value) : Prop := w.heap[g]? = some (.cells #[x] t (0, 0))
section
variable {w w' : World} {g : Nat} {t : TypeId} {x : Value}
theorem Box1.lt (h : Box1 w g t x) : g < w.heap.size := (Array.getElem?_eq_some_iff.1 h).1
theorem Box1.c (h : Box1 w g t x) : w.cell? ⟨g, 0, none⟩ = some x := cell_of_row w g 0 _ _ (0, 0) h
theorem Box1.fr (h : Box1 w g t x) (i : Nat) : w.frozen? ⟨g, i, none⟩ = false := by unfold Box1 at h; simp [World.frozen?, h]
theorem Box1.new (w : World) (t : TypeId) (x : Value) : Box1 (w.alloc (.cells #[x] t)) w.heap.size t x := heap_alloc_new w _
theorem Box1.alloc (h : Box1 w g t x) (o : Obj) : Box1 (w.alloc o) g t x := (heap_alloc_old w o h.lt).trans h
theorem Box1.below {B : Nat} (h : Box1 w g t x) (k : Below B w w') (hg : g < B) : Box1 w' g t x := (k.block g hg).trans h
theorem Box1.up (h : Box1 w g t x) (k : Below w.heap.size w w') : Box1 w' g t x := h.below k h.lt
theorem Box1.drewN (h : Box1 w g t x) (q : Nat) : Box1 (w.drewN q) g t x := h
theorem Box1.set (h : Box1 w g t x) (v : Value) : Box1 (w.setCell ⟨g, 0, none⟩ v) g t v := heap_setCell_same w g 0 _ t v h
theorem Box1.other (h : Box1 w g t x) (a : Addr) (v : Value) (hne : g ≠ a.block) : Box1 (w.setCell a v) g t x := (heap_setCell_other w a g v hne).trans h
end

theorem Fam.same {w w' : World} {B : Nat} {V : Value} {m : Nat} {VS : Nat → Value} {Y : Nat → List Int} (h : Fam w B V m VS Y) (k : ∀ g, B ≤ g → g < w.heap.size → w'.heap[g]? = w.heap[g]?) : Fam w' B V m VS Y :=
  ⟨own_sameblock h.out fun g hg => k g (h.out.lt g hg).1 (h.out.lt g hg).2, fun i hi => own_sameblock (h.inn i hi) fun g hg => k g ((h.inn i hi).lt g hg).1 ((h.inn i hi).lt g hg).2⟩
/-- The integers of a list. -/
def gOf (xs : List Int) : Nat → Int := fun j => xs[j]?.getD 0

/-- A call that answers b and leaves what there was. -/
def SaysB (b : Bool) (w : World) (e : Ending) (w' : World) : Prop := e = .returned (.bool b) ∧ Below w.heap.size w w'

theorem _root_.Go.RowKit.Below.step1 {w wx w' : World} (h : Below w.heap.size w wx) (k : Below wx.heap.size wx w') : Below w.heap.size w w' := h.trans (k.mono h.size)
end Go.Proofs.Ytcbfcpngpnlodaa
end
section
namespace Go.Proofs.Ytcbfcpngpnlodaa
open Go.RowKit
set_option linter.unusedVariables false
set_option maxRecDepth 100000

theorem toMilnor_any (V : Value) (m : Nat) (X : Nat → List Int) (w : World) (hm : m ≤ 1048576) (hX : ∀ i, i < m → (X i).length ≤ 1048576) (h : RdSS w V m X) :
    Calls Try.prog 34 #[.agg #[V]] w fun e w' => ∃ U US, e = .returned (.agg #[U]) ∧ Fam w' w.heap.size U m US X ∧ Below w.heap.size w w' ∧ Sep m US := by
  have H := Lib.hid h
  have HX := Lib.hid hX
  clear h hX
  have t1 := Try.underlying37
  have t2 := Try.underlying40
  go_enter Try.func34, Try.ntmps34
  go_wp2_with fail
  have W1 : ∃ w1, w1 = (((w.alloc (.cells #[V] 37)).alloc (.cells #[.slice none 0 0] 40)).alloc (.cells #[.slice none 0 0] 40)) := ⟨_, rfl⟩
  obtain ⟨w1, hw1⟩ := W1
  have B0 : Hid (Below w.heap.size w w1) := Lib.hid (by rw [hw1]; exact (((Below.refl w.heap.size w).alloc (Nat.le_refl _) _).alloc (by simp) _).alloc (by simp; omega) _)
  have b1 : Hid (Box1 w1 (w.heap.size + 1) 40 (.slice none 0 0)) := Lib.hid (by rw [hw1]; have := (Box1.new (w.alloc (.cells #[V] 37)) 40 (.slice none 0 0)).alloc (.cells #[.slice none 0 0] 40); simpa using this)
  have b2 : Hid (Box1 w1 (w.heap.size + 1 + 1) 40 (.slice none 0 0)) := Lib.hid (by rw [hw1]; have := Box1.new ((w.alloc (.cells #[V] 37)).alloc (.cells #[.slice none 0 0] 40)) 40 (.slice none 0 0); simpa using this)
  have hs : Hid (w1.heap.size = w.heap.size + 3) := Lib.hid (by rw [hw1]; simp)
  have R := Lib.hid (H.out.below B0.out)
  rw [← hw1]
  clear hw1
  refine (toSS_any V m X w1 hm HX.out R.out).mono ?_
  rintro e w2 ⟨U, US, rfl, ho, hb, hsp⟩
  obtain ⟨ua, ucap, rfl, _⟩ := ho.head
  have D1 := Lib.hid (b1.out.up hb)
  have D2 := Lib.hid (b2.out.up hb)
  have c10 := D1.out.c
  have c20 := D2.out.c
  have f10 := D1.out.fr 0
  have f20 := D2.out.fr 0
  have HO := Lib.hid ho
  have HS := Lib.hid hsp
  have HB := Lib.hid (B0.out.trans (hb.mono B0.out.size))
  clear ho hb hsp
  go_wp2
  have E1 := (D1.out.other ⟨w.heap.size + 1 + 1, 0, none⟩ (.slice ua m ucap) (by simp)).set (.slice ua m ucap)
  refine bodyPost_ret (results_cell_row rfl _ _ (w.heap.size + 1) 40 _ (0, 0) _ rfl E1 t2 rfl (by kernel_rfl)) rfl ?_
  have hb3 := (HB.out.setCell (p := ⟨w.heap.size + 1 + 1, 0, none⟩) (by simp; omega) (.slice ua m ucap)).setCell (p := ⟨w.heap.size + 1, 0, none⟩) (by simp) (.slice ua m ucap)
  refine ⟨_, US, rfl, ?_, hb3, HS.out⟩
  refine (Fam.same HO.out fun g hg hlt => ?_).base (by have := hs.out; omega)
  have := hs.out
  rw [heap_setCell_other _ _ _ _ (by simp; omega), heap_setCell_other _ _ _ _ (by simp; omega)]

theorem szMilnor_yes (V : Value) (m : Nat) (X : Nat → List Int) (left : Nat) (w : World) (h : RdSS w V m X) (hl : left ≤ 1048576) (hm : m + tot X m ≤ left) :
    Calls Try.prog 32 #[.agg #[V], .int .i64 (left : Int)] w fun e w' => e = .returned (.int .i64 ((left : Int) - ((m + tot X m : Nat) : Int))) ∧ Below w.heap.size w w' := by
  have B0 : Hid (Below w.heap.size w (w.alloc (.cells #[V] 37))) := Lib.hid ((Below.refl w.heap.size w).alloc (Nat.le_refl _) _)
  have SZ := Lib.hid (szSS_any V m X left _ (h.below B0.out) hl hm)
  have t1 := Try.underlying37
  have hge : ¬ (left : Int) - ((m + tot X m : Nat) : Int) < 0 := by omega
  generalize (left : Int) - ((m + tot X m : Nat) : Int) = lf at SZ hge
  clear h
  go_enter Try.func32, Try.ntmps32
  go_wp2_with fail
  refine SZ.out.mono ?_
  rintro e w' ⟨rfl, rfl⟩
  go_wp2_with fail
  go_ret
  exact ⟨rfl, B0.out⟩
theorem szMilnor_over (V : Value) (m : Nat) (X : Nat → List Int) (left : Nat) (w : World) (h : RdSS w V m X) (hl : left ≤ 1048576) (hm : left < m + tot X m) :
    Calls Try.prog 32 #[.agg #[V], .int .i64 (left : Int)] w fun e w' => e = .returned (.int .i64 (-1)) ∧ Below w.heap.size w w' := by
  have B0 : Hid (Below w.heap.size w (w.alloc (.cells #[V] 37))) := Lib.hid ((Below.refl w.heap.size w).alloc (Nat.le_refl _) _)
  have SZ := Lib.hid (szSS_over V m X left _ (h.below B0.out) hl hm)
  have t1 := Try.underlying37
  clear h
  go_enter Try.func32, Try.ntmps32
  go_wp2_with fail
  refine SZ.out.mono ?_
  rintro e w' ⟨rfl, rfl⟩
  go_wp2_with fail
  go_ret
  exact ⟨rfl, B0.out⟩

theorem eqMilnor_same (U1 U2 : Value) (m : Nat) (B1 B2 : Nat) (VA VB : Nat → Value) (X : Nat → List Int) (w : World) (h1 : Fam w B1 U1 m VA X) (h2 : Fam w B2 U2 m VB X) :
    Calls Try.prog 36 #[.agg #[U1], .agg #[U2]] w fun e w' => e = .returned (.bool true) ∧ Below w.heap.size w w' := by
  have t2 := Try.underlying40
  have B0 : Hid (Below w.heap.size w ((w.alloc (.cells #[U1] 40)).alloc (.cells #[U2] 40))) := Lib.hid (((Below.refl w.heap.size w).alloc (Nat.le_refl _) _).alloc (by simp) _)
  have E := Lib.hid (eqInt64SS_same U1 U2 m B1 B2 VA VB X _ (h1.below B0.out) (h2.below B0.out))
  clear h1 h2
  go_enter Try.func36, Try.ntmps36
  go_wp2_with fail
  refine E.out.mono ?_
  rintro e w' ⟨rfl, q, rfl⟩
  go_wp2_with fail
  go_ret
  exact ⟨rfl, below_drewN B0.out _⟩
end Go.Proofs.Ytcbfcpngpnlodaa
end
section
namespace Go.Proofs.Ytcbfcpngpnlodaa
open Go.RowKit
set_option maxRecDepth 100000

/-- 2^(i+1) - 1. -/
def sp : Nat → Nat
  | 0 => 1
  | i + 1 => 2 * sp i + 1
theorem sp_pow (i : Nat) : sp i + 1 = 2 ^ (i + 1) := by
  induction i with
  | zero => rfl
  | succ i ih => rw [sp, Nat.pow_succ, ← ih]; omega
theorem sp_gt (i : Nat) : i < sp i := by
  induction i with
  | zero => decide
  | succ i ih => rw [sp]; omega
theorem sp_mono (i j : Nat) : sp i ≤ sp (i + j) := by
  induction j with
  | zero => exact Nat.le_refl _
  | succ j ih => rw [← Nat.add_assoc, sp]; omega

/-- One number of the row, and m of them from p on. -/
def upd (p : Nat) (xs : List Int) (n : Nat) : List Int := xs.set n (wrap64 (xs[n]?.getD 0 + xs[n - p]?.getD 0))
def cpRow (p : Nat) (xs : List Int) : Nat → List Int
  | 0 => xs
  | m + 1 => upd p (cpRow p xs m) (p + m)
theorem cpRow_length (p : Nat) (xs : List Int) (m : Nat) : (cpRow p xs m).length = xs.length := by
  induction m with
  | zero => rfl
  | succ m ih => rw [cpRow, upd, List.length_set, ih]

/-- The row behind i weights. -/
def cpTo (d : Nat) : Nat → List Int
  | 0 => 1 :: List.replicate d 0
  | i + 1 => cpRow (sp i) (cpTo d i) (d + 1 - sp i)
theorem cpTo_length (d i : Nat) : (cpTo d i).length = d + 1 := by
  induction i with
  | zero => simp [cpTo]
  | succ i ih => rw [cpTo, cpRow_length, ih]
theorem cpTo_stop (d i : Nat) (h : d < sp i) (j : Nat) : cpTo d (i + j) = cpTo d i := by
  induction j with
  | zero => rfl
  | succ j ih =>
    have := sp_mono i j
    rw [← Nat.add_assoc, cpTo, show d + 1 - sp (i + j) = 0 by omega, cpRow, ih]
theorem cpTo_end (d i k : Nat) (h : d < sp i) (hk : i ≤ k) : cpTo d i = cpTo d k := by
  obtain ⟨j, rfl⟩ : ∃ j, k = i + j := ⟨k - i, by omega⟩
  exact (cpTo_stop d i h j).symm
theorem map_upd (p : Nat) (xs : List Int) (n : Nat) : (upd p xs n).map (Value.int .i64) = (xs.map (Value.int .i64)).set n (.int .i64 (wrap64 (xs[n]?.getD 0 + xs[n - p]?.getD 0))) := by
  rw [upd, List.map_set]
end Go.Proofs.Ytcbfcpngpnlodaa
end
