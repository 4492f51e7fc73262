/-
  Joined: MBase, YBase, SBase.
-/
import Derived.Test.YtnfhfilconcajaaZxactSquareOn02
import Derived.BigRegion
import Derived.Laws.ResultCell
import Derived.Test.YtnfhfilconcajaaZxactSquareOn12
section
namespace Go.Proofs.Ytnfhfilconcajaa
open Go.RowKit
set_option linter.unusedVariables false
set_option maxRecDepth 100000

theorem _root_.Go.World.ownsRow.shape {w : World} {B : Nat} {v : Value} {n : Nat} {xs : List Value} {e : TypeId} {s : Nat} (h : w.ownsRow B e s v n xs) : ∃ a cap, v = .slice a n cap := by
  rcases h.2 with ⟨rfl, h0⟩ | ⟨g, cap, cur, rfl, _⟩
  · exact ⟨none, 0, by rw [h0]⟩
  · exact ⟨_, cap, rfl⟩

/-- Block g holds a struct of two cells. -/
def Box (w : World) (g : Nat) (t : TypeId) (x y : Value) : Prop := w.heap[g]? = some (.cells #[x, y] t (0, 0))
section
variable {w w' : World} {g : Nat} {t : TypeId} {x y : Value}
theorem Box.lt (h : Box w g t x y) : g < w.heap.size := (Array.getElem?_eq_some_iff.1 h).1
theorem Box.c0 (h : Box w g t x y) : w.cell? ⟨g, 0, none⟩ = some x := cell_of_row w g 0 _ _ (0, 0) h
theorem Box.c1 (h : Box w g t x y) : w.cell? ⟨g, 1, none⟩ = some y := cell_of_row w g 1 _ _ (0, 0) h
theorem Box.fr (h : Box w g t x y) (i : Nat) : w.frozen? ⟨g, i, none⟩ = false := by unfold Box at h; simp [World.frozen?, h]
theorem Box.new (w : World) (t : TypeId) (x y : Value) : Box (w.alloc (.cells #[x, y] t)) w.heap.size t x y := heap_alloc_new w _
theorem Box.alloc (h : Box w g t x y) (o : Obj) : Box (w.alloc o) g t x y := (heap_alloc_old w o h.lt).trans h
theorem Box.below {B : Nat} (h : Box w g t x y) (k : Below B w w') (hg : g < B) : Box w' g t x y := (k.block g hg).trans h
theorem Box.up (h : Box w g t x y) (k : Below w.heap.size w w') : Box w' g t x y := h.below k h.lt
theorem Box.drewN (h : Box w g t x y) (q : Nat) : Box (w.drewN q) g t x y := h
theorem Box.set0 (h : Box w g t x y) (v : Value) : Box (w.setCell ⟨g, 0, none⟩ v) g t v y := heap_setCell_same w g 0 _ t v h
theorem Box.set1 (h : Box w g t x y) (v : Value) : Box (w.setCell ⟨g, 1, none⟩ v) g t x v := heap_setCell_same w g 1 _ t v h
theorem Box.other (h : Box w g t x y) (a : Addr) (v : Value) (hne : g ≠ a.block) : Box (w.setCell a v) g t x y := (heap_setCell_other w a g v hne).trans h
end

end Go.Proofs.Ytnfhfilconcajaa
end
section
namespace Go.Proofs.Ytnfhfilconcajaa
open Go.RowKit
set_option linter.unusedVariables false
set_option maxRecDepth 100000

theorem toPoly_any (k : Int) (V : Value) (m : Nat) (X : Nat → List Int) (w : World) (hm : m ≤ 1048576) (hX : ∀ i, i < m → (X i).length ≤ 1048576) (h : RdSS w V m X) :
    Calls Try.prog 14 #[.agg #[.int .i64 k, V]] w fun e w' => ∃ U US, e = .returned (.agg #[.int .i64 k, U]) ∧ Fam w' w.heap.size U m US X ∧ Below w.heap.size w w' ∧ Sep m US := by
  have H := Lib.hid h
  have HX := Lib.hid hX
  clear h hX
  have t1 := Try.underlying24
  have t2 := Try.underlying27
  go_enter Try.func14, Try.ntmps14
  go_wp2_with fail
  have W1 : ∃ w1, w1 = (((w.alloc (.cells #[.int .i64 k, V] 24)).alloc (.cells #[.int .i64 0, .slice none 0 0] 27)).alloc (.cells #[.int .i64 k, .slice none 0 0] 27)) := ⟨_, rfl⟩
  obtain ⟨w1, hw1⟩ := W1
  have B0 : Hid (Below w.heap.size w w1) := Lib.hid (by rw [hw1]; exact (((Below.refl w.heap.size w).alloc (Nat.le_refl _) _).alloc (by simp) _).alloc (by simp; omega) _)
  have b1 : Hid (Box w1 (w.heap.size + 1) 27 (.int .i64 0) (.slice none 0 0)) := Lib.hid (by rw [hw1]; have := (Box.new (w.alloc (.cells #[.int .i64 k, V] 24)) 27 (.int .i64 0) (.slice none 0 0)).alloc (.cells #[.int .i64 k, .slice none 0 0] 27); simpa using this)
  have b2 : Hid (Box w1 (w.heap.size + 1 + 1) 27 (.int .i64 k) (.slice none 0 0)) := Lib.hid (by rw [hw1]; have := Box.new ((w.alloc (.cells #[.int .i64 k, V] 24)).alloc (.cells #[.int .i64 0, .slice none 0 0] 27)) 27 (.int .i64 k) (.slice none 0 0); simpa using this)
  have hs : Hid (w1.heap.size = w.heap.size + 3) := Lib.hid (by rw [hw1]; simp)
  have R := Lib.hid (H.out.below B0.out)
  rw [← hw1]
  clear hw1
  refine (toSS_any V m X w1 hm HX.out R.out).mono ?_
  rintro e w2 ⟨U, US, rfl, ho, hb, hsp⟩
  obtain ⟨ua, ucap, rfl, _⟩ := ho.head
  have D1 := Lib.hid (b1.out.up hb)
  have D2 := Lib.hid (b2.out.up hb)
  have c10 := D1.out.c0
  have c11 := D1.out.c1
  have c20 := D2.out.c0
  have c21 := D2.out.c1
  have f10 := D1.out.fr 0
  have f11 := D1.out.fr 1
  have f21 := D2.out.fr 1
  have HO := Lib.hid ho
  have HS := Lib.hid hsp
  have HB := Lib.hid (B0.out.trans (hb.mono B0.out.size))
  clear ho hb hsp
  go_wp2
  have E1 := ((D1.out.other ⟨w.heap.size + 1 + 1, 1, none⟩ (.slice ua m ucap) (by simp)).set0 (.int .i64 k)).set1 (.slice ua m ucap)
  refine bodyPost_ret (results_cell_row rfl _ _ (w.heap.size + 1) 27 _ (0, 0) _ rfl E1 t2 rfl (by kernel_rfl)) rfl ?_
  have hb3 := ((HB.out.setCell (p := ⟨w.heap.size + 1 + 1, 1, none⟩) (by simp; omega) (.slice ua m ucap)).setCell (p := ⟨w.heap.size + 1, 0, none⟩) (by simp) (.int .i64 k)).setCell (p := ⟨w.heap.size + 1, 1, none⟩) (by simp) (.slice ua m ucap)
  refine ⟨_, US, rfl, ?_, hb3, HS.out⟩
  refine (Fam.same HO.out fun g hg hlt => ?_).base (by have := hs.out; omega)
  have := hs.out
  rw [heap_setCell_other _ _ _ _ (by simp; omega), heap_setCell_other _ _ _ _ (by simp; omega), heap_setCell_other _ _ _ _ (by simp; omega)]

theorem szPoly_yes (k : Int) (V : Value) (m : Nat) (X : Nat → List Int) (left : Nat) (w : World) (h : RdSS w V m X) (hl : left ≤ 1048576) (hm : m + tot X m ≤ left) :
    Calls Try.prog 12 #[.agg #[.int .i64 k, V], .int .i64 (left : Int)] w fun e w' => e = .returned (.int .i64 ((left : Int) - ((m + tot X m : Nat) : Int))) ∧ Below w.heap.size w w' := by
  have B0 : Hid (Below w.heap.size w (w.alloc (.cells #[.int .i64 k, V] 24))) := Lib.hid ((Below.refl w.heap.size w).alloc (Nat.le_refl _) _)
  have SZ := Lib.hid (szSS_any V m X left _ (h.below B0.out) hl hm)
  have t1 := Try.underlying24
  have hge : ¬ (left : Int) - ((m + tot X m : Nat) : Int) < 0 := by omega
  generalize (left : Int) - ((m + tot X m : Nat) : Int) = lf at SZ hge
  clear h
  go_enter Try.func12, Try.ntmps12
  go_wp2_with fail
  refine SZ.out.mono ?_
  rintro e w' ⟨rfl, rfl⟩
  go_wp2_with fail
  go_ret
  exact ⟨rfl, B0.out⟩
theorem szPoly_over (k : Int) (V : Value) (m : Nat) (X : Nat → List Int) (left : Nat) (w : World) (h : RdSS w V m X) (hl : left ≤ 1048576) (hm : left < m + tot X m) :
    Calls Try.prog 12 #[.agg #[.int .i64 k, V], .int .i64 (left : Int)] w fun e w' => e = .returned (.int .i64 (-1)) ∧ Below w.heap.size w w' := by
  have B0 : Hid (Below w.heap.size w (w.alloc (.cells #[.int .i64 k, V] 24))) := Lib.hid ((Below.refl w.heap.size w).alloc (Nat.le_refl _) _)
  have SZ := Lib.hid (szSS_over V m X left _ (h.below B0.out) hl hm)
  have t1 := Try.underlying24
  clear h
  go_enter Try.func12, Try.ntmps12
  go_wp2_with fail
  refine SZ.out.mono ?_
  rintro e w' ⟨rfl, rfl⟩
  go_wp2_with fail
  go_ret
  exact ⟨rfl, B0.out⟩

theorem eqPoly_same (k : Int) (U1 U2 : Value) (m : Nat) (B1 B2 : Nat) (VA VB : Nat → Value) (X : Nat → List Int) (w : World) (h1 : Fam w B1 U1 m VA X) (h2 : Fam w B2 U2 m VB X) :
    Calls Try.prog 16 #[.agg #[.int .i64 k, U1], .agg #[.int .i64 k, U2]] w fun e w' => e = .returned (.bool true) ∧ Below w.heap.size w w' := by
  have t2 := Try.underlying27
  obtain ⟨a1, q1, rfl, _⟩ := h1.head
  obtain ⟨a2, q2, rfl, _⟩ := h2.head
  have B0 : Hid (Below w.heap.size w ((w.alloc (.cells #[.int .i64 k, .slice a1 m q1] 27)).alloc (.cells #[.int .i64 k, .slice a2 m q2] 27))) := Lib.hid (((Below.refl w.heap.size w).alloc (Nat.le_refl _) _).alloc (by simp) _)
  have E := Lib.hid (fun q : Nat => eqInt64SS_same _ _ m B1 B2 VA VB X _ (Fam.drewN (h1.below B0.out) q) (Fam.drewN (h2.below B0.out) q))
  clear h1 h2
  go_enter Try.func16, Try.ntmps16
  go_wp2_with fail
  refine (E.out 0).mono ?_
  rintro e w' ⟨rfl, q, rfl⟩
  go_wp2_with fail
  go_ret
  exact ⟨rfl, below_drewN B0.out _⟩

theorem markPoly_from (c : Int) (k0 : Int) (hk0 : 0 ≤ k0) (U : Value) (m : Nat) (B : Nat) (VS : Nat → Value) (Y : Nat → List Int) (w : World) (h : Fam w B U m VS Y) (hs : Sep m VS) (hB : B ≤ w.heap.size)
    (hk : off k0 (fun i => (Y i).length) m ≤ 1152921504606846976) :
    Calls Try.prog 19 #[.agg #[.int .i64 c, U], .int .i64 k0] w fun e w' => e = .returned (.int .i64 (off k0 (fun i => (Y i).length) m)) ∧ Fam w' B U m VS (mkd k0 Y m) ∧ Below B w w' ∧ MRestK m VS w w' := by
  have t2 := Try.underlying27
  have b0 : Below w.heap.size w (w.alloc (.cells #[.int .i64 c, U] 27)) := (Below.refl _ w).alloc (Nat.le_refl _) _
  have M := Lib.hid (markSS_from k0 hk0 U m B VS Y _ (h.below b0) hs hk)
  have B0 : Hid (Below B w (w.alloc (.cells #[.int .i64 c, U] 27))) := Lib.hid (b0.mono hB)
  generalize off k0 (fun i => (Y i).length) m = kk at M ⊢
  clear h hs b0 hk
  go_enter Try.func19, Try.ntmps19
  go_wp2_with fail
  refine M.out.mono ?_
  rintro e w' ⟨rfl, hF, hb, hr⟩
  have HF := Lib.hid hF
  have HB := Lib.hid (B0.out.trans hb)
  have HR := Lib.hid hr.box
  clear hF hb hr
  go_wp2_with fail
  go_ret
  exact ⟨rfl, HF.out, HB.out, HR.out⟩

theorem heldPoly_own (c : Int) (U : Value) (m : Nat) (B : Nat) (VS : Nat → Value) (Y : Nat → List Int) (w : World) (h : Fam w B U m VS (mkd 1 Y m))
    (hk : off 1 (fun i => (Y i).length) m ≤ 1152921504606846976) :
    Calls Try.prog 20 #[.agg #[.int .i64 c, U], .int .i64 1] w fun e w' => e = .returned (.int .i64 (off 1 (fun i => (Y i).length) m)) ∧ Below w.heap.size w w' := by
  have t2 := Try.underlying27
  have b0 : Below w.heap.size w (w.alloc (.cells #[.int .i64 c, U] 27)) := (Below.refl _ w).alloc (Nat.le_refl _) _
  have M := Lib.hid (heldInt64SS_own U m B VS Y _ (h.below b0) hk)
  have B0 := Lib.hid b0
  have hge : ¬ off 1 (fun i => (Y i).length) m < 0 := by rw [off_any]; omega
  generalize off 1 (fun i => (Y i).length) m = kk at M hge ⊢
  clear h b0 hk
  go_enter Try.func20, Try.ntmps20
  go_wp2_with fail
  refine M.out.mono ?_
  rintro e w' ⟨rfl, rfl⟩
  go_wp2_with fail
  go_ret
  exact ⟨rfl, B0.out⟩

/-- A struct Poly and a number as results, the struct in a cell of two. -/
theorem results_box2_tmp {fn : Func} {p u : Tmp} {t : TypeId} (h : fn.results = #[.cell p t, .tmp u]) (tmps : Array Value) (w : World) (g : Nat) (x y : Value) (fs : Array Field)
    (hp : tmps.getD p undef = .pointer (some ⟨g, 0, none⟩)) (hg : Box w g t x y)
    (hu : Try.prog.underlying t = some (.struct fs)) (hi : (Try.prog.info? t).map (·.size) = some 2) :
    (results fn tmps).run Try.prog w = .ok (.tuple #[.agg #[x, y], tmps.getD u undef]) w := by
  rw [results_cell_tmp h, hp]
  have := run_loadVar_row (P := Try.prog) w g t t #[x, y] (0, 0) (.struct fs) hg hu rfl hi
  show ((loadVar t ⟨g, 0, none⟩).run Try.prog w).andThen _ = _
  rw [this]
  rfl

/-- What returns a polynomial and a code. -/
def ResY (k : Int) (L : List (List Int)) (cd : Int) (w : World) (e : Ending) (w' : World) : Prop :=
  ∃ V VS, e = .returned (.tuple #[.agg #[.int .i64 k, V], .int .i64 cd]) ∧ FamL w' w.heap.size V VS L ∧ Sep L.length VS ∧ Below w.heap.size w w'
end Go.Proofs.Ytnfhfilconcajaa
end
section
namespace Go.Proofs.Ytnfhfilconcajaa
open Go.RowKit
set_option linter.unusedVariables false
set_option maxRecDepth 100000

end Go.Proofs.Ytnfhfilconcajaa
end
