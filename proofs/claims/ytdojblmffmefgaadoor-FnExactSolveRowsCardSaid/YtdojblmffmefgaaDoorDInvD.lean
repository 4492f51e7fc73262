/-
  InverseMatrix: the ways that answer with an error, and both sides together.
-/
import Derived.Test.YtdojblmffmefgaaDoorDInvC
namespace Go.Proofs.YtdojblmffmefgaaDoor
open Go.RowKit
set_option linter.unusedVariables false
set_option maxRecDepth 100000

set_option maxHeartbeats 1000000 in
theorem specInv_no (c : Int) (s : Value) (n : Nat) (G : Nat → Int) (w : World) (h : RdI w s n G) (hi : isMat c n G = false) :
    Calls Tryd.prog 50 #[.agg #[.int .i64 c, s]] w (MRes 0 [] 1 w) := by
  have H := Lib.hid h
  obtain ⟨a, cap, rfl, hm, hc⟩ := h
  clear hc
  have t2 := Tryd.underlying26
  obtain ⟨w2, hw2, B2, XA, XR, HR⟩ := box_two (c := c) H.out
  have SI := Lib.hid (specIs_any c _ n G w2 HR)
  have B2 := Lib.hid B2
  have XR := Lib.hid XR
  rw [hi] at SI
  clear hi XA HR
  go_enter Tryd.func50, Tryd.ntmps50
  go_wp2_with fail
  rw [← hw2]
  clear hw2
  refine SI.out.mono ?_
  rintro e w3 ⟨rfl, b3⟩
  have B3 := Lib.hid (B2.out.trans (b3.mono B2.out.size))
  have XR3 := Lib.hid (XR.out.up b3)
  clear b3 B2 XR
  have cR0 := XR3.out.c0
  have cR1 := XR3.out.c1
  have fR0 := XR3.out.fr 0
  have fR1 := XR3.out.fr 1
  have X5 := Lib.hid ((XR3.out.set0 (.int .i64 0)).set1 (.slice none 0 0))
  have B5 := Lib.hid ((B3.out.setCell (p := ⟨w.heap.size + 1, 0, none⟩) (by simp) (.int .i64 0)).setCell (p := ⟨w.heap.size + 1, 1, none⟩) (by simp) (.slice none 0 0))
  go_wp2_with fail
  refine bodyPost_ret (results_box_tmp rfl _ _ (w.heap.size + 1) _ _ _ rfl X5.out t2 (by kernel_rfl)) rfl ?_
  exact ⟨_, rfl, World.ownsRow_nil _ _ _ _, B5.out⟩

set_option maxHeartbeats 1000000 in
theorem implInv_no (c : Int) (s : Value) (n : Nat) (G : Nat → Int) (w : World) (h : RdI w s n G) (hi : isMat c n G = false) :
    Calls Tryd.prog 49 #[.agg #[.int .i64 c, s]] w (MRes 0 [] 1 w) := by
  have H := Lib.hid h
  obtain ⟨a, cap, rfl, hm, hc⟩ := h
  clear hc
  have t2 := Tryd.underlying26
  obtain ⟨w2, hw2, B2, XA, XR, HR⟩ := box_two (c := c) H.out
  have SI := Lib.hid (implIs_any c _ n G w2 HR)
  have B2 := Lib.hid B2
  have XR := Lib.hid XR
  rw [hi] at SI
  clear hi XA HR
  go_enter Tryd.func49, Tryd.ntmps49
  go_wp2_with fail
  rw [← hw2]
  clear hw2
  refine SI.out.mono ?_
  rintro e w3 ⟨rfl, b3⟩
  have B3 := Lib.hid (B2.out.trans (b3.mono B2.out.size))
  have XR3 := Lib.hid (XR.out.up b3)
  clear b3 B2 XR
  have cR0 := XR3.out.c0
  have cR1 := XR3.out.c1
  have fR0 := XR3.out.fr 0
  have fR1 := XR3.out.fr 1
  have X5 := Lib.hid ((XR3.out.set0 (.int .i64 0)).set1 (.slice none 0 0))
  have B5 := Lib.hid ((B3.out.setCell (p := ⟨w.heap.size + 1, 0, none⟩) (by simp) (.int .i64 0)).setCell (p := ⟨w.heap.size + 1, 1, none⟩) (by simp) (.slice none 0 0))
  go_wp2_with fail
  refine bodyPost_ret (results_box_tmp rfl _ _ (w.heap.size + 1) _ _ _ rfl X5.out t2 (by kernel_rfl)) rfl ?_
  exact ⟨_, rfl, World.ownsRow_nil _ _ _ _, B5.out⟩

set_option maxHeartbeats 1000000 in
theorem specInv_off (c : Int) (s : Value) (n : Nat) (G : Nat → Int) (w : World) (h : RdI w s n G) (hi : isMat c n G = true) (hcn : c ≠ (n : Int)) :
    Calls Tryd.prog 50 #[.agg #[.int .i64 c, s]] w (MRes 0 [] 2 w) := by
  have H := Lib.hid h
  obtain ⟨a, cap, rfl, hm, hc⟩ := h
  clear hc
  have t2 := Tryd.underlying26
  obtain ⟨w2, hw2, B2, XA, XR, HR⟩ := box_two (c := c) H.out
  have SI := Lib.hid (specIs_any c _ n G w2 HR)
  have B2 := Lib.hid B2
  have XR := Lib.hid XR
  rw [hi] at SI
  have XA := Lib.hid XA
  have hne : (c != (n : Int)) = true := by rw [bne_iff_ne]; exact hcn
  clear hi HR hcn
  go_enter Tryd.func50, Tryd.ntmps50
  go_wp2_with fail
  rw [← hw2]
  clear hw2
  refine SI.out.mono ?_
  rintro e w3 ⟨rfl, b3⟩
  have B3 := Lib.hid (B2.out.trans (b3.mono B2.out.size))
  have XR3 := Lib.hid (XR.out.up b3)
  have XA3 := Lib.hid (XA.out.up b3)
  have cA0 := XA3.out.c0
  have cA1 := XA3.out.c1
  clear b3 B2 XR
  have cR0 := XR3.out.c0
  have cR1 := XR3.out.c1
  have fR0 := XR3.out.fr 0
  have fR1 := XR3.out.fr 1
  have X5 := Lib.hid ((XR3.out.set0 (.int .i64 0)).set1 (.slice none 0 0))
  have B5 := Lib.hid ((B3.out.setCell (p := ⟨w.heap.size + 1, 0, none⟩) (by simp) (.int .i64 0)).setCell (p := ⟨w.heap.size + 1, 1, none⟩) (by simp) (.slice none 0 0))
  go_wp2_with fail
  refine bodyPost_ret (results_box_tmp rfl _ _ (w.heap.size + 1) _ _ _ rfl X5.out t2 (by kernel_rfl)) rfl ?_
  exact ⟨_, rfl, World.ownsRow_nil _ _ _ _, B5.out⟩

set_option maxHeartbeats 1000000 in
theorem implInv_off (c : Int) (s : Value) (n : Nat) (G : Nat → Int) (w : World) (h : RdI w s n G) (hi : isMat c n G = true) (hcn : c ≠ (n : Int)) :
    Calls Tryd.prog 49 #[.agg #[.int .i64 c, s]] w (MRes 0 [] 2 w) := by
  have H := Lib.hid h
  obtain ⟨a, cap, rfl, hm, hc⟩ := h
  clear hc
  have t2 := Tryd.underlying26
  obtain ⟨w2, hw2, B2, XA, XR, HR⟩ := box_two (c := c) H.out
  have SI := Lib.hid (implIs_any c _ n G w2 HR)
  have B2 := Lib.hid B2
  have XR := Lib.hid XR
  rw [hi] at SI
  have XA := Lib.hid XA
  have hne : ((n : Int) != c) = true := by rw [bne_iff_ne]; exact fun h => hcn h.symm
  clear hi HR hcn
  go_enter Tryd.func49, Tryd.ntmps49
  go_wp2_with fail
  rw [← hw2]
  clear hw2
  refine SI.out.mono ?_
  rintro e w3 ⟨rfl, b3⟩
  have B3 := Lib.hid (B2.out.trans (b3.mono B2.out.size))
  have XR3 := Lib.hid (XR.out.up b3)
  have XA3 := Lib.hid (XA.out.up b3)
  clear b3 B2 XR
  have KEEP : Hid (∀ wx, Below w3.heap.size w3 wx → (wx.cell? ⟨w.heap.size, 0, none⟩ = some (.int .i64 c) ∧ wx.cell? ⟨w.heap.size, 1, none⟩ = some (.slice a n cap) ∧ Below w3.heap.size w3 wx)) :=
    Lib.hid (fun wx hb => ⟨(XA3.out.up hb).c0, (XA3.out.up hb).c1, hb⟩)
  go_wp2_with fail
  go_region_held3 (fun wx => wx.cell? ⟨w.heap.size, 0, none⟩ = some (.int .i64 c) ∧ wx.cell? ⟨w.heap.size, 1, none⟩ = some (.slice a n cap) ∧ Below w3.heap.size w3 wx)
    (first | exact KEEP.out _ (Below.refl _ _).drew | exact KEEP.out _ (by assumption))
    (first | (go_at_call 79; refine (rowCount_any _ _ _ _ _).mono ?_; rintro e w4 ⟨rfl, b4⟩; have z4 := below_drew1 b4))
  have B4 := Lib.hid (B3.out.trans (z4.mono B3.out.size))
  have XR4 := Lib.hid (XR3.out.up z4)
  have cR0 := XR4.out.c0
  have cR1 := XR4.out.c1
  have fR0 := XR4.out.fr 0
  have fR1 := XR4.out.fr 1
  have X5 := Lib.hid ((XR4.out.set0 (.int .i64 0)).set1 (.slice none 0 0))
  have B5 := Lib.hid ((B4.out.setCell (p := ⟨w.heap.size + 1, 0, none⟩) (by simp) (.int .i64 0)).setCell (p := ⟨w.heap.size + 1, 1, none⟩) (by simp) (.slice none 0 0))
  go_wp2_with fail
  refine bodyPost_ret (results_box_tmp rfl _ _ (w.heap.size + 1) _ _ _ rfl X5.out t2 (by kernel_rfl)) rfl ?_
  exact ⟨_, rfl, World.ownsRow_nil _ _ _ _, B5.out⟩

theorem InverseMatrix_both (c : Int) (n : Nat) (G : Nat → Int) : ∃ (C : Int) (L : List Int) (cd : Int), L.length ≤ 200 ∧
    (∀ w s, RdI w s n G → Calls Tryd.prog 50 #[.agg #[.int .i64 c, s]] w (MRes C L cd w)) ∧
    (∀ w s, RdI w s n G → T0 w → Calls Tryd.prog 49 #[.agg #[.int .i64 c, s]] w (MRes C L cd w)) := by
  cases hi : isMat c n G with
  | false => exact ⟨0, [], 1, by simp, fun w s h => specInv_no c s n G w h hi, fun w s h _ => implInv_no c s n G w h hi⟩
  | true =>
    by_cases hcn : c = (n : Int)
    · subst hcn
      obtain ⟨k, R, e, hk, hn, hl, hR, _, hN⟩ := mat_rd hi
      have hn6 : n ≤ 60 := by omega
      obtain ⟨C, L, cd, hres, hlen⟩ := inv_ex (sol R) n hn6
      refine ⟨C, L, cd, hlen, fun w s h => specInv_in n s G R w h hi hl hn6 hR hN C L cd hres, fun w s h hT => implInv_in n s G R w h hi hl hn6 hR hN hT C L cd ?_⟩
      subst hl
      exact Inv.both hn6 hR hres
    · exact ⟨0, [], 2, by simp, fun w s h => specInv_off c s n G w h hi hcn, fun w s h _ => implInv_off c s n G w h hi hcn⟩
end Go.Proofs.YtdojblmffmefgaaDoor
