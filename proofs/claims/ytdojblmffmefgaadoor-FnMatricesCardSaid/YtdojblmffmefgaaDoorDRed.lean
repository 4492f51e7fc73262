/-
  Contracts of spec.ReducedForm and impl.ReducedForm.
-/
import Derived.Test.YtdojblmffmefgaaDoorDSpace
import Derived.Test.YtdojblmffmefgaaDoorMLaw2
namespace Go.Proofs.YtdojblmffmefgaaDoor
open Go.RowKit
set_option linter.unusedVariables false
set_option maxRecDepth 100000

/-- A valid matrix, as masks. -/
theorem mat_rd {c : Int} {n : Nat} {G : Nat → Int} (h : isMat c n G = true) : ∃ (k : Nat) (R : List Nat), c = (k : Int) ∧ k ≤ 60 ∧ n ≤ 200 ∧ R.length = n ∧ (∀ x ∈ R, x < 2 ^ 60) ∧ (∀ x ∈ R, x < 2 ^ k) ∧ ∀ (w : World) (s : Value), RdI w s n G → RdN w s R := by
  have ho : okMat c n G := Classical.byContradiction fun h2 => by rw [isMat_no h2] at h; cases h
  obtain ⟨k, R, e, hk, hn, hl, hG, hR⟩ := mat_nat ho
  refine ⟨k, R, e, hk, hn, hl, fun x hx => Nat.lt_of_lt_of_le (hR x hx) (Nat.pow_le_pow_right (by decide) hk), hR, fun w s h => ?_⟩
  unfold RdN
  rw [hl]
  exact h.congr hG

theorem grown_below2 {w w' w'' : World} {g : Nat} (b : Below w.heap.size w w') (k : w'.grownBy w'' (some g)) (h : w.heap.size ≤ g) : Below w.heap.size w w'' :=
  b.grown k b.size (fun q hq => by cases hq; exact h)

/-- The argument in its box and the result's box. -/
theorem box_two {c : Int} {a : Option Addr} {n cap : Nat} {G : Nat → Int} {w : World} (h : RdI w (.slice a n cap) n G) : ∃ w2, w2 = ((w.alloc (.cells #[.int .i64 c, .slice a n cap] 26)).alloc (.cells #[.int .i64 0, .slice none 0 0] 26)) ∧
    Below w.heap.size w w2 ∧ Box w2 w.heap.size 26 (.int .i64 c) (.slice a n cap) ∧ Box w2 (w.heap.size + 1) 26 (.int .i64 0) (.slice none 0 0) ∧ RdI w2 (.slice a n cap) n G := by
  have B : Below w.heap.size w ((w.alloc (.cells #[.int .i64 c, .slice a n cap] 26)).alloc (.cells #[.int .i64 0, .slice none 0 0] 26)) := ((Below.refl w.heap.size w).alloc (Nat.le_refl _) _).alloc (by simp) _
  refine ⟨_, rfl, B, (Box.new w _ _ _).alloc _, ?_, h.below B⟩
  have := Box.new (w.alloc (.cells #[.int .i64 c, .slice a n cap] 26)) 26 (.int .i64 0) (.slice none 0 0)
  simpa using this

/-- The rows are of their own behind the storing of the result. -/
theorem own_stored {w : World} {gR B n : Nat} {x y v u1 u2 : Value} {xs : List Value} (h : Box w gR 26 x y) (o : w.ownsRow B 2 1 v n xs) :
    ((w.setCell ⟨gR, 0, none⟩ u1).setCell ⟨gR, 1, none⟩ u2).ownsRow B 2 1 v n xs :=
  own_setBox (h.set0 u1) (own_setBox h o (by decide)) (by decide)

set_option maxHeartbeats 1000000 in
theorem specRed_no (c : Int) (s : Value) (n : Nat) (G : Nat → Int) (w : World) (h : RdI w s n G) (hi : isMat c n G = false) :
    Calls Tryd.prog 37 #[.agg #[.int .i64 c, s]] w (MRes 0 [] 1 w) := by
  have H := Lib.hid h
  obtain ⟨a, cap, rfl, hm, hc⟩ := h
  clear hc
  have t2 := Tryd.underlying26
  obtain ⟨w2, hw2, B2, XA, XR, HR⟩ := box_two (c := c) H.out
  have SI := Lib.hid (specIs_any c _ n G w2 HR)
  have B2 := Lib.hid B2
  have XR := Lib.hid XR
  rw [hi] at SI
  clear hi XA HR
  go_enter Tryd.func37, Tryd.ntmps37
  go_wp2_with fail
  rw [← hw2]
  clear hw2
  refine SI.out.mono ?_
  rintro e w3 ⟨rfl, b3⟩
  have B3 := Lib.hid (B2.out.trans (b3.mono B2.out.size))
  have XR3 := Lib.hid (XR.out.up b3)
  clear b3 B2 XR
  have cR0 := XR3.out.c0
  have cR1 := XR3.out.c1
  have fR0 := XR3.out.fr 0
  have fR1 := XR3.out.fr 1
  have X5 := Lib.hid ((XR3.out.set0 (.int .i64 0)).set1 (.slice none 0 0))
  have B5 := Lib.hid ((B3.out.setCell (p := ⟨w.heap.size + 1, 0, none⟩) (by simp) (.int .i64 0)).setCell (p := ⟨w.heap.size + 1, 1, none⟩) (by simp) (.slice none 0 0))
  go_wp2_with fail
  refine bodyPost_ret (results_box_tmp rfl _ _ (w.heap.size + 1) _ _ _ rfl X5.out t2 (by kernel_rfl)) rfl ?_
  exact ⟨_, rfl, World.ownsRow_nil _ _ _ _, B5.out⟩

set_option maxHeartbeats 2000000 in
theorem specRed_yes (k : Nat) (s : Value) (n : Nat) (G : Nat → Int) (R : List Nat) (w : World) (h : RdI w s n G) (hi : isMat k n G = true) (hn : R.length = n) (hn2 : n ≤ 200) (hR : ∀ x ∈ R, x < 2 ^ 60) (hN : ∀ (w : World) (s : Value), RdI w s n G → RdN w s R) :
    Calls Tryd.prog 37 #[.agg #[.int .i64 k, s]] w (MRes k (nI (putAll [] R)) 0 w) := by
  have H := Lib.hid h
  obtain ⟨a, cap, rfl, hm, hc⟩ := h
  clear hc
  have t2 := Tryd.underlying26
  obtain ⟨w2, hw2, B2, XA, XR, HR⟩ := box_two (c := k) H.out
  have SI := Lib.hid (specIs_any k _ n G w2 HR)
  have B2 := Lib.hid B2
  have XA := Lib.hid XA
  have XR := Lib.hid XR
  have HR := Lib.hid HR
  have LN := Lib.hid (nI_length (putAll [] R))
  rw [hi] at SI
  clear hi
  go_enter Tryd.func37, Tryd.ntmps37
  go_wp2_with fail
  rw [← hw2]
  clear hw2
  refine SI.out.mono ?_
  rintro e w3 ⟨rfl, b3⟩
  have B3 := Lib.hid (B2.out.trans (b3.mono B2.out.size))
  have XA3 := Lib.hid (XA.out.up b3)
  have XR3 := Lib.hid (XR.out.up b3)
  have RN := Lib.hid (hN w3 _ (HR.out.below b3))
  have RD := Lib.hid (fun q => l02Reduce_any _ R (w3.drewN q) (RN.out.below (below_drewN (Below.refl _ _) q)) hR (by omega))
  clear b3 B2 XR XA HR SI hN hR
  have NE : Hid (w.heap.size ≠ w.heap.size + 1) := Lib.hid (by omega)
  have KEEP : Hid (∀ wx, w3.grownBy wx (some (w.heap.size + 1)) → (wx.cell? ⟨w.heap.size, 0, none⟩ = some (.int .i64 k) ∧ wx.cell? ⟨w.heap.size, 1, none⟩ = some (.slice a n cap) ∧ w3.grownBy wx (some (w.heap.size + 1)))) :=
    Lib.hid (fun wx hb => ⟨(XA3.out.grownG hb NE.out).c0, (XA3.out.grownG hb NE.out).c1, hb⟩)
  go_wp2_with fail
  go_region_held3 (fun wx => wx.cell? ⟨w.heap.size, 0, none⟩ = some (.int .i64 k) ∧ wx.cell? ⟨w.heap.size, 1, none⟩ = some (.slice a n cap) ∧ w3.grownBy wx (some (w.heap.size + 1)))
    (first | exact KEEP.out _ (grown_of_below (Below.refl _ _).drew _) | exact KEEP.out _ (grown_of_below (by assumption) _) | exact KEEP.out _ (grown_set (grown_set (grown_of_below (by assumption) _))))
    (first | (go_at_call 89; refine (RD.out 1).mono ?_; rintro e w4 ⟨u, rfl, o4, b4⟩; have z4 := below_drew1 b4; obtain ⟨ua, uc, rfl⟩ := o4.shape; have cR0 := (XR3.out.up z4).c0; have cR1 := (XR3.out.up z4).c1; have fR0 := (XR3.out.up z4).fr 0; have fR1 := (XR3.out.up z4).fr 1))
  have O4 : Hid (w4.ownsRow w.heap.size 2 1 (.slice ua (putAll [] R).length uc) (putAll [] R).length ((nI (putAll [] R)).map (Value.int .i64))) := Lib.hid (own_base o4 (by have := B3.out.size; simpa using this))
  have X4 := Lib.hid (XR3.out.up z4)
  have F1 := Lib.hid (own_stored (u1 := .int .i64 k) (u2 := .slice ua (putAll [] R).length uc) X4.out O4.out)
  have F2 := Lib.hid ((X4.out.set0 (.int .i64 k)).set1 (.slice ua (putAll [] R).length uc))
  have B4 := Lib.hid (B3.out.trans (z4.mono B3.out.size))
  have F3 := Lib.hid ((B4.out.setCell (p := ⟨w.heap.size + 1, 0, none⟩) (by simp) (.int .i64 k)).setCell (p := ⟨w.heap.size + 1, 1, none⟩) (by simp) (.slice ua (putAll [] R).length uc))
  go_wp2_with fail
  refine bodyPost_ret (results_box_tmp rfl _ _ (w.heap.size + 1) _ _ _ rfl F2.out t2 (by kernel_rfl)) rfl ?_
  refine ⟨_, rfl, ?_, F3.out⟩
  rw [LN.out]
  exact F1.out

set_option maxHeartbeats 1000000 in
theorem implRed_no (c : Int) (s : Value) (n : Nat) (G : Nat → Int) (w : World) (h : RdI w s n G) (hi : isMat c n G = false) :
    Calls Tryd.prog 36 #[.agg #[.int .i64 c, s]] w (MRes 0 [] 1 w) := by
  have H := Lib.hid h
  obtain ⟨a, cap, rfl, hm, hc⟩ := h
  clear hc
  have t2 := Tryd.underlying26
  obtain ⟨w2, hw2, B2, XA, XR, HR⟩ := box_two (c := c) H.out
  have SI := Lib.hid (implIs_any c _ n G w2 HR)
  have B2 := Lib.hid B2
  have XR := Lib.hid XR
  rw [hi] at SI
  clear hi XA HR
  go_enter Tryd.func36, Tryd.ntmps36
  go_wp2_with fail
  rw [← hw2]
  clear hw2
  refine SI.out.mono ?_
  rintro e w3 ⟨rfl, b3⟩
  have B3 := Lib.hid (B2.out.trans (b3.mono B2.out.size))
  have XR3 := Lib.hid (XR.out.up b3)
  clear b3 B2 XR
  have cR0 := XR3.out.c0
  have cR1 := XR3.out.c1
  have fR0 := XR3.out.fr 0
  have fR1 := XR3.out.fr 1
  have X5 := Lib.hid ((XR3.out.set0 (.int .i64 0)).set1 (.slice none 0 0))
  have B5 := Lib.hid ((B3.out.setCell (p := ⟨w.heap.size + 1, 0, none⟩) (by simp) (.int .i64 0)).setCell (p := ⟨w.heap.size + 1, 1, none⟩) (by simp) (.slice none 0 0))
  go_wp2_with fail
  refine bodyPost_ret (results_box_tmp rfl _ _ (w.heap.size + 1) _ _ _ rfl X5.out t2 (by kernel_rfl)) rfl ?_
  exact ⟨_, rfl, World.ownsRow_nil _ _ _ _, B5.out⟩

set_option maxHeartbeats 2000000 in
theorem implRed_yes (k : Nat) (s : Value) (n : Nat) (G : Nat → Int) (R : List Nat) (w : World) (h : RdI w s n G) (hi : isMat k n G = true) (hn : R.length = n) (hn2 : n ≤ 200) (hR : ∀ x ∈ R, x < 2 ^ 60) (hN : ∀ (w : World) (s : Value), RdI w s n G → RdN w s R) (hT : T0 w) :
    Calls Tryd.prog 36 #[.agg #[.int .i64 k, s]] w (MRes k (nI (rowsK (spaceL R) 60)) 0 w) := by
  have H := Lib.hid h
  obtain ⟨a, cap, rfl, hm, hc⟩ := h
  clear hc
  have t2 := Tryd.underlying26
  obtain ⟨w2, hw2, B2, XA, XR, HR⟩ := box_two (c := k) H.out
  have SI := Lib.hid (implIs_any k _ n G w2 HR)
  have B2 := Lib.hid B2
  have XA := Lib.hid XA
  have XR := Lib.hid XR
  have HR := Lib.hid HR
  have LN := Lib.hid (nI_length (rowsK (spaceL R) 60))
  rw [hi] at SI
  clear hi
  go_enter Tryd.func36, Tryd.ntmps36
  go_wp2_with fail
  rw [← hw2]
  clear hw2
  refine SI.out.mono ?_
  rintro e w3 ⟨rfl, b3⟩
  have B3 := Lib.hid (B2.out.trans (b3.mono B2.out.size))
  have XA3 := Lib.hid (XA.out.up b3)
  have XR3 := Lib.hid (XR.out.up b3)
  have RN := Lib.hid (hN w3 _ (HR.out.below b3))
  have T3 := Lib.hid (hT.below B3.out)
  have RD := Lib.hid (fun q => spaceOf_any _ R (w3.drewN q) (RN.out.below (below_drewN (Below.refl _ _) q)) hR (by omega) (T3.out.drewN q))
  clear b3 B2 XR XA HR SI hN hR
  have NE : Hid (w.heap.size ≠ w.heap.size + 1) := Lib.hid (by omega)
  have KEEP : Hid (∀ wx, w3.grownBy wx (some (w.heap.size + 1)) → (wx.cell? ⟨w.heap.size, 0, none⟩ = some (.int .i64 k) ∧ wx.cell? ⟨w.heap.size, 1, none⟩ = some (.slice a n cap) ∧ w3.grownBy wx (some (w.heap.size + 1)))) :=
    Lib.hid (fun wx hb => ⟨(XA3.out.grownG hb NE.out).c0, (XA3.out.grownG hb NE.out).c1, hb⟩)
  go_wp2_with fail
  go_region_held3 (fun wx => wx.cell? ⟨w.heap.size, 0, none⟩ = some (.int .i64 k) ∧ wx.cell? ⟨w.heap.size, 1, none⟩ = some (.slice a n cap) ∧ w3.grownBy wx (some (w.heap.size + 1)))
    (first | exact KEEP.out _ (grown_of_below (Below.refl _ _).drew _) | exact KEEP.out _ (grown_of_below (by assumption) _) | exact KEEP.out _ (grown_set (grown_set (grown_of_below (by assumption) _))))
    (first | (go_at_call 87; refine (RD.out 1).mono ?_; rintro e w5 ⟨rfl, s5, b5⟩; have z5 := below_drew1 b5) | (go_at_call 88; refine (matrix_any _ _ _ _ s5).mono ?_; rintro e w4 ⟨u, rfl, o4, b4⟩; have z4 := z5.step b4; obtain ⟨ua, uc, rfl⟩ := o4.shape; have cR0 := (XR3.out.up z4).c0; have cR1 := (XR3.out.up z4).c1; have fR0 := (XR3.out.up z4).fr 0; have fR1 := (XR3.out.up z4).fr 1))
  have O4 : Hid (w4.ownsRow w.heap.size 2 1 (.slice ua (rowsK (spaceL R) 60).length uc) (rowsK (spaceL R) 60).length ((nI (rowsK (spaceL R) 60)).map (Value.int .i64))) := Lib.hid (own_base o4 (Nat.le_trans B3.out.size z5.size))
  have X4 := Lib.hid (XR3.out.up z4)
  have F1 := Lib.hid (own_stored (u1 := .int .i64 k) (u2 := .slice ua (rowsK (spaceL R) 60).length uc) X4.out O4.out)
  have F2 := Lib.hid ((X4.out.set0 (.int .i64 k)).set1 (.slice ua (rowsK (spaceL R) 60).length uc))
  have B4 := Lib.hid (B3.out.trans (z4.mono B3.out.size))
  have F3 := Lib.hid ((B4.out.setCell (p := ⟨w.heap.size + 1, 0, none⟩) (by simp) (.int .i64 k)).setCell (p := ⟨w.heap.size + 1, 1, none⟩) (by simp) (.slice ua (rowsK (spaceL R) 60).length uc))
  go_wp2_with fail
  refine bodyPost_ret (results_box_tmp rfl _ _ (w.heap.size + 1) _ _ _ rfl F2.out t2 (by kernel_rfl)) rfl ?_
  refine ⟨_, rfl, ?_, F3.out⟩
  rw [LN.out]
  exact F1.out


theorem ReducedForm_both (c : Int) (n : Nat) (G : Nat → Int) : ∃ (C : Int) (L : List Int) (cd : Int), L.length ≤ 200 ∧
    (∀ w s, RdI w s n G → Calls Tryd.prog 37 #[.agg #[.int .i64 c, s]] w (MRes C L cd w)) ∧
    (∀ w s, RdI w s n G → T0 w → Calls Tryd.prog 36 #[.agg #[.int .i64 c, s]] w (MRes C L cd w)) := by
  cases hi : isMat c n G with
  | false => exact ⟨0, [], 1, by simp, fun w s h => specRed_no c s n G w h hi, fun w s h _ => implRed_no c s n G w h hi⟩
  | true =>
    obtain ⟨k, R, rfl, hk, hn, hl, hR, _, hN⟩ := mat_rd hi
    refine ⟨k, nI (putAll [] R), 0, ?_, fun w s h => specRed_yes k s n G R w h hi hl hn hR hN, fun w s h hT => ?_⟩
    · rw [nI_length]
      have := (putAll_ok hR).2
      omega
    · have := implRed_yes k s n G R w h hi hl hn hR hN hT
      rw [spaceL_rows hR] at this
      exact this
end Go.Proofs.YtdojblmffmefgaaDoor
