/-
  KernelOf, both sides.
-/
import Derived.Test.YtdojblmffmefgaaDoorDKerOf
namespace Go.Proofs.YtdojblmffmefgaaDoor
open Go.RowKit
set_option linter.unusedVariables false
set_option maxRecDepth 100000

theorem getD_lt' {R : List Nat} (h : ∀ x ∈ R, x < 2 ^ 60) (j : Nat) (hj : j < R.length) : R.getD j 0 < 2 ^ 60 :=
  h _ (by rw [List.getD_eq_getElem?_getD, List.getElem?_eq_getElem hj]; exact List.getElem_mem hj)
theorem few_is {c : Int} {n : Nat} {G : Nat → Int} (h : fewCode c n G = 0) : isMat c n G = true ∧ n ≤ 60 := by
  unfold fewCode at h
  by_cases hi : isMat c n G = true
  · rw [if_pos hi] at h
    by_cases h6 : n ≤ 60
    · exact ⟨hi, h6⟩
    · rw [if_neg h6] at h; simp at h
  · rw [if_neg hi] at h; simp at h

set_option maxHeartbeats 1000000 in
theorem specKer_no (c : Int) (s : Value) (n : Nat) (G : Nat → Int) (w : World) (h : RdI w s n G) (hc : fewCode c n G ≠ 0) :
    Calls Tryd.prog 43 #[.agg #[.int .i64 c, s]] w (MRes 0 [] (fewCode c n G) w) := by
  have H := Lib.hid h
  obtain ⟨a, cap, rfl, hm, hc1⟩ := h
  clear hc1
  have t2 := Tryd.underlying26
  obtain ⟨w2, hw2, B2, XA, XR, HR⟩ := box_two (c := c) H.out
  have SI := Lib.hid (specFew_any c _ n G w2 HR)
  have B2 := Lib.hid B2
  have XR := Lib.hid XR
  clear XA HR
  have hcd : (fewCode c n G != 0) = true := by rw [bne_iff_ne]; exact hc
  clear hc
  generalize fewCode c n G = cd at *
  go_enter Tryd.func43, Tryd.ntmps43
  go_wp2_with fail
  rw [← hw2]
  clear hw2
  refine SI.out.mono ?_
  rintro e w3 ⟨rfl, b3⟩
  have B3 := Lib.hid (B2.out.trans (b3.mono B2.out.size))
  have XR3 := Lib.hid (XR.out.up b3)
  clear b3 B2 XR
  have cR0 := XR3.out.c0
  have cR1 := XR3.out.c1
  have fR0 := XR3.out.fr 0
  have fR1 := XR3.out.fr 1
  have X5 := Lib.hid ((XR3.out.set0 (.int .i64 0)).set1 (.slice none 0 0))
  have B5 := Lib.hid ((B3.out.setCell (p := ⟨w.heap.size + 1, 0, none⟩) (by simp) (.int .i64 0)).setCell (p := ⟨w.heap.size + 1, 1, none⟩) (by simp) (.slice none 0 0))
  go_wp2_with fail
  refine bodyPost_ret (results_box_tmp rfl _ _ (w.heap.size + 1) _ _ _ rfl X5.out t2 (by kernel_rfl)) rfl ?_
  exact ⟨_, rfl, World.ownsRow_nil _ _ _ _, B5.out⟩

set_option maxHeartbeats 1000000 in
theorem implKer_no (c : Int) (s : Value) (n : Nat) (G : Nat → Int) (w : World) (h : RdI w s n G) (hc : fewCode c n G ≠ 0) :
    Calls Tryd.prog 42 #[.agg #[.int .i64 c, s]] w (MRes 0 [] (fewCode c n G) w) := by
  have H := Lib.hid h
  obtain ⟨a, cap, rfl, hm, hc1⟩ := h
  clear hc1
  have t2 := Tryd.underlying26
  obtain ⟨w2, hw2, B2, XA, XR, HR⟩ := box_two (c := c) H.out
  have SI := Lib.hid (implFew_any c _ n G w2 HR)
  have B2 := Lib.hid B2
  have XR := Lib.hid XR
  clear XA HR
  have hcd : (fewCode c n G != 0) = true := by rw [bne_iff_ne]; exact hc
  clear hc
  generalize fewCode c n G = cd at *
  go_enter Tryd.func42, Tryd.ntmps42
  go_wp2_with fail
  rw [← hw2]
  clear hw2
  refine SI.out.mono ?_
  rintro e w3 ⟨rfl, b3⟩
  have B3 := Lib.hid (B2.out.trans (b3.mono B2.out.size))
  have XR3 := Lib.hid (XR.out.up b3)
  clear b3 B2 XR
  have cR0 := XR3.out.c0
  have cR1 := XR3.out.c1
  have fR0 := XR3.out.fr 0
  have fR1 := XR3.out.fr 1
  have X5 := Lib.hid ((XR3.out.set0 (.int .i64 0)).set1 (.slice none 0 0))
  have B5 := Lib.hid ((B3.out.setCell (p := ⟨w.heap.size + 1, 0, none⟩) (by simp) (.int .i64 0)).setCell (p := ⟨w.heap.size + 1, 1, none⟩) (by simp) (.slice none 0 0))
  go_wp2_with fail
  refine bodyPost_ret (results_box_tmp rfl _ _ (w.heap.size + 1) _ _ _ rfl X5.out t2 (by kernel_rfl)) rfl ?_
  exact ⟨_, rfl, World.ownsRow_nil _ _ _ _, B5.out⟩

set_option maxHeartbeats 2000000 in
theorem specKer_yes (k : Nat) (s : Value) (n : Nat) (G : Nat → Int) (R : List Nat) (w : World) (h : RdI w s n G) (hi : fewCode k n G = 0) (hn : R.length = n) (hn2 : n ≤ 60) (hR : ∀ x ∈ R, x < 2 ^ 60) (hN : ∀ (w : World) (s : Value), RdI w s n G → RdN w s R) :
    Calls Tryd.prog 43 #[.agg #[.int .i64 k, s]] w (MRes n (nI (putAll [] (kruns (fun i => R.getD i 0) R.length).O)) 0 w) := by
  have H := Lib.hid h
  obtain ⟨a, cap, rfl, hm, hc⟩ := h
  clear hc
  have t2 := Tryd.underlying26
  obtain ⟨w2, hw2, B2, XA, XR, HR⟩ := box_two (c := k) H.out
  have SI := Lib.hid (specFew_any k _ n G w2 HR)
  have B2 := Lib.hid B2
  have XA := Lib.hid XA
  have XR := Lib.hid XR
  have HR := Lib.hid HR
  rw [hi] at SI
  clear hi
  go_enter Tryd.func43, Tryd.ntmps43
  go_wp2_with fail
  rw [← hw2]
  clear hw2
  refine SI.out.mono ?_
  rintro e w3 ⟨rfl, b3⟩
  have B3 := Lib.hid (B2.out.trans (b3.mono B2.out.size))
  have XA3 := Lib.hid (XA.out.up b3)
  have XR3 := Lib.hid (XR.out.up b3)
  have RN := Lib.hid (hN w3 _ (HR.out.below b3))
  have RD := Lib.hid (fun q => l02Kernel_any _ R (w3.drewN q) (RN.out.below (below_drewN (Below.refl _ _) q)) hR (by omega))
  generalize hK : (kruns (fun i => R.getD i 0) R.length).O = K at *
  have HK := Lib.hid hK
  clear hK
  have LN := Lib.hid (nI_length (putAll [] K))
  clear b3 B2 XR XA HR SI hN hR
  have NE : Hid (w.heap.size ≠ w.heap.size + 1) := Lib.hid (by omega)
  have KEEP : Hid (∀ wx, w3.grownBy wx (some (w.heap.size + 1)) → (wx.cell? ⟨w.heap.size, 1, none⟩ = some (.slice a n cap) ∧ w3.grownBy wx (some (w.heap.size + 1)))) :=
    Lib.hid (fun wx hb => ⟨(XA3.out.grownG hb NE.out).c1, hb⟩)
  go_wp2_with fail
  go_region_held3 (fun wx => wx.cell? ⟨w.heap.size, 1, none⟩ = some (.slice a n cap) ∧ w3.grownBy wx (some (w.heap.size + 1)))
    (first | exact KEEP.out _ (grown_of_below (Below.refl _ _).drew _) | exact KEEP.out _ (grown_of_below (by assumption) _) | exact KEEP.out _ (grown_set (grown_set (grown_of_below (by assumption) _))))
    (first | (go_at_call 95; refine (RD.out 1).mono ?_; rintro e w4 ⟨u, rfl, o4, b4⟩; have z4 := below_drew1 b4; obtain ⟨ua, uc, rfl⟩ := o4.shape; have cR0 := (XR3.out.up z4).c0; have cR1 := (XR3.out.up z4).c1; have fR0 := (XR3.out.up z4).fr 0; have fR1 := (XR3.out.up z4).fr 1))
  have O4 : Hid (w4.ownsRow w.heap.size 2 1 (.slice ua (putAll [] K).length uc) (putAll [] K).length ((nI (putAll [] K)).map (Value.int .i64))) := Lib.hid (own_base o4 (by have := B3.out.size; simpa using this))
  have X4 := Lib.hid (XR3.out.up z4)
  have F1 := Lib.hid (own_stored (u1 := .int .i64 n) (u2 := .slice ua (putAll [] K).length uc) X4.out O4.out)
  have F2 := Lib.hid ((X4.out.set0 (.int .i64 n)).set1 (.slice ua (putAll [] K).length uc))
  have B4 := Lib.hid (B3.out.trans (z4.mono B3.out.size))
  have F3 := Lib.hid ((B4.out.setCell (p := ⟨w.heap.size + 1, 0, none⟩) (by simp) (.int .i64 n)).setCell (p := ⟨w.heap.size + 1, 1, none⟩) (by simp) (.slice ua (putAll [] K).length uc))
  go_wp2_with fail
  refine bodyPost_ret (results_box_tmp rfl _ _ (w.heap.size + 1) _ _ _ rfl F2.out t2 (by kernel_rfl)) rfl ?_
  refine ⟨_, rfl, ?_, F3.out⟩
  rw [HK.out, LN.out]
  exact F1.out

set_option maxHeartbeats 4000000 in
theorem implKer_yes (k : Nat) (s : Value) (n : Nat) (G : Nat → Int) (R : List Nat) (w : World) (h : RdI w s n G) (hi : fewCode k n G = 0) (hn : R.length = n) (hn2 : n ≤ 60) (hR : ∀ x ∈ R, x < 2 ^ 60) (hN : ∀ (w : World) (s : Value), RdI w s n G → RdN w s R) (hT : T0 w) :
    Calls Tryd.prog 42 #[.agg #[.int .i64 k, s]] w (MRes n (nI (rowsK (spaceL (ktr (fun i => R.getD i 0) R.length)) 60)) 0 w) := by
  have H := Lib.hid h
  obtain ⟨a, cap, rfl, hm, hc⟩ := h
  clear hc
  have t2 := Tryd.underlying26
  have t4 := Tryd.underlying94
  obtain ⟨w2, hw2, B2, XA, XR, HR⟩ := box_two (c := k) H.out
  have SI := Lib.hid (implFew_any k _ n G w2 HR)
  have B2 := Lib.hid B2
  have XA := Lib.hid XA
  have XR := Lib.hid XR
  have HR := Lib.hid HR
  have HT := Lib.hid hT
  have BB := both_runs (fun i => R.getD i 0) R.length (by omega) (fun i hi => getD_lt' hR i hi) R.length (Nat.le_refl _)
  have KB : Hid (∀ x ∈ ktr (fun i => R.getD i 0) R.length, x < 2 ^ 60) := Lib.hid (fun x hx => Nat.lt_of_lt_of_le (BB.out x hx).1 (Nat.pow_le_pow_right (by decide) (by omega)))
  have KT : Hid (ktr (fun i => R.getD i 0) R.length = tzs (lft (fun _ => (0, 0)) (fun i => (R.getD i 0, 2 ^ i))) R.length) := Lib.hid (ktr_tzs _ _).2
  have KL : Hid ((ktr (fun i => R.getD i 0) R.length).length ≤ 60) := Lib.hid (by rw [KT.out]; have := tzs_len (lft (fun _ => (0, 0)) (fun i => (R.getD i 0, 2 ^ i))) R.length; omega)
  clear BB
  generalize hK : ktr (fun i => R.getD i 0) R.length = K at *
  have HK := Lib.hid hK
  clear hK
  have LN := Lib.hid (nI_length (rowsK (spaceL K) 60))
  have HRR := Lib.hid hR
  rw [hi] at SI
  clear hi hT hR
  go_enter Tryd.func42, Tryd.ntmps42
  go_wp2_with fail
  rw [← hw2]
  clear hw2
  refine SI.out.mono ?_
  rintro e w3 ⟨rfl, b3⟩
  have B3 := Lib.hid (B2.out.trans (b3.mono B2.out.size))
  have XA3 := Lib.hid (XA.out.up b3)
  have XR3 := Lib.hid (XR.out.up b3)
  have RN3 := Lib.hid (hN w3 _ (HR.out.below b3))
  clear b3 B2 XR XA HR SI hN
  have b4 : Below w3.heap.size w3 (w3.alloc (.cells Tryd.zeroCells94 94)) := (Below.refl _ _).alloc (Nat.le_refl _) _
  have S4 := Lib.hid (Sp.zeros w3)
  have B4 := Lib.hid (B3.out.trans (b4.mono B3.out.size))
  have XA4 := Lib.hid (XA3.out.up b4)
  have XR4 := Lib.hid (XR3.out.up b4)
  have RN4 := Lib.hid (RN3.out.below b4)
  have LA := Lib.hid XA3.out.lt
  have LR := Lib.hid XR3.out.lt
  have LG := Lib.hid B3.out.size
  clear b4 B3 XA3 XR3 RN3
  have a0 := XA4.out.c0
  have a1 := XA4.out.c1
  go_wp2_with fail
  generalize (w3.alloc (.cells Tryd.zeroCells94 94)) = w4 at *
  generalize w3.heap.size = g at *
  clear a0 a1
  refine (numberedRows_any _ R w4 RN4.out (by omega)).mono ?_
  rintro e w5 ⟨u5, rfl, o5, b5⟩
  have B5 := Lib.hid (B4.out.trans (b5.mono B4.out.size))
  have XA5 := Lib.hid (XA4.out.up b5)
  have XR5 := Lib.hid (XR4.out.up b5)
  have S5 := Lib.hid (S4.out.up b5)
  have O5 := Lib.hid (rdt_of_own o5)
  have T5 := Lib.hid (HT.out.below B5.out)
  have HP := Lib.hid HT.out.pos
  clear o5 b5 B4 XA4 XR4 S4 RN4
  go_wp2_with fail
  refine (reduceAdd_any g _ u5 R.length _ w5 O5.out S5.out piv_zero (fun i hi => ⟨getD_lt' HRR.out i hi, pow_lt60 (by omega)⟩) (by omega) T5.out (by have := HP.out; have := LG.out; omega)).mono ?_
  rintro e w6 ⟨u6, rfl, o6, s6, k6⟩
  have B6 := Lib.hid (B5.out.grown k6 B5.out.size (fun q hq => by cases hq; exact LG.out))
  have XA6 := Lib.hid (XA5.out.grownG k6 (by have := LA.out; omega))
  have XR6 := Lib.hid (XR5.out.grownG k6 (by have := LR.out; omega))
  have RT := Lib.hid (rdt_of_own o6)
  have T6 := Lib.hid (HT.out.below B6.out)
  clear o6 s6 k6 B5 XA5 XR5 S5 O5 T5
  have z : Below w6.heap.size w6 w6.drew := (Below.refl _ _).drew
  have NE : Hid (w.heap.size ≠ w.heap.size + 1) := Lib.hid (by omega)
  have KEEP : Hid (∀ wx, w6.grownBy wx (some (w.heap.size + 1)) → (wx.cell? ⟨w.heap.size, 0, none⟩ = some (.int .i64 k) ∧ wx.cell? ⟨w.heap.size, 1, none⟩ = some (.slice a n cap) ∧ w6.grownBy wx (some (w.heap.size + 1)))) :=
    Lib.hid (fun wx hb => ⟨(XA6.out.grownG hb NE.out).c0, (XA6.out.grownG hb NE.out).c1, hb⟩)
  go_wp2_with fail
  go_region_held3 (fun wx => wx.cell? ⟨w.heap.size, 0, none⟩ = some (.int .i64 k) ∧ wx.cell? ⟨w.heap.size, 1, none⟩ = some (.slice a n cap) ∧ w6.grownBy wx (some (w.heap.size + 1)))
    (first | exact KEEP.out _ (grown_of_below (Below.refl _ _).drew _) | exact KEEP.out _ (grown_of_below (by assumption) _) | exact KEEP.out _ (grown_set (grown_set (grown_of_below (by assumption) _))))
    (first | (go_at_call 94; refine (tracesOfZeros_any _ R.length _ _ (RT.out.up z) (by omega)).mono ?_; rintro e w7 ⟨ut, rfl, ot, bt⟩; rw [← KT.out] at ot; have z := z.step bt; have rt := rdn_of_own ot; have y := Below.refl w7.heap.size w7) | (go_at_call 87; refine (spaceOf_any _ K _ (rt.below y) KB.out (by have := KL.out; omega) (T6.out.below z)).mono ?_; rintro e w8 ⟨rfl, s8, b8⟩; have z := z.step b8; have x := Below.refl w8.heap.size w8) | (go_at_call 79; refine (rowCount_any _ _ _ _ _).mono ?_; rintro e w9 ⟨rfl, b9⟩; have z := z.step b9; (try have y := y.step b9); (try have x := x.step b9)) | (go_at_call 88; refine (matrix_any _ _ _ _ (s8.up x)).mono ?_; rintro e w10 ⟨u, rfl, o10, b10⟩; have HB := Lib.hid (Nat.le_trans B6.out.size z.size); have z := z.step b10; obtain ⟨ua, uc, rfl⟩ := o10.shape; have cR0 := (XR6.out.up z).c0; have cR1 := (XR6.out.up z).c1; have fR0 := (XR6.out.up z).fr 0; have fR1 := (XR6.out.up z).fr 1))
  have O4 : Hid (w10.ownsRow w.heap.size 2 1 (.slice ua (rowsK (spaceL K) 60).length uc) (rowsK (spaceL K) 60).length ((nI (rowsK (spaceL K) 60)).map (Value.int .i64))) := Lib.hid (own_base o10 HB.out)
  have X4 := Lib.hid (XR6.out.up z)
  have F1 := Lib.hid (own_stored (u1 := .int .i64 n) (u2 := .slice ua (rowsK (spaceL K) 60).length uc) X4.out O4.out)
  have F2 := Lib.hid ((X4.out.set0 (.int .i64 n)).set1 (.slice ua (rowsK (spaceL K) 60).length uc))
  have B7 := Lib.hid (B6.out.trans (z.mono B6.out.size))
  have F3 := Lib.hid ((B7.out.setCell (p := ⟨w.heap.size + 1, 0, none⟩) (by simp) (.int .i64 n)).setCell (p := ⟨w.heap.size + 1, 1, none⟩) (by simp) (.slice ua (rowsK (spaceL K) 60).length uc))
  go_wp2_with fail
  refine bodyPost_ret (results_box_tmp rfl _ _ (w.heap.size + 1) _ _ _ rfl F2.out t2 (by kernel_rfl)) rfl ?_
  refine ⟨_, rfl, ?_, F3.out⟩
  rw [LN.out]
  exact F1.out

theorem KernelOf_both (c : Int) (n : Nat) (G : Nat → Int) : ∃ (C : Int) (L : List Int) (cd : Int), L.length ≤ 200 ∧
    (∀ w s, RdI w s n G → Calls Tryd.prog 43 #[.agg #[.int .i64 c, s]] w (MRes C L cd w)) ∧
    (∀ w s, RdI w s n G → T0 w → Calls Tryd.prog 42 #[.agg #[.int .i64 c, s]] w (MRes C L cd w)) := by
  by_cases hc : fewCode c n G = 0
  · obtain ⟨hi, hn6⟩ := few_is hc
    obtain ⟨k, R, rfl, hk, hn, hl, hR, _, hN⟩ := mat_rd hi
    have BB := both_runs (fun i => R.getD i 0) R.length (by omega) (fun i hi => getD_lt' hR i hi) R.length (Nat.le_refl _)
    have KB : ∀ x ∈ ktr (fun i => R.getD i 0) R.length, x < 2 ^ 60 := fun x hx => Nat.lt_of_lt_of_le (BB.out x hx).1 (Nat.pow_le_pow_right (by decide) (by omega))
    refine ⟨n, nI (putAll [] (kruns (fun i => R.getD i 0) R.length).O), 0, ?_, fun w s h => specKer_yes k s n G R w h hc hl hn6 hR hN, fun w s h hT => ?_⟩
    · rw [nI_length, BB.same]
      have := (putAll_ok KB).2
      omega
    · have := implKer_yes k s n G R w h hc hl hn6 hR hN hT
      rw [spaceL_rows KB] at this
      rw [BB.same]
      exact this
  · exact ⟨0, [], _, by simp, fun w s h => specKer_no c s n G w h hc, fun w s h _ => implKer_no c s n G w h hc⟩
end Go.Proofs.YtdojblmffmefgaaDoor
