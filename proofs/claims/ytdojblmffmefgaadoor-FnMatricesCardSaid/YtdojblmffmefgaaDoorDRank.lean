/-
  Contracts of RankOf and HasMask, both sides.
-/
import Derived.Test.YtdojblmffmefgaaDoorDRed
namespace Go.Proofs.YtdojblmffmefgaaDoor
open Go.RowKit
set_option linter.unusedVariables false
set_option maxRecDepth 100000

/-- The argument in its box. -/
theorem box_one {c : Int} {a : Option Addr} {n cap : Nat} {G : Nat → Int} {w : World} (h : RdI w (.slice a n cap) n G) : ∃ w1, w1 = w.alloc (.cells #[.int .i64 c, .slice a n cap] 26) ∧
    Below w.heap.size w w1 ∧ Box w1 w.heap.size 26 (.int .i64 c) (.slice a n cap) ∧ RdI w1 (.slice a n cap) n G := by
  have B : Below w.heap.size w (w.alloc (.cells #[.int .i64 c, .slice a n cap] 26)) := (Below.refl w.heap.size w).alloc (Nat.le_refl _) _
  exact ⟨_, rfl, B, Box.new w _ _ _, h.below B⟩

theorem specRank_no (c : Int) (s : Value) (n : Nat) (G : Nat → Int) (w : World) (h : RdI w s n G) (hi : isMat c n G = false) :
    Calls Tryd.prog 41 #[.agg #[.int .i64 c, s]] w (VRes (.int .i64 0) 1 w) := by
  have H := Lib.hid h
  obtain ⟨a, cap, rfl, hm, hc⟩ := h
  clear hc
  have t2 := Tryd.underlying26
  obtain ⟨w1, hw1, B1, XA, HR⟩ := box_one (c := c) H.out
  have SI := Lib.hid (specIs_any c _ n G w1 HR)
  have B1 := Lib.hid B1
  rw [hi] at SI
  clear hi XA HR
  go_enter Tryd.func41, Tryd.ntmps41
  go_wp2_with fail
  rw [← hw1]
  clear hw1
  refine SI.out.mono ?_
  rintro e w3 ⟨rfl, b3⟩
  have B3 := Lib.hid (B1.out.trans (b3.mono B1.out.size))
  go_wp2_with fail
  go_ret2
  exact ⟨rfl, B3.out⟩

theorem implRank_no (c : Int) (s : Value) (n : Nat) (G : Nat → Int) (w : World) (h : RdI w s n G) (hi : isMat c n G = false) :
    Calls Tryd.prog 40 #[.agg #[.int .i64 c, s]] w (VRes (.int .i64 0) 1 w) := by
  have H := Lib.hid h
  obtain ⟨a, cap, rfl, hm, hc⟩ := h
  clear hc
  have t2 := Tryd.underlying26
  obtain ⟨w1, hw1, B1, XA, HR⟩ := box_one (c := c) H.out
  have SI := Lib.hid (implIs_any c _ n G w1 HR)
  have B1 := Lib.hid B1
  rw [hi] at SI
  clear hi XA HR
  go_enter Tryd.func40, Tryd.ntmps40
  go_wp2_with fail
  rw [← hw1]
  clear hw1
  refine SI.out.mono ?_
  rintro e w3 ⟨rfl, b3⟩
  have B3 := Lib.hid (B1.out.trans (b3.mono B1.out.size))
  go_wp2_with fail
  go_ret2
  exact ⟨rfl, B3.out⟩

theorem specRank_yes (k : Nat) (s : Value) (n : Nat) (G : Nat → Int) (R : List Nat) (w : World) (h : RdI w s n G) (hi : isMat k n G = true) (hn : R.length = n) (hn2 : n ≤ 200) (hR : ∀ x ∈ R, x < 2 ^ 60) (hN : ∀ (w : World) (s : Value), RdI w s n G → RdN w s R) :
    Calls Tryd.prog 41 #[.agg #[.int .i64 k, s]] w (VRes (.int .i64 (((putAll [] R).length : Nat) : Int)) 0 w) := by
  have H := Lib.hid h
  obtain ⟨a, cap, rfl, hm, hc⟩ := h
  clear hc
  have t2 := Tryd.underlying26
  obtain ⟨w1, hw1, B1, XA, HR⟩ := box_one (c := k) H.out
  have SI := Lib.hid (specIs_any k _ n G w1 HR)
  have B1 := Lib.hid B1
  have XA := Lib.hid XA
  have HR := Lib.hid HR
  have HRR := Lib.hid hR
  have HN := Lib.hid hN
  have L60 := (putAll_ok hR).2
  rw [hi] at SI
  clear hi hR hN
  go_enter Tryd.func41, Tryd.ntmps41
  go_wp2_with fail
  rw [← hw1]
  clear hw1
  refine SI.out.mono ?_
  rintro e w3 ⟨rfl, b3⟩
  have B3 := Lib.hid (B1.out.trans (b3.mono B1.out.size))
  have XA3 := Lib.hid (XA.out.up b3)
  have RN := Lib.hid (HN.out w3 _ (HR.out.below b3))
  clear b3 B1 XA HR SI HN
  have cA0 := XA3.out.c0
  have cA1 := XA3.out.c1
  go_wp2_with fail
  refine (l02Reduce_any _ R w3 RN.out HRR.out (by omega)).mono ?_
  rintro e w4 ⟨u, rfl, o4, b4⟩
  obtain ⟨ua, uc, rfl⟩ := o4.shape
  have B4 := Lib.hid (B3.out.trans (b4.mono B3.out.size))
  clear o4 b4 cA0 cA1
  generalize (putAll [] R).length = q at *
  go_wp2_with fail
  go_ret2
  exact ⟨rfl, B4.out⟩

theorem implRank_yes (k : Nat) (s : Value) (n : Nat) (G : Nat → Int) (R : List Nat) (w : World) (h : RdI w s n G) (hi : isMat k n G = true) (hn : R.length = n) (hn2 : n ≤ 200) (hR : ∀ x ∈ R, x < 2 ^ 60) (hN : ∀ (w : World) (s : Value), RdI w s n G → RdN w s R) (hT : T0 w) :
    Calls Tryd.prog 40 #[.agg #[.int .i64 k, s]] w (VRes (.int .i64 (((putAll [] R).length : Nat) : Int)) 0 w) := by
  have H := Lib.hid h
  obtain ⟨a, cap, rfl, hm, hc⟩ := h
  clear hc
  have t2 := Tryd.underlying26
  obtain ⟨w1, hw1, B1, XA, HR⟩ := box_one (c := k) H.out
  have SI := Lib.hid (implIs_any k _ n G w1 HR)
  have B1 := Lib.hid B1
  have XA := Lib.hid XA
  have HR := Lib.hid HR
  have EQ : Hid (rowsK (spaceL R) 60 = putAll [] R) := Lib.hid (spaceL_rows hR)
  rw [hi] at SI
  clear hi
  go_enter Tryd.func40, Tryd.ntmps40
  go_wp2_with fail
  rw [← hw1]
  clear hw1
  refine SI.out.mono ?_
  rintro e w3 ⟨rfl, b3⟩
  have B3 := Lib.hid (B1.out.trans (b3.mono B1.out.size))
  have XA3 := Lib.hid (XA.out.up b3)
  have RN := Lib.hid (hN w3 _ (HR.out.below b3))
  have T3 := Lib.hid (hT.below B3.out)
  have RD := Lib.hid (fun q => spaceOf_any _ R (w3.drewN q) (RN.out.below (below_drewN (Below.refl _ _) q)) hR (by omega) (T3.out.drewN q))
  clear b3 B1 XA HR SI hN hR hT
  have KEEP : Hid (∀ wx, Below w3.heap.size w3 wx → (wx.cell? ⟨w.heap.size, 0, none⟩ = some (.int .i64 k) ∧ wx.cell? ⟨w.heap.size, 1, none⟩ = some (.slice a n cap) ∧ Below w3.heap.size w3 wx)) :=
    Lib.hid (fun wx hb => ⟨(XA3.out.up hb).c0, (XA3.out.up hb).c1, hb⟩)
  go_wp2_with fail
  go_region_held3 (fun wx => wx.cell? ⟨w.heap.size, 0, none⟩ = some (.int .i64 k) ∧ wx.cell? ⟨w.heap.size, 1, none⟩ = some (.slice a n cap) ∧ Below w3.heap.size w3 wx)
    (first | exact KEEP.out _ (Below.refl _ _).drew | exact KEEP.out _ (by assumption))
    (first | (go_at_call 87; refine (RD.out 1).mono ?_; rintro e w5 ⟨rfl, s5, b5⟩; have z5 := below_drew1 b5) | (go_at_call 88; refine (matrix_any _ _ _ _ s5).mono ?_; rintro e w6 ⟨u, rfl, o6, b6⟩; have z6 := z5.step b6; obtain ⟨ua, uc, rfl⟩ := o6.shape) | (go_at_call 79; refine (rowCount_any _ _ _ _ _).mono ?_; rintro e w7 ⟨rfl, b7⟩; have z7 := z6.step b7))
  have B7 := Lib.hid (B3.out.trans (z7.mono B3.out.size))
  go_wp2_with fail
  go_ret2
  exact ⟨by rw [EQ.out]; rfl, B7.out⟩

theorem RankOf_both (c : Int) (n : Nat) (G : Nat → Int) : ∃ (v : Int) (cd : Int),
    (∀ w s, RdI w s n G → Calls Tryd.prog 41 #[.agg #[.int .i64 c, s]] w (VRes (.int .i64 v) cd w)) ∧
    (∀ w s, RdI w s n G → T0 w → Calls Tryd.prog 40 #[.agg #[.int .i64 c, s]] w (VRes (.int .i64 v) cd w)) := by
  cases hi : isMat c n G with
  | false => exact ⟨0, 1, fun w s h => specRank_no c s n G w h hi, fun w s h _ => implRank_no c s n G w h hi⟩
  | true =>
    obtain ⟨k, R, rfl, hk, hn, hl, hR, _, hN⟩ := mat_rd hi
    exact ⟨_, 0, fun w s h => specRank_yes k s n G R w h hi hl hn hR hN, fun w s h hT => implRank_yes k s n G R w h hi hl hn hR hN hT⟩
end Go.Proofs.YtdojblmffmefgaaDoor
