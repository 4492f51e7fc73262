/-
  MeetOfSpaces, both sides.
-/
import Derived.Test.YtdojblmffmefgaaDoorDMeet
import Derived.Test.YtdojblmffmefgaaDoorDKerB
namespace Go.Proofs.YtdojblmffmefgaaDoor
open Go.RowKit
set_option linter.unusedVariables false
set_option maxRecDepth 100000

set_option maxHeartbeats 1000000 in
theorem specMeet_no (ca cb : Int) (sa sb : Value) (na nb : Nat) (Ga Gb : Nat → Int) (w : World) (ha : RdI w sa na Ga) (hb : RdI w sb nb Gb) (hc : smCode ca na Ga cb nb Gb ≠ 0) :
    Calls Tryd.prog 55 #[.agg #[.int .i64 ca, sa], .agg #[.int .i64 cb, sb]] w (MRes 0 [] (smCode ca na Ga cb nb Gb) w) := by
  obtain ⟨w3, hw3, B3, XA, XB, XR, RA, RB⟩ := three_boxes (ca := ca) (cb := cb) ha hb
  have BO := Lib.hid (specBoth_any ca cb sa sb na nb Ga Gb w3 RA RB)
  have B3 := Lib.hid B3
  have XR := Lib.hid XR
  clear XA XB RA RB
  obtain ⟨aa, qa, rfl, hma, hc1⟩ := ha
  obtain ⟨ab, qb, rfl, hmb, hc2⟩ := hb
  clear hc1 hc2
  have hcd : (smCode ca na Ga cb nb Gb != 0) = true := by rw [bne_iff_ne]; exact hc
  clear hc
  generalize smCode ca na Ga cb nb Gb = cd at *
  have t2 := Tryd.underlying26
  go_enter Tryd.func55, Tryd.ntmps55
  go_wp2_with fail
  rw [← hw3]
  clear hw3
  refine BO.out.mono ?_
  rintro e w4 ⟨rfl, b4⟩
  have B4 := Lib.hid (B3.out.trans (b4.mono B3.out.size))
  have XR4 := Lib.hid (XR.out.up b4)
  clear b4 B3 XR
  have cR0 := XR4.out.c0
  have cR1 := XR4.out.c1
  have fR0 := XR4.out.fr 0
  have fR1 := XR4.out.fr 1
  have X5 := Lib.hid ((XR4.out.set0 (.int .i64 0)).set1 (.slice none 0 0))
  have B5 := Lib.hid ((B4.out.setCell (p := ⟨w.heap.size + 1 + 1, 0, none⟩) (by simp; omega) (.int .i64 0)).setCell (p := ⟨w.heap.size + 1 + 1, 1, none⟩) (by simp; omega) (.slice none 0 0))
  go_wp2_with fail
  refine bodyPost_ret (results_box_tmp rfl _ _ (w.heap.size + 1 + 1) _ _ _ rfl X5.out t2 (by kernel_rfl)) rfl ?_
  exact ⟨_, rfl, World.ownsRow_nil _ _ _ _, B5.out⟩

set_option maxHeartbeats 1000000 in
theorem implMeet_no (ca cb : Int) (sa sb : Value) (na nb : Nat) (Ga Gb : Nat → Int) (w : World) (ha : RdI w sa na Ga) (hb : RdI w sb nb Gb) (hc : smCode ca na Ga cb nb Gb ≠ 0) :
    Calls Tryd.prog 54 #[.agg #[.int .i64 ca, sa], .agg #[.int .i64 cb, sb]] w (MRes 0 [] (smCode ca na Ga cb nb Gb) w) := by
  obtain ⟨w3, hw3, B3, XA, XB, XR, RA, RB⟩ := three_boxes (ca := ca) (cb := cb) ha hb
  have BO := Lib.hid (implSame_any ca cb sa sb na nb Ga Gb w3 RA RB)
  have B3 := Lib.hid B3
  have XR := Lib.hid XR
  clear XA XB RA RB
  obtain ⟨aa, qa, rfl, hma, hc1⟩ := ha
  obtain ⟨ab, qb, rfl, hmb, hc2⟩ := hb
  clear hc1 hc2
  have hcd : (smCode ca na Ga cb nb Gb != 0) = true := by rw [bne_iff_ne]; exact hc
  clear hc
  generalize smCode ca na Ga cb nb Gb = cd at *
  have t2 := Tryd.underlying26
  go_enter Tryd.func54, Tryd.ntmps54
  go_wp2_with fail
  rw [← hw3]
  clear hw3
  refine BO.out.mono ?_
  rintro e w4 ⟨rfl, b4⟩
  have B4 := Lib.hid (B3.out.trans (b4.mono B3.out.size))
  have XR4 := Lib.hid (XR.out.up b4)
  clear b4 B3 XR
  have cR0 := XR4.out.c0
  have cR1 := XR4.out.c1
  have fR0 := XR4.out.fr 0
  have fR1 := XR4.out.fr 1
  have X5 := Lib.hid ((XR4.out.set0 (.int .i64 0)).set1 (.slice none 0 0))
  have B5 := Lib.hid ((B4.out.setCell (p := ⟨w.heap.size + 1 + 1, 0, none⟩) (by simp; omega) (.int .i64 0)).setCell (p := ⟨w.heap.size + 1 + 1, 1, none⟩) (by simp; omega) (.slice none 0 0))
  go_wp2_with fail
  refine bodyPost_ret (results_box_tmp rfl _ _ (w.heap.size + 1 + 1) _ _ _ rfl X5.out t2 (by kernel_rfl)) rfl ?_
  exact ⟨_, rfl, World.ownsRow_nil _ _ _ _, B5.out⟩

set_option maxHeartbeats 4000000 in
theorem specMeet_yes (k : Nat) (sa sb : Value) (na nb : Nat) (Ga Gb : Nat → Int) (A B : List Nat) (w : World) (ha : RdI w sa na Ga) (hb : RdI w sb nb Gb) (hc : smCode k na Ga k nb Gb = 0)
    (hla : A.length = na) (hna : na ≤ 200) (hA : ∀ x ∈ A, x < 2 ^ 60) (hNA : ∀ (w : World) (s : Value), RdI w s na Ga → RdN w s A) (hlb : B.length = nb) (hnb : nb ≤ 200) (hB : ∀ x ∈ B, x < 2 ^ 60) (hNB : ∀ (w : World) (s : Value), RdI w s nb Gb → RdN w s B) :
    Calls Tryd.prog 55 #[.agg #[.int .i64 k, sa], .agg #[.int .i64 k, sb]] w (MRes k (nI (putAll [] (mspec A B))) 0 w) := by
  obtain ⟨w3, hw3, B3, XA, XB, XR, RA, RB⟩ := three_boxes (ca := k) (cb := k) ha hb
  have BO := Lib.hid (specBoth_any k k sa sb na nb Ga Gb w3 RA RB)
  have B3 := Lib.hid B3
  have XA := Lib.hid XA
  have XB := Lib.hid XB
  have XR := Lib.hid XR
  have RA := Lib.hid (hNA _ _ RA)
  have RB := Lib.hid (hNB _ _ RB)
  have HB := Lib.hid hB
  have HA := Lib.hid hA
  obtain ⟨aa, qa, rfl, hma, hc1⟩ := ha
  obtain ⟨ab, qb, rfl, hmb, hc2⟩ := hb
  rw [hc] at BO
  clear hc1 hc2 hc hNA hNB hA hB
  have t2 := Tryd.underlying26
  go_enter Tryd.func55, Tryd.ntmps55
  go_wp2_with fail
  rw [← hw3]
  clear hw3
  refine BO.out.mono ?_
  rintro e w4 ⟨rfl, b4⟩
  have B4 := Lib.hid (B3.out.trans (b4.mono B3.out.size))
  have XA4 := Lib.hid (XA.out.up b4)
  have XB4 := Lib.hid (XB.out.up b4)
  have XR4 := Lib.hid (XR.out.up b4)
  have RA4 := Lib.hid (RA.out.below b4)
  have RB4 := Lib.hid (RB.out.below b4)
  clear b4 B3 XA XB XR RA RB BO
  have RD := Lib.hid (fun q => l02Meet_any _ _ A B (w4.drewN q) (RA4.out.below (below_drewN (Below.refl _ _) q)) (RB4.out.below (below_drewN (Below.refl _ _) q)) HA.out HB.out (by omega) (by omega))
  generalize hK : mspec A B = K at *
  have HK := Lib.hid hK
  clear hK
  have LN := Lib.hid (nI_length (putAll [] K))
  have NE : Hid (w.heap.size ≠ w.heap.size + 1 + 1 ∧ w.heap.size + 1 ≠ w.heap.size + 1 + 1) := Lib.hid (by omega)
  have KEEP : Hid (∀ wx, w4.grownBy wx (some (w.heap.size + 1 + 1)) → (wx.cell? ⟨w.heap.size, 0, none⟩ = some (.int .i64 k) ∧ wx.cell? ⟨w.heap.size, 1, none⟩ = some (.slice aa na qa) ∧ wx.cell? ⟨w.heap.size + 1, 1, none⟩ = some (.slice ab nb qb) ∧ w4.grownBy wx (some (w.heap.size + 1 + 1)))) :=
    Lib.hid (fun wx hb => ⟨(XA4.out.grownG hb NE.out.1).c0, (XA4.out.grownG hb NE.out.1).c1, (XB4.out.grownG hb NE.out.2).c1, hb⟩)
  go_wp2_with fail
  go_region_held3 (fun wx => wx.cell? ⟨w.heap.size, 0, none⟩ = some (.int .i64 k) ∧ wx.cell? ⟨w.heap.size, 1, none⟩ = some (.slice aa na qa) ∧ wx.cell? ⟨w.heap.size + 1, 1, none⟩ = some (.slice ab nb qb) ∧ w4.grownBy wx (some (w.heap.size + 1 + 1)))
    (first | exact KEEP.out _ (grown_of_below (Below.refl _ _).drew _) | exact KEEP.out _ (grown_of_below (by assumption) _) | exact KEEP.out _ (grown_set (grown_set (grown_of_below (by assumption) _))))
    (first | (go_at_call 108; refine (RD.out 1).mono ?_; rintro e w5 ⟨u, rfl, o5, b5⟩; have z5 := below_drew1 b5; obtain ⟨ua, uc, rfl⟩ := o5.shape; have cR0 := (XR4.out.up z5).c0; have cR1 := (XR4.out.up z5).c1; have fR0 := (XR4.out.up z5).fr 0; have fR1 := (XR4.out.up z5).fr 1))
  have O5 : Hid (w5.ownsRow w.heap.size 2 1 (.slice ua (putAll [] K).length uc) (putAll [] K).length ((nI (putAll [] K)).map (Value.int .i64))) := Lib.hid (own_base o5 (by have := B4.out.size; simpa using this))
  have X5 := Lib.hid (XR4.out.up z5)
  have F1 := Lib.hid (own_stored (u1 := .int .i64 k) (u2 := .slice ua (putAll [] K).length uc) X5.out O5.out)
  have F2 := Lib.hid ((X5.out.set0 (.int .i64 k)).set1 (.slice ua (putAll [] K).length uc))
  have B5 := Lib.hid (B4.out.trans (z5.mono B4.out.size))
  have F3 := Lib.hid ((B5.out.setCell (p := ⟨w.heap.size + 1 + 1, 0, none⟩) (by simp; omega) (.int .i64 k)).setCell (p := ⟨w.heap.size + 1 + 1, 1, none⟩) (by simp; omega) (.slice ua (putAll [] K).length uc))
  go_wp2_with fail
  refine bodyPost_ret (results_box_tmp rfl _ _ (w.heap.size + 1 + 1) _ _ _ rfl F2.out t2 (by kernel_rfl)) rfl ?_
  refine ⟨_, rfl, ?_, F3.out⟩
  rw [LN.out]
  exact F1.out

theorem RdN.keepG {w w' : World} {a : Option Addr} {n cap g : Nat} {L : List Nat} (h : RdN w (.slice a n cap) L) (hl : ∀ x, a = some x → n ≠ 0 → x.block ≠ g) (hs : ∀ x, a = some x → n ≠ 0 → x.block < w.heap.size) (k : w.grownBy w' (some g)) : RdN w' (.slice a n cap) L := by
  unfold RdN at h ⊢
  obtain ⟨a', cap', e, hm, hc⟩ := h
  have e1 : a = a' := by injection e
  have e2 : n = L.length := by injection e
  have e3 : cap = cap' := by injection e
  subst e1 e3
  refine ⟨_, _, e, hm, ?_⟩
  rcases hc with h0 | ⟨b, off, rfl, hc⟩
  · exact .inl h0
  · by_cases hn0 : n = 0
    · exact .inl (by omega)
    · refine .inr ⟨b, off, rfl, fun i hi => ?_⟩
      have hc' := hc i hi
      have hblk : w'.heap[b]? = w.heap[b]? := k.block b (hs _ rfl hn0) (fun e => hl _ rfl hn0 (by simpa using e))
      unfold World.cell? at hc' ⊢
      rw [hblk]; exact hc'

theorem mimpl_len (A B : List Nat) : (mimpl A B).length ≤ B.length := tzs_len _ _

set_option maxHeartbeats 4000000 in
theorem implMeet_yes (k : Nat) (sa sb : Value) (na nb : Nat) (Ga Gb : Nat → Int) (A B : List Nat) (w : World) (ha : RdI w sa na Ga) (hb : RdI w sb nb Gb) (hc : smCode k na Ga k nb Gb = 0)
    (hla : A.length = na) (hna : na ≤ 200) (hA : ∀ x ∈ A, x < 2 ^ 60) (hNA : ∀ (w : World) (s : Value), RdI w s na Ga → RdN w s A) (hlb : B.length = nb) (hnb : nb ≤ 200) (hB : ∀ x ∈ B, x < 2 ^ 60) (hNB : ∀ (w : World) (s : Value), RdI w s nb Gb → RdN w s B) (hT : T0 w) :
    Calls Tryd.prog 54 #[.agg #[.int .i64 k, sa], .agg #[.int .i64 k, sb]] w (MRes k (nI (rowsK (spaceL (mimpl A B)) 60)) 0 w) := by
  obtain ⟨w3, hw3, B3, XA, XB, XR, RA, RB⟩ := three_boxes (ca := k) (cb := k) ha hb
  have BO := Lib.hid (implSame_any k k sa sb na nb Ga Gb w3 RA RB)
  have B3 := Lib.hid B3
  have XA := Lib.hid XA
  have XB := Lib.hid XB
  have XR := Lib.hid XR
  have RA := Lib.hid (hNA _ _ RA)
  have RB := Lib.hid (hNB _ _ RB)
  have HB := Lib.hid hB
  have HA := Lib.hid hA
  have HT := Lib.hid hT
  have bA : Hid (∀ j, j < A.length → ((fun i => ((A.getD i 0, A.getD i 0) : TR)) j).1 < 2 ^ 60 ∧ ((fun i => ((A.getD i 0, A.getD i 0) : TR)) j).2 < 2 ^ 60) := Lib.hid (fun j hj => ⟨getD_lt hA j hj, getD_lt hA j hj⟩)
  have pA := Lib.hid (addN_piv piv_zero A.length bA.out A.length (Nat.le_refl _))
  have KB := Lib.hid (mimpl_ok hA hB).1
  have KT : Hid (mimpl A B = tzs (lft (addN (fun _ => (0, 0)) (fun i => (A.getD i 0, A.getD i 0)) A.length) (fun i => (B.getD i 0, 0))) B.length) := Lib.hid rfl
  have KL := Lib.hid (mimpl_len A B)
  obtain ⟨aa, qa, rfl, hma, hc1⟩ := ha
  obtain ⟨ab, qb, rfl, hmb, hc2⟩ := hb
  have LOWB : Hid (∀ x, ab = some x → nb ≠ 0 → x.block < w.heap.size) := Lib.hid (RdI.low (G := Gb) (w := w) (cap := qb) ⟨_, _, rfl, hmb, hc2⟩)
  generalize hK : mimpl A B = K at *
  have HK := Lib.hid hK
  clear hK
  have LN := Lib.hid (nI_length (rowsK (spaceL K) 60))
  rw [hc] at BO
  clear hc1 hc2 hc hNA hNB hA hB hT
  have t2 := Tryd.underlying26
  have t4 := Tryd.underlying94
  go_enter Tryd.func54, Tryd.ntmps54
  go_wp2_with fail
  rw [← hw3]
  clear hw3
  refine BO.out.mono ?_
  rintro e w4 ⟨rfl, b4⟩
  have B4 := Lib.hid (B3.out.trans (b4.mono B3.out.size))
  have XA4 := Lib.hid (XA.out.up b4)
  have XB4 := Lib.hid (XB.out.up b4)
  have XR4 := Lib.hid (XR.out.up b4)
  have RA4 := Lib.hid (RA.out.below b4)
  have RB4 := Lib.hid (RB.out.below b4)
  clear b4 B3 XA XB XR RA RB BO
  have b5 : Below w4.heap.size w4 (w4.alloc (.cells Tryd.zeroCells94 94)) := (Below.refl _ _).alloc (Nat.le_refl _) _
  have S5 := Lib.hid (Sp.zeros w4)
  have B5 := Lib.hid (B4.out.trans (b5.mono B4.out.size))
  have XA5 := Lib.hid (XA4.out.up b5)
  have XB5 := Lib.hid (XB4.out.up b5)
  have XR5 := Lib.hid (XR4.out.up b5)
  have RA5 := Lib.hid (RA4.out.below b5)
  have RB5 := Lib.hid (RB4.out.below b5)
  have LA := Lib.hid XA4.out.lt
  have LB := Lib.hid XB4.out.lt
  have LR := Lib.hid XR4.out.lt
  have LG := Lib.hid B4.out.size
  have SZ5 : Hid (w4.heap.size < (w4.alloc (.cells Tryd.zeroCells94 94)).heap.size) := Lib.hid (by simp)
  clear b5 B4 XA4 XB4 XR4 RA4 RB4
  have a0 := XA5.out.c0
  have a1 := XA5.out.c1
  go_wp2_with fail
  generalize (w4.alloc (.cells Tryd.zeroCells94 94)) = w5 at *
  generalize w4.heap.size = g at *
  clear a0 a1
  refine (doubledRows_any _ A w5 RA5.out (by omega)).mono ?_
  rintro e w6 ⟨u6, rfl, o6, b6⟩
  have B6 := Lib.hid (B5.out.trans (b6.mono B5.out.size))
  have XA6 := Lib.hid (XA5.out.up b6)
  have XB6 := Lib.hid (XB5.out.up b6)
  have XR6 := Lib.hid (XR5.out.up b6)
  have S6 := Lib.hid (S5.out.up b6)
  have RB6 := Lib.hid (RB5.out.below b6)
  have O6 := Lib.hid (rdt_of_own o6)
  have T6 := Lib.hid (HT.out.below B6.out)
  have HP := Lib.hid HT.out.pos
  clear o6 b6 B5 XA5 XB5 XR5 S5 RA5 RB5
  go_wp2_with fail
  refine (reduceAdd_any g _ u6 A.length _ w6 O6.out S6.out piv_zero bA.out (by omega) T6.out (by have := HP.out; have := LG.out; omega)).mono ?_
  rintro e w7 ⟨u7, rfl, o7, s7, k7⟩
  have B7 := Lib.hid (B6.out.grown k7 B6.out.size (fun q hq => by cases hq; exact LG.out))
  have XA7 := Lib.hid (XA6.out.grownG k7 (by have := LA.out; omega))
  have XB7 := Lib.hid (XB6.out.grownG k7 (by have := LB.out; omega))
  have XR7 := Lib.hid (XR6.out.grownG k7 (by have := LR.out; omega))
  have RB7 := Lib.hid (RB6.out.keepG (fun x e h0 e2 => by have := LOWB.out x e h0; have := LG.out; omega) (fun x e h0 => by have := LOWB.out x e h0; have := B6.out.size; omega) k7)
  have S7 := Lib.hid s7
  clear o7 s7 k7 B6 XA6 XB6 XR6 S6 O6 T6 RB6
  generalize hS : addN (fun _ => (0, 0)) (fun i => (A.getD i 0, A.getD i 0)) A.length = SA at *
  clear hS
  have b1 := XB7.out.c1
  have b0 := XB7.out.c0
  go_wp2_with fail
  refine (plainRows_any _ B w7 RB7.out (by omega)).mono ?_
  rintro e w8 ⟨u8, rfl, o8, b8⟩
  have B8 := Lib.hid (B7.out.trans (b8.mono B7.out.size))
  have XA8 := Lib.hid (XA7.out.up b8)
  have XR8 := Lib.hid (XR7.out.up b8)
  have S8 := Lib.hid (S7.out.up b8)
  have O8 := Lib.hid (rdt_of_own o8)
  have T8 := Lib.hid (HT.out.below B8.out)
  clear b8 o8 B7 XA7 XB7 XR7 RB7 S7 b0 b1
  go_wp2_with fail
  refine (reduceAdd_any g SA u8 B.length _ w8 O8.out S8.out pA.out (fun i hi => ⟨getD_lt HB.out i hi, Nat.two_pow_pos 60⟩) (by omega) T8.out (by have := HP.out; have := LG.out; omega)).mono ?_
  rintro e w9 ⟨u9, rfl, o9, s9, k9⟩
  have B9 := Lib.hid (B8.out.grown k9 B8.out.size (fun q hq => by cases hq; exact LG.out))
  have XA9 := Lib.hid (XA8.out.grownG k9 (by have := LA.out; omega))
  have XR9 := Lib.hid (XR8.out.grownG k9 (by have := LR.out; omega))
  have RT := Lib.hid (rdt_of_own o9)
  have T9 := Lib.hid (HT.out.below B9.out)
  clear o9 s9 k9 B8 XA8 XR8 S8 O8 T8
  have z : Below w9.heap.size w9 w9.drew := (Below.refl _ _).drew
  have NE : Hid (w.heap.size ≠ w.heap.size + 1 + 1) := Lib.hid (by omega)
  have KEEP : Hid (∀ wx, w9.grownBy wx (some (w.heap.size + 1 + 1)) → (wx.cell? ⟨w.heap.size, 0, none⟩ = some (.int .i64 k) ∧ wx.cell? ⟨w.heap.size, 1, none⟩ = some (.slice aa na qa) ∧ w9.grownBy wx (some (w.heap.size + 1 + 1)))) :=
    Lib.hid (fun wx hb => ⟨(XA9.out.grownG hb NE.out).c0, (XA9.out.grownG hb NE.out).c1, hb⟩)
  go_wp2_with fail
  go_region_held3 (fun wx => wx.cell? ⟨w.heap.size, 0, none⟩ = some (.int .i64 k) ∧ wx.cell? ⟨w.heap.size, 1, none⟩ = some (.slice aa na qa) ∧ w9.grownBy wx (some (w.heap.size + 1 + 1)))
    (first | exact KEEP.out _ (grown_of_below (Below.refl _ _).drew _) | exact KEEP.out _ (grown_of_below (by assumption) _) | exact KEEP.out _ (grown_set (grown_set (grown_of_below (by assumption) _))))
    (first | (go_at_call 94; refine (tracesOfZeros_any _ B.length _ _ (RT.out.up z) (by omega)).mono ?_; rintro e wa ⟨ut, rfl, ot, bt⟩; rw [← KT.out] at ot; have z := z.step bt; have rt := rdn_of_own ot) | (go_at_call 87; refine (spaceOf_any _ K _ rt KB.out (by have := KL.out; omega) (T9.out.below z)).mono ?_; rintro e wb ⟨rfl, s8, b8⟩; have z := z.step b8) | (go_at_call 88; refine (matrix_any _ _ _ _ s8).mono ?_; rintro e wd ⟨u, rfl, o10, b10⟩; have HB2 := Lib.hid (Nat.le_trans B9.out.size z.size); have z := z.step b10; obtain ⟨ua, uc, rfl⟩ := o10.shape; have cR0 := (XR9.out.up z).c0; have cR1 := (XR9.out.up z).c1; have fR0 := (XR9.out.up z).fr 0; have fR1 := (XR9.out.up z).fr 1))
  have O4 : Hid (wd.ownsRow w.heap.size 2 1 (.slice ua (rowsK (spaceL K) 60).length uc) (rowsK (spaceL K) 60).length ((nI (rowsK (spaceL K) 60)).map (Value.int .i64))) := Lib.hid (own_base o10 HB2.out)
  have X4 := Lib.hid (XR9.out.up z)
  have F1 := Lib.hid (own_stored (u1 := .int .i64 k) (u2 := .slice ua (rowsK (spaceL K) 60).length uc) X4.out O4.out)
  have F2 := Lib.hid ((X4.out.set0 (.int .i64 k)).set1 (.slice ua (rowsK (spaceL K) 60).length uc))
  have B10 := Lib.hid (B9.out.trans (z.mono B9.out.size))
  have F3 := Lib.hid ((B10.out.setCell (p := ⟨w.heap.size + 1 + 1, 0, none⟩) (by simp; omega) (.int .i64 k)).setCell (p := ⟨w.heap.size + 1 + 1, 1, none⟩) (by simp; omega) (.slice ua (rowsK (spaceL K) 60).length uc))
  go_wp2_with fail
  refine bodyPost_ret (results_box_tmp rfl _ _ (w.heap.size + 1 + 1) _ _ _ rfl F2.out t2 (by kernel_rfl)) rfl ?_
  refine ⟨_, rfl, ?_, F3.out⟩
  rw [LN.out]
  exact F1.out

theorem MeetOfSpaces_both (ca : Int) (na : Nat) (Ga : Nat → Int) (cb : Int) (nb : Nat) (Gb : Nat → Int) : ∃ (C : Int) (L : List Int) (cd : Int), L.length ≤ 200 ∧
    (∀ w sa sb, RdI w sa na Ga → RdI w sb nb Gb → Calls Tryd.prog 55 #[.agg #[.int .i64 ca, sa], .agg #[.int .i64 cb, sb]] w (MRes C L cd w)) ∧
    (∀ w sa sb, RdI w sa na Ga → RdI w sb nb Gb → T0 w → Calls Tryd.prog 54 #[.agg #[.int .i64 ca, sa], .agg #[.int .i64 cb, sb]] w (MRes C L cd w)) := by
  by_cases hc : smCode ca na Ga cb nb Gb = 0
  · obtain ⟨ha, hb, rfl⟩ := sm_zero hc
    obtain ⟨k, A, rfl, hk, hn, hl, hA, _, hN⟩ := mat_rd ha
    obtain ⟨k2, B, e2, hk2, hn2, hl2, hB, _, hN2⟩ := mat_rd hb
    refine ⟨k, nI (putAll [] (mspec A B)), 0, ?_, fun w sa sb h1 h2 => specMeet_yes k sa sb na nb Ga Gb A B w h1 h2 hc hl hn hA hN hl2 hn2 hB hN2, fun w sa sb h1 h2 hT => ?_⟩
    · rw [nI_length]
      have := (putAll_ok (mspec_ok hA hB).1).2
      omega
    · have := implMeet_yes k sa sb na nb Ga Gb A B w h1 h2 hc hl hn hA hN hl2 hn2 hB hN2 hT
      rw [spaceL_rows (mimpl_ok hA hB).1, ← meet_same hA hB] at this
      exact this
  · exact ⟨0, [], _, by simp, fun w sa sb h1 h2 => specMeet_no ca cb sa sb na nb Ga Gb w h1 h2 hc, fun w sa sb h1 h2 _ => implMeet_no ca cb sa sb na nb Ga Gb w h1 h2 hc⟩
end Go.Proofs.YtdojblmffmefgaaDoor
