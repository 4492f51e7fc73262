/-
  Contract of impl.MultiplyMatrices.
-/
import Derived.Test.YtdojblmffmefgaaDoorMMul
namespace Go.Proofs.YtdojblmffmefgaaDoor
open Go.RowKit
set_option linter.unusedVariables false
set_option maxRecDepth 100000

theorem ne_mi : 26 ≠ 2 := by decide

set_option maxHeartbeats 2000000 in
theorem implMul_any (ca cb : Int) (sa sb : Value) (na nb : Nat) (Ga Gb : Nat → Int) (w : World) (ha : RdI w sa na Ga) (hb : RdI w sb nb Gb) :
    Calls Tryd.prog 30 #[.agg #[.int .i64 ca, sa], .agg #[.int .i64 cb, sb]] w (MRes (muC ca na Ga cb nb Gb) (muL ca na Ga cb nb Gb) (muCode ca na Ga cb nb Gb) w) := by
  have HA := Lib.hid ha
  have HB := Lib.hid hb
  obtain ⟨w3, hw3, B3, XA, XB, XR, RA, RB⟩ := two_start (ca := ca) (cb := cb) ha hb
  have B3 := Lib.hid B3
  have XA := Lib.hid XA
  have XB := Lib.hid XB
  have XR := Lib.hid XR
  have RA := Lib.hid RA
  have RB := Lib.hid RB
  obtain ⟨aa, qa, rfl, hma, hc⟩ := ha
  obtain ⟨ab, qb, rfl, hmb, hc2⟩ := hb
  clear hc hc2
  have t2 := Tryd.underlying26
  go_enter Tryd.func30, Tryd.ntmps30
  go_wp2_with fail
  rw [← hw3]
  clear hw3
  refine (implIs_any ca _ na Ga w3 RA.out).mono ?_
  rintro e w4 ⟨rfl, b4⟩
  have B4 := Lib.hid (B3.out.trans (b4.mono B3.out.size))
  have XA4 := Lib.hid (XA.out.up b4)
  have XB4 := Lib.hid (XB.out.up b4)
  have XR4 := Lib.hid (XR.out.up b4)
  have RB4 := Lib.hid (RB.out.below b4)
  clear b4 B3 XA XB XR RA RB
  have a0 := XA4.out.c0
  have a1 := XA4.out.c1
  have b0 := XB4.out.c0
  have b1 := XB4.out.c1
  have r0 := XR4.out.c0
  have r1 := XR4.out.c1
  have f0 := XR4.out.fr 0
  have f1 := XR4.out.fr 1
  cases hia : isMat ca na Ga with
  | false =>
    have E3 : Hid (muCode ca na Ga cb nb Gb = 1) := Lib.hid (by unfold muCode; rw [if_neg]; rw [hia]; simp)
    have E1 : Hid (muC ca na Ga cb nb Gb = 0) := Lib.hid (by unfold muC; rw [E3.out]; rfl)
    have E2 : Hid (muL ca na Ga cb nb Gb = []) := Lib.hid (by unfold muL; rw [E3.out]; rfl)
    clear hia
    have X5 := Lib.hid ((XR4.out.set0 (.int .i64 0)).set1 (.slice none 0 0))
    have B5 := Lib.hid ((B4.out.setCell (p := ⟨w.heap.size + 1 + 1, 0, none⟩) (by simp; omega) (.int .i64 0)).setCell (p := ⟨w.heap.size + 1 + 1, 1, none⟩) (by simp; omega) (.slice none 0 0))
    go_wp2_with fail
    refine bodyPost_ret (results_box_tmp rfl _ _ (w.heap.size + 1 + 1) _ _ _ rfl X5.out t2 (by kernel_rfl)) rfl ?_
    exact ⟨_, by rw [E1.out, E3.out]; rfl, by rw [E2.out]; exact World.ownsRow_nil _ _ _ _, B5.out⟩
  | true =>
    go_wp2_with fail
    refine (implIs_any cb _ nb Gb w4 RB4.out).mono ?_
    rintro e w5 ⟨rfl, b5⟩
    have B5 := Lib.hid (B4.out.trans (b5.mono B4.out.size))
    have XA5 := Lib.hid (XA4.out.up b5)
    have XB5 := Lib.hid (XB4.out.up b5)
    have XR5 := Lib.hid (XR4.out.up b5)
    clear b5 B4 XA4 XB4 XR4 RB4 a0 a1 b0 b1 r0 r1 f0 f1
    have a0 := XA5.out.c0
    have a1 := XA5.out.c1
    have b0 := XB5.out.c0
    have b1 := XB5.out.c1
    have r0 := XR5.out.c0
    have r1 := XR5.out.c1
    have f0 := XR5.out.fr 0
    have f1 := XR5.out.fr 1
    cases hib : isMat cb nb Gb with
    | false =>
      have E3 : Hid (muCode ca na Ga cb nb Gb = 1) := Lib.hid (by unfold muCode; rw [if_neg]; rw [hib]; simp)
      have E1 : Hid (muC ca na Ga cb nb Gb = 0) := Lib.hid (by unfold muC; rw [E3.out]; rfl)
      have E2 : Hid (muL ca na Ga cb nb Gb = []) := Lib.hid (by unfold muL; rw [E3.out]; rfl)
      clear hia hib
      have X6 := Lib.hid ((XR5.out.set0 (.int .i64 0)).set1 (.slice none 0 0))
      have B6 := Lib.hid ((B5.out.setCell (p := ⟨w.heap.size + 1 + 1, 0, none⟩) (by simp; omega) (.int .i64 0)).setCell (p := ⟨w.heap.size + 1 + 1, 1, none⟩) (by simp; omega) (.slice none 0 0))
      go_wp2_with fail
      refine bodyPost_ret (results_box_tmp rfl _ _ (w.heap.size + 1 + 1) _ _ _ rfl X6.out t2 (by kernel_rfl)) rfl ?_
      exact ⟨_, by rw [E1.out, E3.out]; rfl, by rw [E2.out]; exact World.ownsRow_nil _ _ _ _, B6.out⟩
    | true =>
      have IA : Hid (okMat ca na Ga) := Lib.hid (Classical.byContradiction fun h => by rw [isMat_no h] at hia; cases hia)
      have KEEP : Hid (∀ wx, Below w5.heap.size w5 wx → (wx.cell? ⟨w.heap.size, 0, none⟩ = some (.int .i64 ca) ∧ wx.cell? ⟨w.heap.size + 1, 0, none⟩ = some (.int .i64 cb) ∧ wx.cell? ⟨w.heap.size + 1, 1, none⟩ = some (.slice ab nb qb) ∧ Below w5.heap.size w5 wx)) :=
        Lib.hid (fun wx hb => ⟨(XA5.out.up hb).c0, (XB5.out.up hb).c0, (XB5.out.up hb).c1, hb⟩)
      go_wp2_with fail
      go_region_held3 (fun wx => wx.cell? ⟨w.heap.size, 0, none⟩ = some (.int .i64 ca) ∧ wx.cell? ⟨w.heap.size + 1, 0, none⟩ = some (.int .i64 cb) ∧ wx.cell? ⟨w.heap.size + 1, 1, none⟩ = some (.slice ab nb qb) ∧ Below w5.heap.size w5 wx)
        (first | exact KEEP.out _ (Below.refl _ _).drew | exact KEEP.out _ (by assumption))
        (first | (go_at_call 79; refine (rowCount_any cb ab nb qb _).mono ?_; rintro e w6 ⟨rfl, b6⟩; have z6 := below_drew1 b6))
      have B6' := Lib.hid (B5.out.trans (z6.mono B5.out.size))
      have XA6 := Lib.hid (XA5.out.up z6)
      have XB6 := Lib.hid (XB5.out.up z6)
      have XR6 := Lib.hid (XR5.out.up z6)
      clear KEEP z6 b6 B5 XA5 XB5 XR5 a0 a1 b0 b1 r0 r1 f0 f1
      have a0 := XA6.out.c0
      have a1 := XA6.out.c1
      have b0 := XB6.out.c0
      have b1 := XB6.out.c1
      have r0 := XR6.out.c0
      have r1 := XR6.out.c1
      have f0 := XR6.out.fr 0
      have f1 := XR6.out.fr 1
      by_cases hcn : ca = (nb : Int)
      · have E3 : Hid (muCode ca na Ga cb nb Gb = 0) := Lib.hid (by unfold muCode; rw [if_pos ⟨hia, hib⟩, if_pos hcn])
        have E1 : Hid (muC ca na Ga cb nb Gb = cb) := Lib.hid (by unfold muC; rw [E3.out]; rfl)
        have E2 : Hid (muL ca na Ga cb nb Gb = pr Ga Gb nb na) := Lib.hid (by unfold muL; rw [E3.out]; rfl)
        have hnb : nb ≤ 60 := by obtain ⟨k, e, hk, _⟩ := IA.out; omega
        have hna : na ≤ 200 := by obtain ⟨k, e, hk, hn, _⟩ := IA.out; omega
        clear hia hib
        subst hcn
        rw [show ((nb : Int) != (nb : Int)) = false from by simp]
        have S6 : Hid (Bld w w.heap.size (w.heap.size + 1 + 1) w6.heap.size (.int .i64 nb) (.slice aa na qa) cb (.slice none 0 0) (pr Ga Gb nb 0) (w6.alloc (.cells #[.int .i64 cb, .slice none 0 0] 26))) := Lib.hid (by
          refine ⟨B6'.out.alloc (B6'.out.size) _, XA6.out.alloc _, XR6.out.alloc _, Box.new w6 _ _ _, World.ownsRow_nil _ _ _ _, by omega, by omega, B6'.out.size, ?_, ?_⟩
          · have := XA6.out.lt; omega
          · have := XR6.out.lt; omega)
        have T6 : Hid (Box (w6.alloc (.cells #[.int .i64 cb, .slice none 0 0] 26)) (w.heap.size + 1) 26 (.int .i64 cb) (.slice ab nb qb)) := Lib.hid (XB6.out.alloc _)
        have NB : Hid (w.heap.size + 1 ≠ w6.heap.size) := Lib.hid (by have := XB6.out.lt; omega)
        clear a0 a1 b0 b1 r0 r1 f0 f1
        have a0 := S6.out.bA.c0
        have a1 := S6.out.bA.c1
        have b0 := T6.out.c0
        have b1 := T6.out.c1
        have a0' := XA6.out.c0
        have a1' := XA6.out.c1
        have b0' := XB6.out.c0
        have b1' := XB6.out.c1
        go_wp2
        clear a0' a1' b0' b1' a0 a1 b0 b1 XA6 XB6 XR6 B6'
        generalize (w6.alloc (.cells #[.int .i64 cb, .slice none 0 0] 26)) = w7 at *
        generalize w6.heap.size = gO at *
        go_loopw [8, 30] (fun _ c wr => ∃ (j : Nat) (v : Value), j ≤ na ∧ c = .int .i64 j ∧ Hid (Bld w w.heap.size (w.heap.size + 1 + 1) gO (.int .i64 nb) (.slice aa na qa) cb v (pr Ga Gb nb j) wr) ∧ Hid (Box wr (w.heap.size + 1) 26 (.int .i64 cb) (.slice ab nb qb))) (fun _ c _ => na - (intOf c).toNat)
        case atStart => exact ⟨0, _, by omega, rfl, S6, T6⟩
        case round =>
          clear S6 T6
          obtain ⟨j, v, hj, rfl, S, T⟩ := hrel
          have o0 := S.out.own
          rw [pr_length] at o0
          obtain ⟨va, vc, rfl⟩ := o0.shape
          have O := Lib.hid o0
          clear o0
          have cA0 := S.out.bA.c0
          have cA1 := S.out.bA.c1
          by_cases hlt : j < na
          · have hlt' : (j : Int) < (na : Int) := by omega
            have HR := Lib.hid (HA.out.below S.out.bel)
            have RB := Lib.hid (HB.out.below S.out.bel)
            obtain ⟨_, _, e, _, hc⟩ := HR.out
            cases e
            obtain ⟨b, off, rfl, hc2⟩ := hc.resolve_left (by omega)
            have c1 := hc2 j hlt
            have C1 := Lib.hid c1
            clear hc hc2
            have E : Hid (pr Ga Gb nb (j + 1) = pr Ga Gb nb j ++ [tm (Ga j) Gb nb]) := Lib.hid (pr_succ Ga Gb nb j)
            have LL := Lib.hid (pr_length Ga Gb nb j)
            have cO1 := S.out.bO.c1
            have cO0 := S.out.bO.c0
            have cB0 := T.out.c0
            have cB1 := T.out.c1
            generalize pr Ga Gb nb j = L at *
            go_wp2_with fail
            have TM := Lib.hid (implTimes_any (Ga j) cb _ nb Gb wr.drew (RB.out.drewN 1) hnb)
            have BO : Hid (Box wr.drew gO 26 (.int .i64 cb) (.slice va j vc)) := Lib.hid (S.out.bO.drewN 1)
            have SD : Hid (Bld w w.heap.size (w.heap.size + 1 + 1) gO (.int .i64 nb) (.slice (some ⟨b, off, none⟩) na qa) cb (.slice va j vc) L wr.drew) := Lib.hid S.out.drew
            have OD : Hid (wr.drew.ownsRow w.heap.size 2 1 (.slice va j vc) j (L.map (Value.int .i64))) := Lib.hid (own_drewN O.out 1)
            have TD : Hid (Box wr.drew (w.heap.size + 1) 26 (.int .i64 cb) (.slice ab nb qb)) := Lib.hid (T.out.drewN 1)
            generalize hr : tm (Ga j) Gb nb = r at *
            clear hr
            go_wp2_with fail
            go_region_law (first | (go_simp; go_at_call 80; refine TM.out.mono ?_; rintro e w11 ⟨rfl, b11⟩; have bo11 := (BO.out.up b11).c1; have bo12 := ((BO.out.up b11).alloc (.cells #[.int .i64 r] 2)).c1; have AO11 := Lib.hid (own_below (own_below OD.out b11) ((Below.refl w11.heap.size w11).alloc (Nat.le_refl _) (.cells #[.int .i64 r] 2))); have BO11 := Lib.hid ((BO.out.up b11).alloc (.cells #[.int .i64 r] 2)); have AS11 := Lib.hid (Nat.le_trans (Nat.le_trans SD.out.bel.size b11.size) ((Below.refl w11.heap.size w11).alloc (Nat.le_refl _) (.cells #[.int .i64 r] 2)).size); have NE11 := Lib.hid (BO11.out.ne_row AO11.out ne_mi)) | (refine step_append1 (by rfl) _ _ (by rfl) w.heap.size (.slice va j vc) j L (by rfl) AO11.out _ _ 1 (by rfl) (World.cell?_alloc_new _ _ _ _) (by omega) AS11.out ?_; intro va' vc' w12 ho hg; have x1 := (BO11.out.grown hg NE11.out).c1; have x2 := (BO11.out.grown hg NE11.out).fr 1))
            all_goals
              have A2 := Lib.hid (((SD.out.up b11).alloc (.cells #[.int .i64 r] 2)).app (r := r) (by rw [LL.out, List.map_append]; simpa using ho) hg)
              have F := Lib.hid (Bld2.store ((SD.out.up b11).alloc (.cells #[.int .i64 r] 2)) A2.out)
              have T2 := Lib.hid ((((TD.out.up b11).alloc (.cells #[.int .i64 r] 2)).grown hg (((TD.out.up b11).alloc (.cells #[.int .i64 r] 2)).ne_row AO11.out ne_mi)).other ⟨gO, 1, none⟩ (.slice va' (j + 1) vc') NB.out)
              clear ho hg x1 x2 bo11 bo12 b11 AO11 BO11 AS11 NE11
              go_wp2
              go_roundw
              case rel => exact ⟨j + 1, _, by omega, by go_num, Lib.hid (by rw [E.out]; exact F.out), T2⟩
              case measure => simp [intOf]; omega
          · obtain rfl : j = na := by omega
            have cO0 := S.out.bO.c0
            have cO1 := S.out.bO.c1
            have cR0 := S.out.bR.c0
            have cR1 := S.out.bR.c1
            have fR0 := S.out.bR.fr 0
            have fR1 := S.out.bR.fr 1
            obtain ⟨F1, F2, F3⟩ := S.out.fin
            have F1 := Lib.hid F1
            have F2 := Lib.hid F2
            have F3 := Lib.hid F3
            go_wp2
            refine bodyPost_ret (results_box_tmp rfl _ _ (w.heap.size + 1 + 1) _ _ _ rfl F1.out t2 (by kernel_rfl)) rfl ?_
            refine ⟨_, by rw [E1.out, E3.out]; rfl, ?_, F3.out⟩
            rw [E2.out]
            exact F2.out
      · have E3 : Hid (muCode ca na Ga cb nb Gb = 2) := Lib.hid (by unfold muCode; rw [if_pos ⟨hia, hib⟩, if_neg hcn])
        have E1 : Hid (muC ca na Ga cb nb Gb = 0) := Lib.hid (by unfold muC; rw [E3.out]; rfl)
        have E2 : Hid (muL ca na Ga cb nb Gb = []) := Lib.hid (by unfold muL; rw [E3.out]; rfl)
        clear hia hib
        have X6 := Lib.hid ((XR6.out.set0 (.int .i64 0)).set1 (.slice none 0 0))
        have B6 := Lib.hid ((B6'.out.setCell (p := ⟨w.heap.size + 1 + 1, 0, none⟩) (by simp; omega) (.int .i64 0)).setCell (p := ⟨w.heap.size + 1 + 1, 1, none⟩) (by simp; omega) (.slice none 0 0))
        have hcn' : (ca != (nb : Int)) = true := by rw [bne_iff_ne]; exact hcn
        go_wp2_with fail
        refine bodyPost_ret (results_box_tmp rfl _ _ (w.heap.size + 1 + 1) _ _ _ rfl X6.out t2 (by kernel_rfl)) rfl ?_
        exact ⟨_, by rw [E1.out, E3.out]; rfl, by rw [E2.out]; exact World.ownsRow_nil _ _ _ _, B6.out⟩

theorem MultiplyMatrices_both (ca : Int) (na : Nat) (Ga : Nat → Int) (cb : Int) (nb : Nat) (Gb : Nat → Int) : ∃ (C : Int) (L : List Int) (cd : Int), L.length ≤ 200 ∧
    (∀ w sa sb, RdI w sa na Ga → RdI w sb nb Gb → Calls Tryd.prog 31 #[.agg #[.int .i64 ca, sa], .agg #[.int .i64 cb, sb]] w (MRes C L cd w)) ∧
    (∀ w sa sb, RdI w sa na Ga → RdI w sb nb Gb → Calls Tryd.prog 30 #[.agg #[.int .i64 ca, sa], .agg #[.int .i64 cb, sb]] w (MRes C L cd w)) := by
  refine ⟨_, _, _, ?_, fun w sa sb ha hb => specMul_any ca cb sa sb na nb Ga Gb w ha hb, fun w sa sb ha hb => implMul_any ca cb sa sb na nb Ga Gb w ha hb⟩
  unfold muL
  split
  · rename_i h
    rw [pr_length]
    unfold muCode at h
    by_cases hi : isMat ca na Ga = true
    · by_cases ho : okMat ca na Ga
      · obtain ⟨_, _, _, hn, _⟩ := ho; exact hn
      · rw [isMat_no ho] at hi; cases hi
    · rw [if_neg (fun h2 => hi h2.1)] at h; simp at h
  · simp
end Go.Proofs.YtdojblmffmefgaaDoor
