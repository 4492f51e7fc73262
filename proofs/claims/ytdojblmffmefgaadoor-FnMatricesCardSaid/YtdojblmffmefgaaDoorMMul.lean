/-
  Contracts of spec.MultiplyMatrices and impl.MultiplyMatrices.
-/
import Derived.Test.YtdojblmffmefgaaDoorMFew
import Derived.Test.YtdojblmffmefgaaDoorMAppend
import Derived.Deep.RegionLaw
import Derived.BigRegion
namespace Go.Proofs.YtdojblmffmefgaaDoor
open Go.RowKit
set_option linter.unusedVariables false

/-- The rows of the product. -/
def pr (Ga Gb : Nat → Int) (nb j : Nat) : List Int := (List.range j).map fun i => tm (Ga i) Gb nb
theorem pr_succ (Ga Gb : Nat → Int) (nb j : Nat) : pr Ga Gb nb (j + 1) = pr Ga Gb nb j ++ [tm (Ga j) Gb nb] := by simp [pr, List.range_succ]
theorem pr_length (Ga Gb : Nat → Int) (nb j : Nat) : (pr Ga Gb nb j).length = j := by simp [pr]

noncomputable def muCode (ca : Int) (na : Nat) (Ga : Nat → Int) (cb : Int) (nb : Nat) (Gb : Nat → Int) : Int := if isMat ca na Ga = true ∧ isMat cb nb Gb = true then (if ca = nb then 0 else 2) else 1
noncomputable def muC (ca : Int) (na : Nat) (Ga : Nat → Int) (cb : Int) (nb : Nat) (Gb : Nat → Int) : Int := if muCode ca na Ga cb nb Gb = 0 then cb else 0
noncomputable def muL (ca : Int) (na : Nat) (Ga : Nat → Int) (cb : Int) (nb : Nat) (Gb : Nat → Int) : List Int := if muCode ca na Ga cb nb Gb = 0 then pr Ga Gb nb na else []

/-- The two boxes of two matrices that came by value, and the box of the result. -/
theorem two_start {w : World} {ca cb : Int} {sa sb : Value} {na nb : Nat} {Ga Gb : Nat → Int} (ha : RdI w sa na Ga) (hb : RdI w sb nb Gb) :
    ∃ w3, w3 = (((w.alloc (.cells #[.int .i64 ca, sa] 26)).alloc (.cells #[.int .i64 cb, sb] 26)).alloc (.cells #[.int .i64 0, .slice none 0 0] 26)) ∧
      Below w.heap.size w w3 ∧ Box w3 w.heap.size 26 (.int .i64 ca) sa ∧ Box w3 (w.heap.size + 1) 26 (.int .i64 cb) sb ∧ Box w3 (w.heap.size + 1 + 1) 26 (.int .i64 0) (.slice none 0 0) ∧
      RdI w3 sa na Ga ∧ RdI w3 sb nb Gb := by
  refine ⟨_, rfl, ?_⟩
  have B : Below w.heap.size w (((w.alloc (.cells #[.int .i64 ca, sa] 26)).alloc (.cells #[.int .i64 cb, sb] 26)).alloc (.cells #[.int .i64 0, .slice none 0 0] 26)) :=
    (((Below.refl w.heap.size w).alloc (Nat.le_refl _) _).alloc (by simp) _).alloc (by simp; omega) _
  refine ⟨B, ((Box.new w _ _ _).alloc _).alloc _, ?_, ?_, ha.below B, hb.below B⟩
  · have := (Box.new (w.alloc (.cells #[.int .i64 ca, sa] 26)) 26 (.int .i64 cb) sb).alloc (.cells #[.int .i64 0, .slice none 0 0] 26)
    simpa using this
  · have := Box.new ((w.alloc (.cells #[.int .i64 ca, sa] 26)).alloc (.cells #[.int .i64 cb, sb] 26)) 26 (.int .i64 0) (.slice none 0 0)
    simpa using this

set_option maxHeartbeats 2000000 in
theorem specMul_any (ca cb : Int) (sa sb : Value) (na nb : Nat) (Ga Gb : Nat → Int) (w : World) (ha : RdI w sa na Ga) (hb : RdI w sb nb Gb) :
    Calls Tryd.prog 31 #[.agg #[.int .i64 ca, sa], .agg #[.int .i64 cb, sb]] w (MRes (muC ca na Ga cb nb Gb) (muL ca na Ga cb nb Gb) (muCode ca na Ga cb nb Gb) w) := by
  have HA := Lib.hid ha
  have HB := Lib.hid hb
  obtain ⟨w3, hw3, B3, XA, XB, XR, RA, RB⟩ := two_start (ca := ca) (cb := cb) ha hb
  have B3 := Lib.hid B3
  have XA := Lib.hid XA
  have XB := Lib.hid XB
  have XR := Lib.hid XR
  have RA := Lib.hid RA
  have RB := Lib.hid RB
  obtain ⟨aa, qa, rfl, hma, hc⟩ := ha
  obtain ⟨ab, qb, rfl, hmb, hc2⟩ := hb
  clear hc hc2
  have t2 := Tryd.underlying26
  go_enter Tryd.func31, Tryd.ntmps31
  go_wp2_with fail
  rw [← hw3]
  clear hw3
  refine (specIs_any ca _ na Ga w3 RA.out).mono ?_
  rintro e w4 ⟨rfl, b4⟩
  have B4 := Lib.hid (B3.out.trans (b4.mono B3.out.size))
  have XA4 := Lib.hid (XA.out.up b4)
  have XB4 := Lib.hid (XB.out.up b4)
  have XR4 := Lib.hid (XR.out.up b4)
  have RB4 := Lib.hid (RB.out.below b4)
  clear b4 B3 XA XB XR RA RB
  have a0 := XA4.out.c0
  have a1 := XA4.out.c1
  have b0 := XB4.out.c0
  have b1 := XB4.out.c1
  have r0 := XR4.out.c0
  have r1 := XR4.out.c1
  have f0 := XR4.out.fr 0
  have f1 := XR4.out.fr 1
  cases hia : isMat ca na Ga with
  | false =>
    have E3 : Hid (muCode ca na Ga cb nb Gb = 1) := Lib.hid (by unfold muCode; rw [if_neg]; rw [hia]; simp)
    have E1 : Hid (muC ca na Ga cb nb Gb = 0) := Lib.hid (by unfold muC; rw [E3.out]; rfl)
    have E2 : Hid (muL ca na Ga cb nb Gb = []) := Lib.hid (by unfold muL; rw [E3.out]; rfl)
    clear hia
    have X5 := Lib.hid ((XR4.out.set0 (.int .i64 0)).set1 (.slice none 0 0))
    have B5 := Lib.hid ((B4.out.setCell (p := ⟨w.heap.size + 1 + 1, 0, none⟩) (by simp; omega) (.int .i64 0)).setCell (p := ⟨w.heap.size + 1 + 1, 1, none⟩) (by simp; omega) (.slice none 0 0))
    go_wp2_with fail
    refine bodyPost_ret (results_box_tmp rfl _ _ (w.heap.size + 1 + 1) _ _ _ rfl X5.out t2 (by kernel_rfl)) rfl ?_
    exact ⟨_, by rw [E1.out, E3.out]; rfl, by rw [E2.out]; exact World.ownsRow_nil _ _ _ _, B5.out⟩
  | true =>
    go_wp2_with fail
    refine (specIs_any cb _ nb Gb w4 RB4.out).mono ?_
    rintro e w5 ⟨rfl, b5⟩
    have B5 := Lib.hid (B4.out.trans (b5.mono B4.out.size))
    have XA5 := Lib.hid (XA4.out.up b5)
    have XB5 := Lib.hid (XB4.out.up b5)
    have XR5 := Lib.hid (XR4.out.up b5)
    clear b5 B4 XA4 XB4 XR4 RB4 a0 a1 b0 b1 r0 r1 f0 f1
    have a0 := XA5.out.c0
    have a1 := XA5.out.c1
    have b0 := XB5.out.c0
    have b1 := XB5.out.c1
    have r0 := XR5.out.c0
    have r1 := XR5.out.c1
    have f0 := XR5.out.fr 0
    have f1 := XR5.out.fr 1
    cases hib : isMat cb nb Gb with
    | false =>
      have E3 : Hid (muCode ca na Ga cb nb Gb = 1) := Lib.hid (by unfold muCode; rw [if_neg]; rw [hib]; simp)
      have E1 : Hid (muC ca na Ga cb nb Gb = 0) := Lib.hid (by unfold muC; rw [E3.out]; rfl)
      have E2 : Hid (muL ca na Ga cb nb Gb = []) := Lib.hid (by unfold muL; rw [E3.out]; rfl)
      clear hia hib
      have X6 := Lib.hid ((XR5.out.set0 (.int .i64 0)).set1 (.slice none 0 0))
      have B6 := Lib.hid ((B5.out.setCell (p := ⟨w.heap.size + 1 + 1, 0, none⟩) (by simp; omega) (.int .i64 0)).setCell (p := ⟨w.heap.size + 1 + 1, 1, none⟩) (by simp; omega) (.slice none 0 0))
      go_wp2_with fail
      refine bodyPost_ret (results_box_tmp rfl _ _ (w.heap.size + 1 + 1) _ _ _ rfl X6.out t2 (by kernel_rfl)) rfl ?_
      exact ⟨_, by rw [E1.out, E3.out]; rfl, by rw [E2.out]; exact World.ownsRow_nil _ _ _ _, B6.out⟩
    | true =>
      have IA : Hid (okMat ca na Ga) := Lib.hid (Classical.byContradiction fun h => by rw [isMat_no h] at hia; cases hia)
      by_cases hcn : ca = (nb : Int)
      · have E3 : Hid (muCode ca na Ga cb nb Gb = 0) := Lib.hid (by unfold muCode; rw [if_pos ⟨hia, hib⟩, if_pos hcn])
        have E1 : Hid (muC ca na Ga cb nb Gb = cb) := Lib.hid (by unfold muC; rw [E3.out]; rfl)
        have E2 : Hid (muL ca na Ga cb nb Gb = pr Ga Gb nb na) := Lib.hid (by unfold muL; rw [E3.out]; rfl)
        have hnb : nb ≤ 60 := by obtain ⟨k, e, hk, _⟩ := IA.out; omega
        have hna : na ≤ 200 := by obtain ⟨k, e, hk, hn, _⟩ := IA.out; omega
        clear hia hib
        subst hcn
        have S6 : Hid (Bld w w.heap.size (w.heap.size + 1 + 1) w5.heap.size (.int .i64 nb) (.slice aa na qa) cb (.slice none 0 0) (pr Ga Gb nb 0) (w5.alloc (.cells #[.int .i64 cb, .slice none 0 0] 26))) := Lib.hid (by
          refine ⟨B5.out.alloc (B5.out.size) _, XA5.out.alloc _, XR5.out.alloc _, Box.new w5 _ _ _, World.ownsRow_nil _ _ _ _, by omega, by omega, B5.out.size, ?_, ?_⟩
          · have := XA5.out.lt; omega
          · have := XR5.out.lt; omega)
        have T6 : Hid (Box (w5.alloc (.cells #[.int .i64 cb, .slice none 0 0] 26)) (w.heap.size + 1) 26 (.int .i64 cb) (.slice ab nb qb)) := Lib.hid (XB5.out.alloc _)
        have NB : Hid (w.heap.size + 1 ≠ w5.heap.size) := Lib.hid (by have := XB5.out.lt; omega)
        clear a0 a1 b0 b1 r0 r1 f0 f1
        have a0 := S6.out.bA.c0
        have a1 := S6.out.bA.c1
        have b0 := T6.out.c0
        have b1 := T6.out.c1
        have a0' := XA5.out.c0
        have a1' := XA5.out.c1
        have b0' := XB5.out.c0
        have b1' := XB5.out.c1
        go_wp2
        clear a0' a1' b0' b1' a0 a1 b0 b1 XA5 XB5 XR5 B5
        generalize (w5.alloc (.cells #[.int .i64 cb, .slice none 0 0] 26)) = w6 at *
        generalize w5.heap.size = gO at *
        go_loopw [7] (fun c wr => ∃ (j : Nat) (v : Value), j ≤ na ∧ c = .int .i64 j ∧ Hid (Bld w w.heap.size (w.heap.size + 1 + 1) gO (.int .i64 nb) (.slice aa na qa) cb v (pr Ga Gb nb j) wr) ∧ Hid (Box wr (w.heap.size + 1) 26 (.int .i64 cb) (.slice ab nb qb))) (fun c _ => na - (intOf c).toNat)
        case atStart => exact ⟨0, _, by omega, rfl, S6, T6⟩
        case round =>
          clear S6 T6
          obtain ⟨j, v, hj, rfl, S, T⟩ := hrel
          have o0 := S.out.own
          rw [pr_length] at o0
          obtain ⟨va, vc, rfl⟩ := o0.shape
          have O := Lib.hid o0
          clear o0
          have cA0 := S.out.bA.c0
          have cA1 := S.out.bA.c1
          by_cases hlt : j < na
          · have hlt' : (j : Int) < (na : Int) := by omega
            have HR := Lib.hid (HA.out.below S.out.bel)
            have RB := Lib.hid (HB.out.below S.out.bel)
            obtain ⟨_, _, e, _, hc⟩ := HR.out
            cases e
            obtain ⟨b, off, rfl, hc2⟩ := hc.resolve_left (by omega)
            have c1 := hc2 j hlt
            have C1 := Lib.hid c1
            clear hc hc2
            have E : Hid (pr Ga Gb nb (j + 1) = pr Ga Gb nb j ++ [tm (Ga j) Gb nb]) := Lib.hid (pr_succ Ga Gb nb j)
            have LL := Lib.hid (pr_length Ga Gb nb j)
            have cO1 := S.out.bO.c1
            have cO0 := S.out.bO.c0
            have cB0 := T.out.c0
            have cB1 := T.out.c1
            generalize pr Ga Gb nb j = L at *
            go_wp2_with fail
            have AO : Hid ((wr.drew.alloc (.cells #[.int .i64 (tm (Ga j) Gb nb)] 2)).ownsRow w.heap.size 2 1 (.slice va j vc) j (L.map (Value.int .i64))) := Lib.hid (own_below (own_drewN O.out 1) ((Below.refl _ _).alloc (Nat.le_refl _) _))
            have AS : Hid (w.heap.size ≤ (wr.drew.alloc (.cells #[.int .i64 (tm (Ga j) Gb nb)] 2)).heap.size) := Lib.hid (by have := S.out.bel.size; simp [heap_drew]; omega)
            have BO : Hid (Box (wr.drew.alloc (.cells #[.int .i64 (tm (Ga j) Gb nb)] 2)) gO 26 (.int .i64 cb) (.slice va j vc)) := Lib.hid ((S.out.bO.drewN 1).alloc _)
            have bo1 : (wr.alloc (.cells #[.int .i64 (tm (Ga j) Gb nb)] 2)).cell? ⟨gO, 1, none⟩ = some (.slice va j vc) := (S.out.bO.alloc _).c1
            have NE := Lib.hid (S.out.bO.ne_row O.out (by decide))
            have TM := Lib.hid (specTimes_any (Ga j) _ nb Gb wr.drew (RB.out.drewN 1) hnb)
            go_region_law (first | (go_simp; go_at_call 82; refine TM.out.mono ?_; rintro e w11 ⟨rfl, rfl⟩) | (refine step_append1 (by rfl) _ _ (by rfl) w.heap.size (.slice va j vc) j L (by rfl) AO.out _ _ 1 (by rfl) (World.cell?_alloc_new _ _ _ _) (by omega) AS.out ?_; intro va' vc' w12 ho hg; have x1 := (BO.out.grown hg NE.out).c1; have x2 := (BO.out.grown hg NE.out).fr 1))
            all_goals
              have A2 := Lib.hid ((Bld.alloc (show Bld w w.heap.size (w.heap.size + 1 + 1) gO (.int .i64 nb) (.slice (some ⟨b, off, none⟩) na qa) cb (.slice va j vc) L wr.drew from S.out.drew) (.cells #[.int .i64 (tm (Ga j) Gb nb)] 2)).app (r := tm (Ga j) Gb nb) (by rw [LL.out, List.map_append]; simpa using ho) hg)
              have F := Lib.hid (Bld2.store (Bld.alloc S.out.drew (.cells #[.int .i64 (tm (Ga j) Gb nb)] 2)) A2.out)
              have T2 := Lib.hid (((((T.out.drewN 1).alloc (.cells #[.int .i64 (tm (Ga j) Gb nb)] 2)).grown hg (((T.out.drewN 1).alloc _).ne_row AO.out (by decide))).other ⟨gO, 1, none⟩ (.slice va' (j + 1) vc') NB.out))
              clear ho hg x1 x2
              go_wp2
              go_roundw
              case rel => exact ⟨j + 1, _, by omega, by go_num, Lib.hid (by rw [E.out]; exact F.out), T2⟩
              case measure => simp [intOf]; omega
          · obtain rfl : j = na := by omega
            have cO0 := S.out.bO.c0
            have cO1 := S.out.bO.c1
            have cR0 := S.out.bR.c0
            have cR1 := S.out.bR.c1
            have fR0 := S.out.bR.fr 0
            have fR1 := S.out.bR.fr 1
            obtain ⟨F1, F2, F3⟩ := S.out.fin
            have F1 := Lib.hid F1
            have F2 := Lib.hid F2
            have F3 := Lib.hid F3
            go_wp2
            refine bodyPost_ret (results_box_tmp rfl _ _ (w.heap.size + 1 + 1) _ _ _ rfl F1.out t2 (by kernel_rfl)) rfl ?_
            refine ⟨_, by rw [E1.out, E3.out]; rfl, ?_, F3.out⟩
            rw [E2.out]
            exact F2.out
      · have E3 : Hid (muCode ca na Ga cb nb Gb = 2) := Lib.hid (by unfold muCode; rw [if_pos ⟨hia, hib⟩, if_neg hcn])
        have E1 : Hid (muC ca na Ga cb nb Gb = 0) := Lib.hid (by unfold muC; rw [E3.out]; rfl)
        have E2 : Hid (muL ca na Ga cb nb Gb = []) := Lib.hid (by unfold muL; rw [E3.out]; rfl)
        clear hia hib
        have X6 := Lib.hid ((XR5.out.set0 (.int .i64 0)).set1 (.slice none 0 0))
        have B6 := Lib.hid ((B5.out.setCell (p := ⟨w.heap.size + 1 + 1, 0, none⟩) (by simp; omega) (.int .i64 0)).setCell (p := ⟨w.heap.size + 1 + 1, 1, none⟩) (by simp; omega) (.slice none 0 0))
        have hcn' : (ca != (nb : Int)) = true := by rw [bne_iff_ne]; exact hcn
        go_wp2_with fail
        refine bodyPost_ret (results_box_tmp rfl _ _ (w.heap.size + 1 + 1) _ _ _ rfl X6.out t2 (by kernel_rfl)) rfl ?_
        exact ⟨_, by rw [E1.out, E3.out]; rfl, by rw [E2.out]; exact World.ownsRow_nil _ _ _ _, B6.out⟩
end Go.Proofs.YtdojblmffmefgaaDoor
