/-
  Joined: PCom, NLaw2.
-/
import Derived.Test.YtfgkpkdoemnnmaaZCommutatorOf37
import Derived.Test.YtfgkpkdoemnnmaaZCommutatorOf27
import Derived.Deep.DeepCutAuto
import Derived.Deep.RegionWith
import Derived.Deep.RegionHeld3
import Derived.BigRegion
section
namespace Go.Proofs.Ytfgkpkdoemnnmaa.Ml
open Go.RowKit
set_option linter.unusedVariables false
set_option maxRecDepth 100000

theorem Two.up' {w0 w w' : World} {va vb : Value} (h : Two w0 va vb w) (k : Below w.heap.size w w') : Two w0 va vb w' := ⟨h.bel.step1 k, h.bA.up k, h.bB.up k⟩
theorem Two.setR {w0 w : World} {va vb : Value} (h : Two w0 va vb w) (v : Value) : Two w0 va vb (w.setCell ⟨w0.heap.size + 1 + 1, 0, none⟩ v) :=
  ⟨h.bel.setCell (p := ⟨w0.heap.size + 1 + 1, 0, none⟩) (by simp; omega) v, (heap_setCell_other w _ _ v (by simp; omega)).trans h.bA, (heap_setCell_other w _ _ v (by simp)).trans h.bB⟩
theorem Tri.two {w0 w : World} {va vb : Value} (h : Tri w0 va vb w) : Two w0 va vb w := ⟨h.bel, h.bA, h.bB⟩

theorem specCom_bad (aa ab : Option Addr) (m n ca cb : Nat) (w : World) (cd : Int) (hcd : (cd != 0) = true) (C : Hid (∀ wx, Below w.heap.size w wx → Calls Try.prog 46 #[.agg #[.slice aa m ca], .agg #[.slice ab n cb]] wx (SaysI cd wx))) :
    Calls Try.prog 20 #[.agg #[.slice aa m ca], .agg #[.slice ab n cb]] w (ResS [] cd w) := by
  have t2 := Try.underlying26
  obtain ⟨w1, hw1⟩ : ∃ w1, w1 = (((w.alloc (.cells #[.slice aa m ca] 26)).alloc (.cells #[.slice ab n cb] 26)).alloc (.cells #[.slice none 0 0] 26)) := ⟨_, rfl⟩
  have T1 : Hid (Tri w (.slice aa m ca) (.slice ab n cb) w1) := Lib.hid (by rw [hw1]; exact Tri.start _ _ _)
  go_enter Try.func20, Try.ntmps20
  go_wp2_with fail
  rw [← hw1]
  clear hw1
  have d0 := T1.out.bA.c
  have d1 := T1.out.bB.c
  go_wp2_with fail
  refine (C.out w1 T1.out.bel).mono ?_
  rintro e w2 ⟨rfl, b2⟩
  have T2 := Lib.hid (T1.out.up b2)
  clear b2 T1 d0 d1
  have dR := T2.out.bR.c
  have fR := T2.out.bR.fr 0
  go_wp2_with fail
  have FIN := finS (w := w) (famNil _ (w.heap.size + 1 + 1 + 1)) T2.out.bel (by omega) (by omega) T2.out.bR
  refine bodyPost_ret (results_box1_tmp rfl _ _ (w.heap.size + 1 + 1) _ _ rfl FIN.1 t2 (by kernel_rfl)) rfl ?_
  exact ⟨_, _, rfl, FIN.2.1, sepNil, FIN.2.2⟩

set_option maxHeartbeats 2000000 in
theorem specCom_ok (aa ab : Option Addr) (m n ca cb : Nat) (w : World) (L1 L2 L : List (List Int)) (C : Hid (∀ wx, Below w.heap.size w wx → Calls Try.prog 46 #[.agg #[.slice aa m ca], .agg #[.slice ab n cb]] wx (SaysI 0 wx)))
    (S1 : Hid (∀ wx, Below w.heap.size w wx → Calls Try.prog 47 #[.slice aa m ca, .slice ab n cb] wx (TermsPost L1 wx))) (S2 : Hid (∀ wx, Below w.heap.size w wx → Calls Try.prog 47 #[.slice ab n cb, .slice aa m ca] wx (TermsPost L2 wx)))
    (S3 : Hid (∀ wx V1 V2 U1 U2 B1 B2, FamL wx B1 V1 U1 L1 → FamL wx B2 V2 U2 L2 → Calls Try.prog 54 #[V1, V2] wx (TermsPost L wx))) :
    Calls Try.prog 20 #[.agg #[.slice aa m ca], .agg #[.slice ab n cb]] w (ResS L 0 w) := by
  have t2 := Try.underlying26
  obtain ⟨w1, hw1⟩ : ∃ w1, w1 = (((w.alloc (.cells #[.slice aa m ca] 26)).alloc (.cells #[.slice ab n cb] 26)).alloc (.cells #[.slice none 0 0] 26)) := ⟨_, rfl⟩
  have T1 : Hid (Tri w (.slice aa m ca) (.slice ab n cb) w1) := Lib.hid (by rw [hw1]; exact Tri.start _ _ _)
  go_enter Try.func20, Try.ntmps20
  go_wp2_with fail
  rw [← hw1]
  clear hw1
  have d0 := T1.out.bA.c
  have d1 := T1.out.bB.c
  go_wp2_with fail
  refine (C.out w1 T1.out.bel).mono ?_
  rintro e w2 ⟨rfl, b2⟩
  have T2 := Lib.hid (T1.out.up b2)
  clear b2 T1 d0 d1
  have z0 : Two w (.slice aa m ca) (.slice ab n cb) w2.drew := (T2.out.drewN 1).two
  have r0 : Box1 w2.drew (w.heap.size + 1 + 1) 26 (.slice none 0 0) := (T2.out.drewN 1).bR
  have KEEP : Hid (∀ wx, Two w (.slice aa m ca) (.slice ab n cb) wx → (wx.cell? ⟨w.heap.size, 0, none⟩ = some (.slice aa m ca) ∧ wx.cell? ⟨w.heap.size + 1, 0, none⟩ = some (.slice ab n cb) ∧ Two w (.slice aa m ca) (.slice ab n cb) wx)) :=
    Lib.hid (fun wx hb => ⟨hb.bA.c, hb.bB.c, hb⟩)
  have FLAG : True := trivial
  go_wp2_with fail
  go_region_held3 (fun wx => wx.cell? ⟨w.heap.size, 0, none⟩ = some (.slice aa m ca) ∧ wx.cell? ⟨w.heap.size + 1, 0, none⟩ = some (.slice ab n cb) ∧ Two w (.slice aa m ca) (.slice ab n cb) wx)
      (first | exact KEEP.out _ (by assumption) | exact KEEP.out _ (Two.setR (by assumption) _))
      (first
        | (go_at_call 47; have fl := FLAG; clear FLAG fl; refine (S1.out _ (Two.bel (by assumption : Two w _ _ _))).mono ?_; rintro e wq ⟨V1, U1, rfl, F1, _, bq⟩; have zq : Two w (.slice aa m ca) (.slice ab n cb) wq := Two.up' (by assumption) bq; have rq : Box1 wq (w.heap.size + 1 + 1) 26 (.slice none 0 0) := Box1.up (by assumption) bq)
        | (go_at_call 47; refine (S2.out _ (Two.bel (by assumption : Two w _ _ _))).mono ?_; rintro e wp ⟨V2, U2, rfl, F2, _, bp⟩; have zp : Two w (.slice aa m ca) (.slice ab n cb) wp := Two.up' zq (by first | exact bp | exact Below.step1 ((Below.refl _ _).drew) bp); have rp : Box1 wp (w.heap.size + 1 + 1) 26 (.slice none 0 0) := Box1.up rq bp; have F1p := Fam.below F1 bp)
        | (go_at_call 54; refine (S3.out _ _ _ _ _ _ _ F1p F2).mono ?_; rintro e w5 ⟨V5, U5, rfl, F5, s5, b5⟩; obtain ⟨av, cv, rfl, _, _⟩ := F5.head; have z5 : Two w (.slice aa m ca) (.slice ab n cb) w5 := Two.up' zp b5; have r5 : Box1 w5 (w.heap.size + 1 + 1) 26 (.slice none 0 0) := Box1.up rp b5; have dR := r5.c; have fR := r5.fr 0; have HF5 := Lib.hid F5; have HS5 := Lib.hid s5; have HZP := Lib.hid zp.bel.size; have HRP := Lib.hid rp.lt))
  all_goals
      have hp := HZP.out
      have hrp := HRP.out
      go_wp2_with fail
      have FIN := finS (w := w) HF5.out z5.bel (by omega) (by omega) r5
      refine bodyPost_ret (results_box1_tmp rfl _ _ (w.heap.size + 1 + 1) _ _ rfl FIN.1 t2 (by kernel_rfl)) rfl ?_
      exact ⟨_, _, rfl, FIN.2.1, HS5.out, FIN.2.2⟩

theorem implCom_bad (aa ab : Option Addr) (m n ca cb : Nat) (w : World) (cd : Int) (hcd : (cd != 0) = true) (C : Hid (∀ wx, Below w.heap.size w wx → Calls Try.prog 49 #[.agg #[.slice aa m ca], .agg #[.slice ab n cb]] wx (SaysI cd wx))) :
    Calls Try.prog 21 #[.agg #[.slice aa m ca], .agg #[.slice ab n cb]] w (ResS [] cd w) := by
  have t2 := Try.underlying26
  obtain ⟨w1, hw1⟩ : ∃ w1, w1 = (((w.alloc (.cells #[.slice aa m ca] 26)).alloc (.cells #[.slice ab n cb] 26)).alloc (.cells #[.slice none 0 0] 26)) := ⟨_, rfl⟩
  have T1 : Hid (Tri w (.slice aa m ca) (.slice ab n cb) w1) := Lib.hid (by rw [hw1]; exact Tri.start _ _ _)
  go_enter Try.func21, Try.ntmps21
  go_wp2_with fail
  rw [← hw1]
  clear hw1
  have d0 := T1.out.bA.c
  have d1 := T1.out.bB.c
  go_wp2_with fail
  refine (C.out w1 T1.out.bel).mono ?_
  rintro e w2 ⟨rfl, b2⟩
  have T2 := Lib.hid (T1.out.up b2)
  clear b2 T1 d0 d1
  have dR := T2.out.bR.c
  have fR := T2.out.bR.fr 0
  go_wp2_with fail
  have FIN := finS (w := w) (famNil _ (w.heap.size + 1 + 1 + 1)) T2.out.bel (by omega) (by omega) T2.out.bR
  refine bodyPost_ret (results_box1_tmp rfl _ _ (w.heap.size + 1 + 1) _ _ rfl FIN.1 t2 (by kernel_rfl)) rfl ?_
  exact ⟨_, _, rfl, FIN.2.1, sepNil, FIN.2.2⟩

set_option maxHeartbeats 2000000 in
theorem implCom_ok (aa ab : Option Addr) (m n ca cb : Nat) (w : World) (L1 L2 L : List (List Int)) (C : Hid (∀ wx, Below w.heap.size w wx → Calls Try.prog 49 #[.agg #[.slice aa m ca], .agg #[.slice ab n cb]] wx (SaysI 0 wx)))
    (S1 : Hid (∀ wx, Below w.heap.size w wx → Calls Try.prog 50 #[.agg #[.slice aa m ca], .agg #[.slice ab n cb]] wx (ResT L1 wx))) (S2 : Hid (∀ wx, Below w.heap.size w wx → Calls Try.prog 50 #[.agg #[.slice ab n cb], .agg #[.slice aa m ca]] wx (ResT L2 wx)))
    (S3 : Hid (∀ wx V1 V2 U1 U2 B1 B2, FamL wx B1 V1 U1 L1 → FamL wx B2 V2 U2 L2 → Calls Try.prog 55 #[.agg #[V1], .agg #[V2]] wx (ResT L wx))) :
    Calls Try.prog 21 #[.agg #[.slice aa m ca], .agg #[.slice ab n cb]] w (ResS L 0 w) := by
  have t2 := Try.underlying26
  obtain ⟨w1, hw1⟩ : ∃ w1, w1 = (((w.alloc (.cells #[.slice aa m ca] 26)).alloc (.cells #[.slice ab n cb] 26)).alloc (.cells #[.slice none 0 0] 26)) := ⟨_, rfl⟩
  have T1 : Hid (Tri w (.slice aa m ca) (.slice ab n cb) w1) := Lib.hid (by rw [hw1]; exact Tri.start _ _ _)
  go_enter Try.func21, Try.ntmps21
  go_wp2_with fail
  rw [← hw1]
  clear hw1
  have d0 := T1.out.bA.c
  have d1 := T1.out.bB.c
  go_wp2_with fail
  refine (C.out w1 T1.out.bel).mono ?_
  rintro e w2 ⟨rfl, b2⟩
  have T2 := Lib.hid (T1.out.up b2)
  clear b2 T1 d0 d1
  have z0 : Two w (.slice aa m ca) (.slice ab n cb) w2.drew := (T2.out.drewN 1).two
  have r0 : Box1 w2.drew (w.heap.size + 1 + 1) 26 (.slice none 0 0) := (T2.out.drewN 1).bR
  have KEEP : Hid (∀ wx, Two w (.slice aa m ca) (.slice ab n cb) wx → (wx.cell? ⟨w.heap.size, 0, none⟩ = some (.slice aa m ca) ∧ wx.cell? ⟨w.heap.size + 1, 0, none⟩ = some (.slice ab n cb) ∧ Two w (.slice aa m ca) (.slice ab n cb) wx)) :=
    Lib.hid (fun wx hb => ⟨hb.bA.c, hb.bB.c, hb⟩)
  have FLAG : True := trivial
  go_wp2_with fail
  go_region_held3 (fun wx => wx.cell? ⟨w.heap.size, 0, none⟩ = some (.slice aa m ca) ∧ wx.cell? ⟨w.heap.size + 1, 0, none⟩ = some (.slice ab n cb) ∧ Two w (.slice aa m ca) (.slice ab n cb) wx)
      (first | exact KEEP.out _ (by assumption) | exact KEEP.out _ (Two.setR (by assumption) _))
      (first
        | (go_at_call 50; have fl := FLAG; clear FLAG fl; refine (S1.out _ (Two.bel (by assumption : Two w _ _ _))).mono ?_; rintro e wq ⟨V1, U1, rfl, F1, _, bq⟩; have zq : Two w (.slice aa m ca) (.slice ab n cb) wq := Two.up' (by assumption) bq; have rq : Box1 wq (w.heap.size + 1 + 1) 26 (.slice none 0 0) := Box1.up (by assumption) bq)
        | (go_at_call 50; refine (S2.out _ (Two.bel (by assumption : Two w _ _ _))).mono ?_; rintro e wp ⟨V2, U2, rfl, F2, _, bp⟩; have zp : Two w (.slice aa m ca) (.slice ab n cb) wp := Two.up' zq (by first | exact bp | exact Below.step1 ((Below.refl _ _).drew) bp); have rp : Box1 wp (w.heap.size + 1 + 1) 26 (.slice none 0 0) := Box1.up rq bp; have F1p := Fam.below F1 bp)
        | (go_at_call 55; refine (S3.out _ _ _ _ _ _ _ F1p F2).mono ?_; rintro e w5 ⟨V5, U5, rfl, F5, s5, b5⟩; obtain ⟨av, cv, rfl, _, _⟩ := F5.head; have z5 : Two w (.slice aa m ca) (.slice ab n cb) w5 := Two.up' zp b5; have r5 : Box1 w5 (w.heap.size + 1 + 1) 26 (.slice none 0 0) := Box1.up rp b5; have dR := r5.c; have fR := r5.fr 0; have HF5 := Lib.hid F5; have HS5 := Lib.hid s5; have HZP := Lib.hid zp.bel.size; have HRP := Lib.hid rp.lt))
  all_goals
      have hp := HZP.out
      have hrp := HRP.out
      go_wp2_with fail
      have FIN := finS (w := w) HF5.out z5.bel (by omega) (by omega) r5
      refine bodyPost_ret (results_box1_tmp rfl _ _ (w.heap.size + 1 + 1) _ _ rfl FIN.1 t2 (by kernel_rfl)) rfl ?_
      exact ⟨_, _, rfl, FIN.2.1, HS5.out, FIN.2.2⟩

theorem comSum {L1 L2 : List (List Int)} (h1 : ∀ x ∈ L1, x.length ≤ 5 ∧ ∀ z ∈ x, 0 ≤ z ∧ z ≤ 10000000) (h2 : ∀ x ∈ L2, x.length ≤ 5 ∧ ∀ z ∈ x, 0 ≤ z ∧ z ≤ 10000000) (n1 : L1.length ≤ 15000) (n2 : L2.length ≤ 15000) (wx : World) (V1 V2 : Value) (U1 U2 : Nat → Value) (B1 B2 : Nat) (f1 : FamL wx B1 V1 U1 L1) (f2 : FamL wx B2 V2 U2 L2) :
    Calls Try.prog 54 #[V1, V2] wx (TermsPost (mrg L1 L2) wx) := by
  have k := l01Sum_any V1 V2 L1.length L2.length (rowsOf L1) (rowsOf L2) U1 U2 B1 B2 wx f1 f2 (by omega) (by omega) (fun i _ => by have := rows_short h1 i; omega) (fun i _ => by have := rows_short h2 i; omega)
  rw [rowsOf_all, rowsOf_all] at k
  exact k
theorem comPlus {L1 L2 : List (List Int)} (a1 : Asc L1) (a2 : Asc L2) (h1 : ∀ x ∈ L1, x.length ≤ 5 ∧ ∀ z ∈ x, 0 ≤ z ∧ z ≤ 10000000) (h2 : ∀ x ∈ L2, x.length ≤ 5 ∧ ∀ z ∈ x, 0 ≤ z ∧ z ≤ 10000000) (n1 : L1.length ≤ 15000) (n2 : L2.length ≤ 15000) (wx : World) (V1 V2 : Value) (U1 U2 : Nat → Value) (B1 B2 : Nat) (f1 : FamL wx B1 V1 U1 L1) (f2 : FamL wx B2 V2 U2 L2) :
    Calls Try.prog 55 #[.agg #[V1], .agg #[V2]] wx (ResT (mrg L1 L2) wx) := by
  obtain ⟨aa, ca, rfl, _, _⟩ := f1.head
  obtain ⟨ab, cb, rfl, _, _⟩ := f2.head
  refine plus_any aa ab L1.length L2.length ca cb wx (mrg L1 L2) (Lib.hid fun wy hy => ?_)
  have k := sumOfTerms_any (.slice aa L1.length ca) (.slice ab L2.length cb) L1.length L2.length (rowsOf L1) (rowsOf L2) wy (Fam.below f1 hy).rdss (Fam.below f2 hy).rdss (by omega) (by omega) (fun i _ => rows_short h1 i) (fun i _ => rows_short h2 i) (fun i _ => rows_wf h1 i) (fun i _ => rows_wf h2 i) (by rw [rowsOf_all]; exact a1) (by rw [rowsOf_all]; exact a2) sort_any
  rw [rowsOf_all, rowsOf_all] at k
  exact k
theorem mrg_ok {L1 L2 : List (List Int)} (h1 : ∀ x ∈ L1, x.length ≤ 5 ∧ ∀ z ∈ x, 0 ≤ z ∧ z ≤ 10000000) (h2 : ∀ x ∈ L2, x.length ≤ 5 ∧ ∀ z ∈ x, 0 ≤ z ∧ z ≤ 10000000) : ∀ x ∈ mrg L1 L2, x.length ≤ 5 ∧ ∀ z ∈ x, 0 ≤ z ∧ z ≤ 10000000 := fun x hx =>
  (mrg_sub _ _ _ hx).elim (h1 x) (h2 x)
theorem CommutatorOf_both (m n : Nat) (X Y : Nat → List Int) :
    ∃ (L : List (List Int)) (cd : Int), L.length ≤ 30000 ∧ (∀ i, (rowsOf L i).length ≤ 20) ∧
      (∀ va vb VA VB Ba Bb w, Fam w Ba va m VA X → Fam w Bb vb n VB Y → Calls Try.prog 20 #[.agg #[va], .agg #[vb]] w (ResS L cd w)) ∧
      (∀ va vb w, RdSS w va m X → RdSS w vb n Y → Calls Try.prog 21 #[.agg #[va], .agg #[vb]] w (ResS L cd w)) := by
  by_cases h : codeOf X Y m n = 0
  · have hF := fac_of h
    have hG := hF.swap
    refine ⟨mrg (prodT X Y m n) (prodT Y X n m), 0, ?_, rows_short (mrg_ok hF.ok hG.ok), ?_, ?_⟩
    · have := mrg_le (prodT X Y m n) (prodT Y X n m)
      have := hF.few
      have := hG.few
      omega
    · intro va vb VA VB Ba Bb w ha hb
      obtain ⟨aa, ca, rfl⟩ := ha.rdss.head
      obtain ⟨ab, cb, rfl⟩ := hb.rdss.head
      exact specCom_ok aa ab m n ca cb w _ _ _ (Lib.hid fun wx hx => by have := code_spec X Y m n _ _ wx (ha.rdss.below hx) (hb.rdss.below hx); rwa [h] at this) (Lib.hid fun wx hx => specTimes hF _ _ VA VB Ba Bb wx (ha.below hx) (hb.below hx)) (Lib.hid fun wx hx => specTimes hG _ _ VB VA Bb Ba wx (hb.below hx) (ha.below hx))
        (Lib.hid fun wx V1 V2 U1 U2 B1 B2 f1 f2 => comSum hF.ok hG.ok hF.few hG.few wx V1 V2 U1 U2 B1 B2 f1 f2)
    · intro va vb w ha hb
      obtain ⟨aa, ca, rfl⟩ := ha.head
      obtain ⟨ab, cb, rfl⟩ := hb.head
      exact implCom_ok aa ab m n ca cb w _ _ _ (Lib.hid fun wx hx => by have := code_impl X Y m n _ _ wx (ha.below hx) (hb.below hx); rwa [h] at this) (Lib.hid fun wx hx => implTimes hF _ _ wx (ha.below hx) (hb.below hx)) (Lib.hid fun wx hx => implTimes hG _ _ wx (hb.below hx) (ha.below hx))
        (Lib.hid fun wx V1 V2 U1 U2 B1 B2 f1 f2 => comPlus (prodT_spec X Y m n).1 (prodT_spec Y X n m).1 hF.ok hG.ok hF.few hG.few wx V1 V2 U1 U2 B1 B2 f1 f2)
  · have hne : (codeOf X Y m n != 0) = true := by rw [bne_iff_ne]; exact h
    refine ⟨[], codeOf X Y m n, Nat.zero_le _, fun i => Nat.zero_le _, ?_, ?_⟩
    · intro va vb VA VB Ba Bb w ha hb
      obtain ⟨aa, ca, rfl⟩ := ha.rdss.head
      obtain ⟨ab, cb, rfl⟩ := hb.rdss.head
      exact specCom_bad aa ab m n ca cb w _ hne (Lib.hid fun wx hx => code_spec X Y m n _ _ wx (ha.rdss.below hx) (hb.rdss.below hx))
    · intro va vb w ha hb
      obtain ⟨aa, ca, rfl⟩ := ha.head
      obtain ⟨ab, cb, rfl⟩ := hb.head
      exact implCom_bad aa ab m n ca cb w _ hne (Lib.hid fun wx hx => code_impl X Y m n _ _ wx (ha.below hx) (hb.below hx))
end Go.Proofs.Ytfgkpkdoemnnmaa.Ml
end
section
namespace Go.Proofs.Ytfgkpkdoemnnmaa.Ml
open Go.RowKit
set_option linter.unusedVariables false
set_option maxRecDepth 100000

/-- The two arguments in their boxes. -/
structure Sq2 (w0 : World) (V0 V1 : Value) (w : World) : Prop where
  bel : Below w0.heap.size w0 w
  boxA : Box1 w w0.heap.size 24 V0
  boxB : Box1 w (w0.heap.size + 1) 24 V1
/-- A struct that the law holds: its box and the family. -/
structure OwnF (w0 : World) (g : Nat) (V : Value) (m : Nat) (VS : Nat → Value) (X : Nat → List Int) (w : World) : Prop where
  fam : Fam w w0.heap.size V m VS X
  sep : Sep m VS
  box : Box1 w g 26 V
  ge : w0.heap.size ≤ g

section
variable {w0 w w' : World} {V0 V1 V : Value} {g m : Nat} {VS : Nat → Value} {X : Nat → List Int}
theorem Sq2.start (w : World) (V0 V1 : Value) : Sq2 w V0 V1 ((w.alloc (.cells #[V0] 24)).alloc (.cells #[V1] 24)) := by
  refine ⟨((Below.refl w.heap.size w).alloc (Nat.le_refl _) _).alloc (by simp) _, (Box1.new w _ _).alloc _, ?_⟩
  have := Box1.new (w.alloc (.cells #[V0] 24)) 24 V1
  simpa using this
theorem Sq2.up (h : Sq2 w0 V0 V1 w) (k : Below w.heap.size w w') : Sq2 w0 V0 V1 w' := ⟨h.bel.step1 k, h.boxA.up k, h.boxB.up k⟩
theorem Sq2.alloc (h : Sq2 w0 V0 V1 w) (o : Obj) : Sq2 w0 V0 V1 (w.alloc o) := h.up ((Below.refl _ _).alloc (Nat.le_refl _) _)
theorem OwnF.up (h : OwnF w0 g V m VS X w) (k : Below w.heap.size w w') : OwnF w0 g V m VS X w' := ⟨h.fam.below k, h.sep, h.box.up k, h.ge⟩
theorem OwnF.alloc (h : OwnF w0 g V m VS X w) (o : Obj) : OwnF w0 g V m VS X (w.alloc o) := h.up ((Below.refl _ _).alloc (Nat.le_refl _) _)
theorem OwnF.start (hw : w0.heap.size ≤ w.heap.size) (h : Fam w w0.heap.size V m VS X) (hs : Sep m VS) : OwnF w0 w.heap.size V m VS X (w.alloc (.cells #[V] 26)) :=
  ⟨h.below ((Below.refl _ _).alloc (Nat.le_refl _) _), hs, Box1.new _ _ _, hw⟩
theorem OwnF.stored {x : Value} (h : Box1 w g 26 x) (o : Fam w w0.heap.size V m VS X) (hs : Sep m VS) (hg : w0.heap.size ≤ g) : OwnF w0 g V m VS X (w.setCell ⟨g, 0, none⟩ V) :=
  ⟨⟨own_sameblock o.out fun q hq => heap_setCell_other _ _ _ _ (h.ne_own o.out (by decide) q hq), fun i hi => own_sameblock (o.inn i hi) fun q hq => heap_setCell_other _ _ _ _ (h.ne_own (o.inn i hi) (by decide) q hq)⟩, hs, h.set V, hg⟩
theorem OwnF.rest {g' n : Nat} {V' : Value} {VB : Nat → Value} {Y : Nat → List Int} (h : OwnF w0 g V m VS X w) (k : OwnF w0 g' V' n VB Y w) (r : MRestK n VB w w') (ap : FApart m VS n VB) : OwnF w0 g V m VS X w' :=
  ⟨h.fam.rest k.fam r ap, h.sep, h.box.restK (B' := 0) (by decide) k.fam r, h.ge⟩
theorem Sq2.rest {g' n : Nat} {V' : Value} {VB : Nat → Value} {Y : Nat → List Int} (h : Sq2 w0 V0 V1 w) (k : OwnF w0 g' V' n VB Y w) (r : MRestK n VB w w') (b : Below w0.heap.size w w') : Sq2 w0 V0 V1 w' :=
  ⟨h.bel.trans b, h.boxA.restK (B' := 0) (by decide) k.fam r, h.boxB.restK (B' := 0) (by decide) k.fam r⟩

/-- What is kept of a struct that a region made: the block of its box, its lists, its code. -/
def MadeS (w0 wS : World) (cd : Int) (L : List (List Int)) (s6 s7 : Value) (wx : World) : Prop :=
  ∃ (g : Nat) (va : Option Addr) (vc : Nat) (VS : Nat → Value), s6 = .pointer (some ⟨g, 0, none⟩) ∧ s7 = .int .i64 cd ∧ Hid (OwnF w0 g (.slice va L.length vc) L.length VS (rowsOf L) wx) ∧ Hid (Below wS.heap.size wS wx)
end
end Go.Proofs.Ytfgkpkdoemnnmaa.Ml
end
