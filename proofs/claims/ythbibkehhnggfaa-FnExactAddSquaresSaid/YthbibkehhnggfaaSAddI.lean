/-
  spec.AddSquares and impl.AddSquares: the sums. Written by tool/gen_sadd.py.
-/
import Derived.Test.YthbibkehhnggfaaSAdd
namespace Go.Proofs.Ythbibkehhnggfaa
open Go.RowKit
set_option linter.unusedVariables false
set_option maxRecDepth 100000

set_option maxHeartbeats 2000000 in
theorem implAdd_sum0 (aa ab : Option Addr) (m n capa capb : Nat) (w : World) (A : Hid (∀ wx, Below w.heap.size w wx → Calls Try.prog 38 #[.agg #[.slice aa m capa]] wx (SaysB true wx))) (B : Hid (∀ wx, Below w.heap.size w wx → Calls Try.prog 38 #[.agg #[.slice ab n capb]] wx (SaysB true wx))) (hm : m = 0) (L R : List (List Int)) (cd : Int) (S : Hid (∀ wx, Below w.heap.size w wx → Calls Try.prog 27 #[.slice aa m capa, .slice ab n capb] wx fun e w' => ∃ V VS, e = .returned V ∧ FamL w' wx.heap.size V VS L ∧ Sep L.length VS ∧ Below wx.heap.size wx w')) (HR : Hid ((L.length ≤ 2000 ∧ R = L ∧ cd = 0) ∨ (¬ L.length ≤ 2000 ∧ R = [] ∧ cd = 3))) :
    Calls Try.prog 21 #[.agg #[.slice aa m capa], .agg #[.slice ab n capb]] w (ResS R cd w) := by
  subst hm
  have t2 := Try.underlying29
  obtain ⟨w1, hw1⟩ : ∃ w1, w1 = (((w.alloc (.cells #[.slice aa 0 capa] 29)).alloc (.cells #[.slice ab n capb] 29)).alloc (.cells #[.slice none 0 0] 29)) := ⟨_, rfl⟩
  have T1 : Hid (Tri w (.slice aa 0 capa) (.slice ab n capb) w1) := Lib.hid (by rw [hw1]; exact Tri.start _ _ _)
  go_enter Try.func21, Try.ntmps21
  go_wp2_with fail
  rw [← hw1]
  clear hw1
  refine (A.out w1 T1.out.bel).mono ?_
  rintro e w2 ⟨rfl, b2⟩
  have T2 := Lib.hid (T1.out.up b2)
  clear b2 T1
  have d1 := T2.out.bB.c
  go_wp2_with fail
  clear d1
  refine (B.out w2 T2.out.bel).mono ?_
  rintro e w3 ⟨rfl, b3⟩
  have T3 := Lib.hid (T2.out.up b3)
  clear b3 T2
  have ZA : Hid (∀ wx, Calls Try.prog 39 #[.agg #[.slice aa 0 capa]] wx fun e w' => e = .returned (.bool true) ∧ Below wx.heap.size wx w') := Lib.hid fun wx => by
    have := isZero_any aa 0 capa wx
    rw [decide_eq_true (by omega)] at this
    exact this
  have d0 := T3.out.bA.c
  have d1 := T3.out.bB.c
  go_wp2_with fail
  go_region_with (first | (go_at_call 39; refine (ZA.out _).mono ?_; rintro e wq ⟨rfl, bq⟩; have Tq := (T3.out.drewN 1).up bq; have dq0 := Tq.bA.c; have dq1 := Tq.bB.c))
  all_goals
    have T4 := Lib.hid Tq
    clear Tq dq0 dq1
    have hsz4 := T4.out.size
    have d0 := T4.out.bA.c
    have d1 := T4.out.bB.c
    go_wp2_with fail
    refine (S.out _ T4.out.bel).mono ?_
    rintro e w5 ⟨V, VS, rfl, hF, hS, hb5⟩
    obtain ⟨av, cv, rfl, _, _⟩ := hF.head
    have HF := Lib.hid hF
    have HS := Lib.hid hS
    have T5 := Lib.hid (T4.out.up hb5)
    clear hF hS hb5
    rcases HR.out with ⟨h, rfl, rfl⟩ | ⟨h, rfl, rfl⟩
    · have hle : ¬ (2000 : Int) < (R.length : Int) := by omega
      have dR := T5.out.bR.c
      have fR := T5.out.bR.fr 0
      have FIN := finS (w := w) HF.out T5.out.bel (by omega) (by omega) T5.out.bR
      clear d0 d1
      go_wp2_with fail
      refine bodyPost_ret (results_box1_tmp rfl _ _ (w.heap.size + 1 + 1) _ _ rfl FIN.1 t2 (by kernel_rfl)) rfl ?_
      exact ⟨_, _, rfl, FIN.2.1, HS.out, FIN.2.2⟩
    · have hle : (2000 : Int) < (L.length : Int) := by omega
      clear HF HS
      have dR := T5.out.bR.c
      have fR := T5.out.bR.fr 0
      have FIN := finS (w := w) (famNil _ (w.heap.size + 1 + 1 + 1)) T5.out.bel (by omega) (by omega) T5.out.bR
      clear d0 d1
      go_wp2_with fail
      refine bodyPost_ret (results_box1_tmp rfl _ _ (w.heap.size + 1 + 1) _ _ rfl FIN.1 t2 (by kernel_rfl)) rfl ?_
      exact ⟨_, _, rfl, FIN.2.1, sepNil, FIN.2.2⟩

set_option maxHeartbeats 2000000 in
theorem implAdd_sum1 (aa ab : Option Addr) (m n capa capb : Nat) (w : World) (A : Hid (∀ wx, Below w.heap.size w wx → Calls Try.prog 38 #[.agg #[.slice aa m capa]] wx (SaysB true wx))) (B : Hid (∀ wx, Below w.heap.size w wx → Calls Try.prog 38 #[.agg #[.slice ab n capb]] wx (SaysB true wx))) (hm : 0 < m) (hn : n = 0) (L R : List (List Int)) (cd : Int) (S : Hid (∀ wx, Below w.heap.size w wx → Calls Try.prog 27 #[.slice aa m capa, .slice ab n capb] wx fun e w' => ∃ V VS, e = .returned V ∧ FamL w' wx.heap.size V VS L ∧ Sep L.length VS ∧ Below wx.heap.size wx w')) (HR : Hid ((L.length ≤ 2000 ∧ R = L ∧ cd = 0) ∨ (¬ L.length ≤ 2000 ∧ R = [] ∧ cd = 3))) :
    Calls Try.prog 21 #[.agg #[.slice aa m capa], .agg #[.slice ab n capb]] w (ResS R cd w) := by
  subst hn
  have t2 := Try.underlying29
  obtain ⟨w1, hw1⟩ : ∃ w1, w1 = (((w.alloc (.cells #[.slice aa m capa] 29)).alloc (.cells #[.slice ab 0 capb] 29)).alloc (.cells #[.slice none 0 0] 29)) := ⟨_, rfl⟩
  have T1 : Hid (Tri w (.slice aa m capa) (.slice ab 0 capb) w1) := Lib.hid (by rw [hw1]; exact Tri.start _ _ _)
  go_enter Try.func21, Try.ntmps21
  go_wp2_with fail
  rw [← hw1]
  clear hw1
  refine (A.out w1 T1.out.bel).mono ?_
  rintro e w2 ⟨rfl, b2⟩
  have T2 := Lib.hid (T1.out.up b2)
  clear b2 T1
  have d1 := T2.out.bB.c
  go_wp2_with fail
  clear d1
  refine (B.out w2 T2.out.bel).mono ?_
  rintro e w3 ⟨rfl, b3⟩
  have T3 := Lib.hid (T2.out.up b3)
  clear b3 T2
  have ZA : Hid (∀ wx, Calls Try.prog 39 #[.agg #[.slice aa m capa]] wx fun e w' => e = .returned (.bool false) ∧ Below wx.heap.size wx w') := Lib.hid fun wx => by
    have := isZero_any aa m capa wx
    rw [decide_eq_false (by omega)] at this
    exact this
  have ZB : Hid (∀ wx, Calls Try.prog 39 #[.agg #[.slice ab 0 capb]] wx fun e w' => e = .returned (.bool true) ∧ Below wx.heap.size wx w') := Lib.hid fun wx => by
    have := isZero_any ab 0 capb wx
    rw [decide_eq_true (by omega)] at this
    exact this
  clear hm
  have d0 := T3.out.bA.c
  have d1 := T3.out.bB.c
  go_wp2_with fail
  go_region_with (first | (go_at_call 39; refine (ZA.out _).mono ?_; rintro e wq ⟨rfl, bq⟩; have Tq := (T3.out.drewN 1).up bq; have dq0 := Tq.bA.c; have dq1 := Tq.bB.c) | (go_at_call 39; refine (ZB.out _).mono ?_; rintro e ws ⟨rfl, bs⟩; have Ts := Tq.up bs; have ds0 := Ts.bA.c; have ds1 := Ts.bB.c))
  all_goals
    have T4 := Lib.hid Ts
    clear Tq dq0 dq1 Ts ds0 ds1
    have hsz4 := T4.out.size
    have d0 := T4.out.bA.c
    have d1 := T4.out.bB.c
    go_wp2_with fail
    refine (S.out _ T4.out.bel).mono ?_
    rintro e w5 ⟨V, VS, rfl, hF, hS, hb5⟩
    obtain ⟨av, cv, rfl, _, _⟩ := hF.head
    have HF := Lib.hid hF
    have HS := Lib.hid hS
    have T5 := Lib.hid (T4.out.up hb5)
    clear hF hS hb5
    rcases HR.out with ⟨h, rfl, rfl⟩ | ⟨h, rfl, rfl⟩
    · have hle : ¬ (2000 : Int) < (R.length : Int) := by omega
      have dR := T5.out.bR.c
      have fR := T5.out.bR.fr 0
      have FIN := finS (w := w) HF.out T5.out.bel (by omega) (by omega) T5.out.bR
      clear d0 d1
      go_wp2_with fail
      refine bodyPost_ret (results_box1_tmp rfl _ _ (w.heap.size + 1 + 1) _ _ rfl FIN.1 t2 (by kernel_rfl)) rfl ?_
      exact ⟨_, _, rfl, FIN.2.1, HS.out, FIN.2.2⟩
    · have hle : (2000 : Int) < (L.length : Int) := by omega
      clear HF HS
      have dR := T5.out.bR.c
      have fR := T5.out.bR.fr 0
      have FIN := finS (w := w) (famNil _ (w.heap.size + 1 + 1 + 1)) T5.out.bel (by omega) (by omega) T5.out.bR
      clear d0 d1
      go_wp2_with fail
      refine bodyPost_ret (results_box1_tmp rfl _ _ (w.heap.size + 1 + 1) _ _ rfl FIN.1 t2 (by kernel_rfl)) rfl ?_
      exact ⟨_, _, rfl, FIN.2.1, sepNil, FIN.2.2⟩
end Go.Proofs.Ythbibkehhnggfaa
