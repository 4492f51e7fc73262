/-
  spec.AddSquares and impl.AddSquares: the sums. Written by tool/gen_sadd.py.
-/
import Derived.Test.YthbibkehhnggfaaSAdd
namespace Go.Proofs.Ythbibkehhnggfaa
open Go.RowKit
set_option linter.unusedVariables false
set_option maxRecDepth 100000

set_option maxHeartbeats 2000000 in
theorem specAdd_sum0 (aa ab : Option Addr) (m n capa capb : Nat) (w : World) (A : Hid (∀ wx, Below w.heap.size w wx → Calls Try.prog 35 #[.agg #[.slice aa m capa]] wx (SaysB true wx))) (B : Hid (∀ wx, Below w.heap.size w wx → Calls Try.prog 35 #[.agg #[.slice ab n capb]] wx (SaysB true wx))) (hm : m = 0) (L R : List (List Int)) (cd : Int) (S : Hid (∀ wx, Below w.heap.size w wx → Calls Try.prog 24 #[.slice aa m capa, .slice ab n capb] wx fun e w' => ∃ V VS, e = .returned V ∧ FamL w' wx.heap.size V VS L ∧ Sep L.length VS ∧ Below wx.heap.size wx w')) (HR : Hid ((L.length ≤ 2000 ∧ R = L ∧ cd = 0) ∨ (¬ L.length ≤ 2000 ∧ R = [] ∧ cd = 3))) :
    Calls Try.prog 19 #[.agg #[.slice aa m capa], .agg #[.slice ab n capb]] w (ResS R cd w) := by
  subst hm
  have t2 := Try.underlying29
  obtain ⟨w1, hw1⟩ : ∃ w1, w1 = (((w.alloc (.cells #[.slice aa 0 capa] 29)).alloc (.cells #[.slice ab n capb] 29)).alloc (.cells #[.slice none 0 0] 29)) := ⟨_, rfl⟩
  have T1 : Hid (Tri w (.slice aa 0 capa) (.slice ab n capb) w1) := Lib.hid (by rw [hw1]; exact Tri.start _ _ _)
  go_enter Try.func19, Try.ntmps19
  go_wp2_with fail
  rw [← hw1]
  clear hw1
  refine (A.out w1 T1.out.bel).mono ?_
  rintro e w2 ⟨rfl, b2⟩
  have T2 := Lib.hid (T1.out.up b2)
  clear b2 T1
  have d1 := T2.out.bB.c
  go_wp2_with fail
  clear d1
  refine (B.out w2 T2.out.bel).mono ?_
  rintro e w3 ⟨rfl, b3⟩
  have T3 := Lib.hid (T2.out.up b3)
  clear b3 T2
  have d0 := T3.out.bA.c
  have d1 := T3.out.bB.c
  go_wp2_with fail
  go_quiet (fail)
  have T4 := Lib.hid (T3.out.drewN nq)
  clear d0 d1
  have d0 := T4.out.bA.c
  have d1 := T4.out.bB.c
  generalize w3.drewN nq = w4 at *
  have hsz4 := T4.out.size
  go_wp2_with fail
  refine (S.out w4 T4.out.bel).mono ?_
  rintro e w5 ⟨V, VS, rfl, hF, hS, hb5⟩
  obtain ⟨av, cv, rfl, _, _⟩ := hF.head
  have HF := Lib.hid hF
  have HS := Lib.hid hS
  have T5 := Lib.hid (T4.out.up hb5)
  clear hF hS hb5 d0 d1
  go_wp2_with fail
  rcases HR.out with ⟨h, rfl, rfl⟩ | ⟨h, rfl, rfl⟩
  · refine (l03Fit_yes _ _ _ _ h).mono ?_
    rintro e w6 ⟨rfl, b6⟩
    have T6 := Lib.hid (T5.out.up b6)
    have F6 := Lib.hid (HF.out.below b6)
    clear b6
    have T9 := Lib.hid (T6.out.up ((Below.refl _ _).alloc (Nat.le_refl _) (.cells #[.slice av R.length cv] 29)))
    have dR := T9.out.bR.c
    have fR := T9.out.bR.fr 0
    go_wp2_with fail
    have FIN := finS (w := w) (F6.out.below ((Below.refl _ _).alloc (Nat.le_refl _) (.cells #[.slice av R.length cv] 29))) T9.out.bel (by omega) (by omega) T9.out.bR
    refine bodyPost_ret (results_box1_tmp rfl _ _ (w.heap.size + 1 + 1) _ _ rfl FIN.1 t2 (by kernel_rfl)) rfl ?_
    exact ⟨_, _, rfl, FIN.2.1, HS.out, FIN.2.2⟩
  · refine (l03Fit_no _ _ _ _ (by omega)).mono ?_
    rintro e w6 ⟨rfl, b6⟩
    have T6 := Lib.hid (T5.out.up b6)
    clear b6
    have T9 := Lib.hid (T6.out.up ((Below.refl _ _).alloc (Nat.le_refl _) (.cells #[.slice none 0 0] 29)))
    have dR := T9.out.bR.c
    have fR := T9.out.bR.fr 0
    go_wp2_with fail
    have FIN := finS (w := w) (famNil _ (w.heap.size + 1 + 1 + 1)) T9.out.bel (by omega) (by omega) T9.out.bR
    refine bodyPost_ret (results_box1_tmp rfl _ _ (w.heap.size + 1 + 1) _ _ rfl FIN.1 t2 (by kernel_rfl)) rfl ?_
    exact ⟨_, _, rfl, FIN.2.1, sepNil, FIN.2.2⟩

set_option maxHeartbeats 2000000 in
theorem specAdd_sum1 (aa ab : Option Addr) (m n capa capb : Nat) (w : World) (A : Hid (∀ wx, Below w.heap.size w wx → Calls Try.prog 35 #[.agg #[.slice aa m capa]] wx (SaysB true wx))) (B : Hid (∀ wx, Below w.heap.size w wx → Calls Try.prog 35 #[.agg #[.slice ab n capb]] wx (SaysB true wx))) (hm : 0 < m) (hn : n = 0) (L R : List (List Int)) (cd : Int) (S : Hid (∀ wx, Below w.heap.size w wx → Calls Try.prog 24 #[.slice aa m capa, .slice ab n capb] wx fun e w' => ∃ V VS, e = .returned V ∧ FamL w' wx.heap.size V VS L ∧ Sep L.length VS ∧ Below wx.heap.size wx w')) (HR : Hid ((L.length ≤ 2000 ∧ R = L ∧ cd = 0) ∨ (¬ L.length ≤ 2000 ∧ R = [] ∧ cd = 3))) :
    Calls Try.prog 19 #[.agg #[.slice aa m capa], .agg #[.slice ab n capb]] w (ResS R cd w) := by
  subst hn
  have hm' : (0 : Int) < (m : Int) := by omega
  have t2 := Try.underlying29
  obtain ⟨w1, hw1⟩ : ∃ w1, w1 = (((w.alloc (.cells #[.slice aa m capa] 29)).alloc (.cells #[.slice ab 0 capb] 29)).alloc (.cells #[.slice none 0 0] 29)) := ⟨_, rfl⟩
  have T1 : Hid (Tri w (.slice aa m capa) (.slice ab 0 capb) w1) := Lib.hid (by rw [hw1]; exact Tri.start _ _ _)
  go_enter Try.func19, Try.ntmps19
  go_wp2_with fail
  rw [← hw1]
  clear hw1
  refine (A.out w1 T1.out.bel).mono ?_
  rintro e w2 ⟨rfl, b2⟩
  have T2 := Lib.hid (T1.out.up b2)
  clear b2 T1
  have d1 := T2.out.bB.c
  go_wp2_with fail
  clear d1
  refine (B.out w2 T2.out.bel).mono ?_
  rintro e w3 ⟨rfl, b3⟩
  have T3 := Lib.hid (T2.out.up b3)
  clear b3 T2
  have d0 := T3.out.bA.c
  have d1 := T3.out.bB.c
  go_wp2_with fail
  go_quiet (fail)
  have T4 := Lib.hid (T3.out.drewN nq)
  clear d0 d1
  have d0 := T4.out.bA.c
  have d1 := T4.out.bB.c
  generalize w3.drewN nq = w4 at *
  have hsz4 := T4.out.size
  go_wp2_with fail
  refine (S.out w4 T4.out.bel).mono ?_
  rintro e w5 ⟨V, VS, rfl, hF, hS, hb5⟩
  obtain ⟨av, cv, rfl, _, _⟩ := hF.head
  have HF := Lib.hid hF
  have HS := Lib.hid hS
  have T5 := Lib.hid (T4.out.up hb5)
  clear hF hS hb5 d0 d1
  go_wp2_with fail
  rcases HR.out with ⟨h, rfl, rfl⟩ | ⟨h, rfl, rfl⟩
  · refine (l03Fit_yes _ _ _ _ h).mono ?_
    rintro e w6 ⟨rfl, b6⟩
    have T6 := Lib.hid (T5.out.up b6)
    have F6 := Lib.hid (HF.out.below b6)
    clear b6
    have T9 := Lib.hid (T6.out.up ((Below.refl _ _).alloc (Nat.le_refl _) (.cells #[.slice av R.length cv] 29)))
    have dR := T9.out.bR.c
    have fR := T9.out.bR.fr 0
    go_wp2_with fail
    have FIN := finS (w := w) (F6.out.below ((Below.refl _ _).alloc (Nat.le_refl _) (.cells #[.slice av R.length cv] 29))) T9.out.bel (by omega) (by omega) T9.out.bR
    refine bodyPost_ret (results_box1_tmp rfl _ _ (w.heap.size + 1 + 1) _ _ rfl FIN.1 t2 (by kernel_rfl)) rfl ?_
    exact ⟨_, _, rfl, FIN.2.1, HS.out, FIN.2.2⟩
  · refine (l03Fit_no _ _ _ _ (by omega)).mono ?_
    rintro e w6 ⟨rfl, b6⟩
    have T6 := Lib.hid (T5.out.up b6)
    clear b6
    have T9 := Lib.hid (T6.out.up ((Below.refl _ _).alloc (Nat.le_refl _) (.cells #[.slice none 0 0] 29)))
    have dR := T9.out.bR.c
    have fR := T9.out.bR.fr 0
    go_wp2_with fail
    have FIN := finS (w := w) (famNil _ (w.heap.size + 1 + 1 + 1)) T9.out.bel (by omega) (by omega) T9.out.bR
    refine bodyPost_ret (results_box1_tmp rfl _ _ (w.heap.size + 1 + 1) _ _ rfl FIN.1 t2 (by kernel_rfl)) rfl ?_
    exact ⟨_, _, rfl, FIN.2.1, sepNil, FIN.2.2⟩

set_option maxHeartbeats 2000000 in
theorem specAdd_sum2 (aa ab : Option Addr) (m n capa capb : Nat) (w : World) (A : Hid (∀ wx, Below w.heap.size w wx → Calls Try.prog 35 #[.agg #[.slice aa m capa]] wx (SaysB true wx))) (B : Hid (∀ wx, Below w.heap.size w wx → Calls Try.prog 35 #[.agg #[.slice ab n capb]] wx (SaysB true wx))) (b1 o1 b2 o2 : Nat) (v1 v2 : Value) (x : Int) (ea : aa = some ⟨b1, o1, none⟩) (eb : ab = some ⟨b2, o2, none⟩) (ca : w.cell? ⟨b1, o1, none⟩ = some v1) (cb : w.cell? ⟨b2, o2, none⟩ = some v2) (hx : DegIs w v1 x) (hy : DegIs w v2 x) (hm : 0 < m) (hn : 0 < n) (L R : List (List Int)) (cd : Int) (S : Hid (∀ wx, Below w.heap.size w wx → Calls Try.prog 24 #[.slice aa m capa, .slice ab n capb] wx fun e w' => ∃ V VS, e = .returned V ∧ FamL w' wx.heap.size V VS L ∧ Sep L.length VS ∧ Below wx.heap.size wx w')) (HR : Hid ((L.length ≤ 2000 ∧ R = L ∧ cd = 0) ∨ (¬ L.length ≤ 2000 ∧ R = [] ∧ cd = 3))) :
    Calls Try.prog 19 #[.agg #[.slice aa m capa], .agg #[.slice ab n capb]] w (ResS R cd w) := by
  subst ea
  subst eb
  have CA := Lib.hid ca
  have CB := Lib.hid cb
  have HX := Lib.hid hx
  have HY := Lib.hid hy
  have hm' : (0 : Int) < (m : Int) := by omega
  have hn' : (0 : Int) < (n : Int) := by omega
  clear ca cb hx hy
  have t2 := Try.underlying29
  obtain ⟨w1, hw1⟩ : ∃ w1, w1 = (((w.alloc (.cells #[.slice (some ⟨b1, o1, none⟩) m capa] 29)).alloc (.cells #[.slice (some ⟨b2, o2, none⟩) n capb] 29)).alloc (.cells #[.slice none 0 0] 29)) := ⟨_, rfl⟩
  have T1 : Hid (Tri w (.slice (some ⟨b1, o1, none⟩) m capa) (.slice (some ⟨b2, o2, none⟩) n capb) w1) := Lib.hid (by rw [hw1]; exact Tri.start _ _ _)
  go_enter Try.func19, Try.ntmps19
  go_wp2_with fail
  rw [← hw1]
  clear hw1
  refine (A.out w1 T1.out.bel).mono ?_
  rintro e w2 ⟨rfl, b2⟩
  have T2 := Lib.hid (T1.out.up b2)
  clear b2 T1
  have d1 := T2.out.bB.c
  go_wp2_with fail
  clear d1
  refine (B.out w2 T2.out.bel).mono ?_
  rintro e w3 ⟨rfl, b3⟩
  have T3 := Lib.hid (T2.out.up b3)
  clear b3 T2
  have c1 : w3.cell? ⟨b1, o1, none⟩ = some v1 := (T3.out.bel.cell (p := ⟨b1, o1, none⟩) (World.block_lt_of_cell? w _ CA.out)).trans CA.out
  have c2 : w3.cell? ⟨b2, o2, none⟩ = some v2 := (T3.out.bel.cell (p := ⟨b2, o2, none⟩) (World.block_lt_of_cell? w _ CB.out)).trans CB.out
  have p1 : Hid (DegIs w3 v1 x) := Lib.hid (HX.out.below T3.out.bel)
  have p2 : Hid (DegIs w3 v2 x) := Lib.hid (HY.out.below T3.out.bel)
  have d0 := T3.out.bA.c
  have d1 := T3.out.bB.c
  go_wp2_with fail
  go_quiet ((go_at_call 36; exact Calls.quiet_of (l03Degree_is (by assumption) _)))
  have T4 := Lib.hid (T3.out.drewN nq)
  clear d0 d1 c1 c2
  have d0 := T4.out.bA.c
  have d1 := T4.out.bB.c
  generalize w3.drewN nq = w4 at *
  have hsz4 := T4.out.size
  go_wp2_with fail
  refine (S.out w4 T4.out.bel).mono ?_
  rintro e w5 ⟨V, VS, rfl, hF, hS, hb5⟩
  obtain ⟨av, cv, rfl, _, _⟩ := hF.head
  have HF := Lib.hid hF
  have HS := Lib.hid hS
  have T5 := Lib.hid (T4.out.up hb5)
  clear hF hS hb5 d0 d1
  go_wp2_with fail
  rcases HR.out with ⟨h, rfl, rfl⟩ | ⟨h, rfl, rfl⟩
  · refine (l03Fit_yes _ _ _ _ h).mono ?_
    rintro e w6 ⟨rfl, b6⟩
    have T6 := Lib.hid (T5.out.up b6)
    have F6 := Lib.hid (HF.out.below b6)
    clear b6
    have T9 := Lib.hid (T6.out.up ((Below.refl _ _).alloc (Nat.le_refl _) (.cells #[.slice av R.length cv] 29)))
    have dR := T9.out.bR.c
    have fR := T9.out.bR.fr 0
    go_wp2_with fail
    have FIN := finS (w := w) (F6.out.below ((Below.refl _ _).alloc (Nat.le_refl _) (.cells #[.slice av R.length cv] 29))) T9.out.bel (by omega) (by omega) T9.out.bR
    refine bodyPost_ret (results_box1_tmp rfl _ _ (w.heap.size + 1 + 1) _ _ rfl FIN.1 t2 (by kernel_rfl)) rfl ?_
    exact ⟨_, _, rfl, FIN.2.1, HS.out, FIN.2.2⟩
  · refine (l03Fit_no _ _ _ _ (by omega)).mono ?_
    rintro e w6 ⟨rfl, b6⟩
    have T6 := Lib.hid (T5.out.up b6)
    clear b6
    have T9 := Lib.hid (T6.out.up ((Below.refl _ _).alloc (Nat.le_refl _) (.cells #[.slice none 0 0] 29)))
    have dR := T9.out.bR.c
    have fR := T9.out.bR.fr 0
    go_wp2_with fail
    have FIN := finS (w := w) (famNil _ (w.heap.size + 1 + 1 + 1)) T9.out.bel (by omega) (by omega) T9.out.bR
    refine bodyPost_ret (results_box1_tmp rfl _ _ (w.heap.size + 1 + 1) _ _ rfl FIN.1 t2 (by kernel_rfl)) rfl ?_
    exact ⟨_, _, rfl, FIN.2.1, sepNil, FIN.2.2⟩
end Go.Proofs.Ythbibkehhnggfaa
