/-
  Joined: NAdd, NAddB, NDeg, PCode.
-/
import Derived.Test.YtnmilkehggjpfaaZBMil28
import Derived.Test.YtnmilkehggjpfaaZBMil34
import Derived.Test.YtnmilkehggjpfaaZBMil33
import Derived.Test.YtnmilkehggjpfaaZBMil17
import Derived.Test.YtnmilkehggjpfaaZBMil24
import Derived.Test.YtnmilkehggjpfaaZBMil27
import Derived.Deep.QuietTactic
import Derived.BigQuiet
section
namespace Go.Proofs.Ytnmilkehggjpfaa.Ml
open Go.RowKit
set_option linter.unusedVariables false
set_option maxRecDepth 100000


set_option maxHeartbeats 2000000 in
theorem implAdd_bad1 (aa ab : Option Addr) (m n capa capb : Nat) (w : World) (A : Hid (∀ wx, Below w.heap.size w wx → Calls Try.prog 53 #[.agg #[.slice aa m capa]] wx (SaysB false wx))) :
    Calls Try.prog 59 #[.agg #[.slice aa m capa], .agg #[.slice ab n capb]] w (ResS [] 1 w) := by
  have t2 := Try.underlying45
  obtain ⟨w1, hw1⟩ : ∃ w1, w1 = (((w.alloc (.cells #[.slice aa m capa] 45)).alloc (.cells #[.slice ab n capb] 45)).alloc (.cells #[.slice none 0 0] 45)) := ⟨_, rfl⟩
  have T1 : Hid (Tri w (.slice aa m capa) (.slice ab n capb) w1) := Lib.hid (by rw [hw1]; exact Tri.start _ _ _)
  go_enter Try.func59, Try.ntmps59
  go_wp2_with fail
  rw [← hw1]
  clear hw1
  refine (A.out w1 T1.out.bel).mono ?_
  rintro e w2 ⟨rfl, b2⟩
  have T2 := Lib.hid (T1.out.up b2)
  clear b2 T1
  have dR := T2.out.bR.c
  have fR := T2.out.bR.fr 0
  go_wp2_with fail
  have FIN := finS (w := w) (famNil _ (w.heap.size + 1 + 1 + 1)) T2.out.bel (by omega) (by omega) T2.out.bR
  refine bodyPost_ret (results_box1_tmp rfl _ _ (w.heap.size + 1 + 1) _ _ rfl FIN.1 t2 (by kernel_rfl)) rfl ?_
  exact ⟨_, _, rfl, FIN.2.1, sepNil, FIN.2.2⟩

set_option maxHeartbeats 2000000 in
theorem implAdd_bad2 (aa ab : Option Addr) (m n capa capb : Nat) (w : World) (A : Hid (∀ wx, Below w.heap.size w wx → Calls Try.prog 53 #[.agg #[.slice aa m capa]] wx (SaysB true wx))) (B : Hid (∀ wx, Below w.heap.size w wx → Calls Try.prog 53 #[.agg #[.slice ab n capb]] wx (SaysB false wx))) :
    Calls Try.prog 59 #[.agg #[.slice aa m capa], .agg #[.slice ab n capb]] w (ResS [] 1 w) := by
  have t2 := Try.underlying45
  obtain ⟨w1, hw1⟩ : ∃ w1, w1 = (((w.alloc (.cells #[.slice aa m capa] 45)).alloc (.cells #[.slice ab n capb] 45)).alloc (.cells #[.slice none 0 0] 45)) := ⟨_, rfl⟩
  have T1 : Hid (Tri w (.slice aa m capa) (.slice ab n capb) w1) := Lib.hid (by rw [hw1]; exact Tri.start _ _ _)
  go_enter Try.func59, Try.ntmps59
  go_wp2_with fail
  rw [← hw1]
  clear hw1
  refine (A.out w1 T1.out.bel).mono ?_
  rintro e w2 ⟨rfl, b2⟩
  have T2 := Lib.hid (T1.out.up b2)
  clear b2 T1
  have d1 := T2.out.bB.c
  go_wp2_with fail
  clear d1
  refine (B.out w2 T2.out.bel).mono ?_
  rintro e w3 ⟨rfl, b3⟩
  have T3 := Lib.hid (T2.out.up b3)
  clear b3 T2
  have dR := T3.out.bR.c
  have fR := T3.out.bR.fr 0
  go_wp2_with fail
  have FIN := finS (w := w) (famNil _ (w.heap.size + 1 + 1 + 1)) T3.out.bel (by omega) (by omega) T3.out.bR
  refine bodyPost_ret (results_box1_tmp rfl _ _ (w.heap.size + 1 + 1) _ _ rfl FIN.1 t2 (by kernel_rfl)) rfl ?_
  exact ⟨_, _, rfl, FIN.2.1, sepNil, FIN.2.2⟩

set_option maxHeartbeats 2000000 in
theorem implAdd_range (aa ab : Option Addr) (m n capa capb : Nat) (w : World) (A : Hid (∀ wx, Below w.heap.size w wx → Calls Try.prog 53 #[.agg #[.slice aa m capa]] wx (SaysB true wx))) (B : Hid (∀ wx, Below w.heap.size w wx → Calls Try.prog 53 #[.agg #[.slice ab n capb]] wx (SaysB true wx))) (b1 o1 b2 o2 : Nat) (v1 v2 : Value) (x y : Int) (HX40 : Hid (x ≤ 40)) (HY40 : Hid (y ≤ 40)) (ea : aa = some ⟨b1, o1, none⟩) (eb : ab = some ⟨b2, o2, none⟩) (ca : w.cell? ⟨b1, o1, none⟩ = some v1) (cb : w.cell? ⟨b2, o2, none⟩ = some v2) (hx : DegE w v1 x) (hy : DegE w v2 y) (hm : 0 < m) (hn : 0 < n) (hne : (x != y) = true) :
    Calls Try.prog 59 #[.agg #[.slice aa m capa], .agg #[.slice ab n capb]] w (ResS [] 2 w) := by
  subst ea
  subst eb
  have CA := Lib.hid ca
  have CB := Lib.hid cb
  have HX := Lib.hid hx
  have HY := Lib.hid hy
  have hm' : (0 : Int) < (m : Int) := by omega
  have hn' : (0 : Int) < (n : Int) := by omega
  clear ca cb hx hy
  have t2 := Try.underlying45
  obtain ⟨w1, hw1⟩ : ∃ w1, w1 = (((w.alloc (.cells #[.slice (some ⟨b1, o1, none⟩) m capa] 45)).alloc (.cells #[.slice (some ⟨b2, o2, none⟩) n capb] 45)).alloc (.cells #[.slice none 0 0] 45)) := ⟨_, rfl⟩
  have T1 : Hid (Tri w (.slice (some ⟨b1, o1, none⟩) m capa) (.slice (some ⟨b2, o2, none⟩) n capb) w1) := Lib.hid (by rw [hw1]; exact Tri.start _ _ _)
  go_enter Try.func59, Try.ntmps59
  go_wp2_with fail
  rw [← hw1]
  clear hw1
  refine (A.out w1 T1.out.bel).mono ?_
  rintro e w2 ⟨rfl, b2⟩
  have T2 := Lib.hid (T1.out.up b2)
  clear b2 T1
  have d1 := T2.out.bB.c
  go_wp2_with fail
  clear d1
  refine (B.out w2 T2.out.bel).mono ?_
  rintro e w3 ⟨rfl, b3⟩
  have T3 := Lib.hid (T2.out.up b3)
  clear b3 T2
  have c1 : w3.cell? ⟨b1, o1, none⟩ = some v1 := (T3.out.bel.cell (p := ⟨b1, o1, none⟩) (World.block_lt_of_cell? w _ CA.out)).trans CA.out
  have c2 : w3.cell? ⟨b2, o2, none⟩ = some v2 := (T3.out.bel.cell (p := ⟨b2, o2, none⟩) (World.block_lt_of_cell? w _ CB.out)).trans CB.out
  have p1 : Hid (DegE w3 v1 x) := Lib.hid (HX.out.below T3.out.bel)
  have p2 : Hid (DegE w3 v2 y) := Lib.hid (HY.out.below T3.out.bel)
  have ZA : Hid (∀ wx, Calls Try.prog 92 #[.agg #[.slice (some ⟨b1, o1, none⟩) m capa]] wx fun e w' => e = .returned (.bool false) ∧ Below wx.heap.size wx w') := Lib.hid fun wx => by
    have := isZeroM_any (some ⟨b1, o1, none⟩) m capa wx
    rw [decide_eq_false (by omega)] at this
    exact this
  have ZB : Hid (∀ wx, Calls Try.prog 92 #[.agg #[.slice (some ⟨b2, o2, none⟩) n capb]] wx fun e w' => e = .returned (.bool false) ∧ Below wx.heap.size wx w') := Lib.hid fun wx => by
    have := isZeroM_any (some ⟨b2, o2, none⟩) n capb wx
    rw [decide_eq_false (by omega)] at this
    exact this
  have GA : Hid (∀ wx, Below w3.heap.size w3 wx → Calls Try.prog 75 #[.agg #[.slice (some ⟨b1, o1, none⟩) m capa]] wx fun e w' => e = .returned (.int .i64 x) ∧ Below wx.heap.size wx w') :=
    Lib.hid (fun wx hb => degreeM_any _ m capa x wx (fun h => by omega) HX40.out (fun _ => ⟨b1, o1, v1, rfl, (hb.cell (p := ⟨b1, o1, none⟩) (World.block_lt_of_cell? w3 _ c1)).trans c1, p1.out.below hb⟩))
  have GB : Hid (∀ wx, Below w3.heap.size w3 wx → Calls Try.prog 75 #[.agg #[.slice (some ⟨b2, o2, none⟩) n capb]] wx fun e w' => e = .returned (.int .i64 y) ∧ Below wx.heap.size wx w') :=
    Lib.hid (fun wx hb => degreeM_any _ n capb y wx (fun h => by omega) HY40.out (fun _ => ⟨b2, o2, v2, rfl, (hb.cell (p := ⟨b2, o2, none⟩) (World.block_lt_of_cell? w3 _ c2)).trans c2, p2.out.below hb⟩))
  clear HX40 HY40
  clear c1 c2 p1 p2
  have KEEP : Hid (∀ wx, Below w3.heap.size w3 wx → (wx.cell? ⟨w.heap.size, 0, none⟩ = some (.slice (some ⟨b1, o1, none⟩) m capa) ∧ wx.cell? ⟨w.heap.size + 1, 0, none⟩ = some (.slice (some ⟨b2, o2, none⟩) n capb) ∧ Below w3.heap.size w3 wx)) :=
    Lib.hid (fun wx hb => ⟨(T3.out.bA.up hb).c, (T3.out.bB.up hb).c, hb⟩)
  have z0 : Below w3.heap.size w3 w3.drew := (Below.refl _ _).drew
  go_wp2_with fail
  go_region_held3 (fun wx => wx.cell? ⟨w.heap.size, 0, none⟩ = some (.slice (some ⟨b1, o1, none⟩) m capa) ∧ wx.cell? ⟨w.heap.size + 1, 0, none⟩ = some (.slice (some ⟨b2, o2, none⟩) n capb) ∧ Below w3.heap.size w3 wx)
    (first | exact KEEP.out _ (Below.refl _ _).drew | exact KEEP.out _ (by assumption))
    (first | (go_at_call_of 92 (Value.agg #[Value.slice (some ⟨b1, o1, none⟩) m capa]); refine (ZA.out _).mono ?_; rintro e wq ⟨rfl, bq⟩; have zq : Below w3.heap.size w3 wq := Below.step1 (by assumption) bq) | (go_at_call_of 92 (Value.agg #[Value.slice (some ⟨b2, o2, none⟩) n capb]); refine (ZB.out _).mono ?_; rintro e wq ⟨rfl, bq⟩; have zq : Below w3.heap.size w3 wq := Below.step1 (by assumption) bq) | (go_at_call_of 75 (Value.agg #[Value.slice (some ⟨b1, o1, none⟩) m capa]); refine (GA.out _ (by assumption)).mono ?_; rintro e wq ⟨rfl, bq⟩; have zq : Below w3.heap.size w3 wq := Below.step1 (by assumption) bq) | (go_at_call_of 75 (Value.agg #[Value.slice (some ⟨b2, o2, none⟩) n capb]); refine (GB.out _ (by assumption)).mono ?_; rintro e wq ⟨rfl, bq⟩; have zq : Below w3.heap.size w3 wq := Below.step1 (by assumption) bq))
  all_goals
    have T4 := Lib.hid (T3.out.up (by assumption : Below w3.heap.size w3 _))
    have dR := T4.out.bR.c
    have fR := T4.out.bR.fr 0
    go_wp2_with fail
    have FIN := finS (w := w) (famNil _ (w.heap.size + 1 + 1 + 1)) T4.out.bel (by omega) (by omega) T4.out.bR
    refine bodyPost_ret (results_box1_tmp rfl _ _ (w.heap.size + 1 + 1) _ _ rfl FIN.1 t2 (by kernel_rfl)) rfl ?_
    exact ⟨_, _, rfl, FIN.2.1, sepNil, FIN.2.2⟩

set_option maxHeartbeats 2000000 in
theorem implAdd_sum0 (aa ab : Option Addr) (m n capa capb : Nat) (w : World) (A : Hid (∀ wx, Below w.heap.size w wx → Calls Try.prog 53 #[.agg #[.slice aa m capa]] wx (SaysB true wx))) (B : Hid (∀ wx, Below w.heap.size w wx → Calls Try.prog 53 #[.agg #[.slice ab n capb]] wx (SaysB true wx))) (hm : m = 0) (L : List (List Int)) (S : Hid (∀ wx, Below w.heap.size w wx → Calls Try.prog 120 #[.slice aa m capa, .slice ab n capb] wx fun e w' => ∃ V VS, e = .returned V ∧ FamL w' wx.heap.size V VS L ∧ Sep L.length VS ∧ Below wx.heap.size wx w')) :
    Calls Try.prog 59 #[.agg #[.slice aa m capa], .agg #[.slice ab n capb]] w (ResS L 0 w) := by
  subst hm
  have t2 := Try.underlying45
  obtain ⟨w1, hw1⟩ : ∃ w1, w1 = (((w.alloc (.cells #[.slice aa 0 capa] 45)).alloc (.cells #[.slice ab n capb] 45)).alloc (.cells #[.slice none 0 0] 45)) := ⟨_, rfl⟩
  have T1 : Hid (Tri w (.slice aa 0 capa) (.slice ab n capb) w1) := Lib.hid (by rw [hw1]; exact Tri.start _ _ _)
  go_enter Try.func59, Try.ntmps59
  go_wp2_with fail
  rw [← hw1]
  clear hw1
  refine (A.out w1 T1.out.bel).mono ?_
  rintro e w2 ⟨rfl, b2⟩
  have T2 := Lib.hid (T1.out.up b2)
  clear b2 T1
  have d1 := T2.out.bB.c
  go_wp2_with fail
  clear d1
  refine (B.out w2 T2.out.bel).mono ?_
  rintro e w3 ⟨rfl, b3⟩
  have T3 := Lib.hid (T2.out.up b3)
  clear b3 T2
  have ZA : Hid (∀ wx, Calls Try.prog 92 #[.agg #[.slice aa 0 capa]] wx fun e w' => e = .returned (.bool true) ∧ Below wx.heap.size wx w') := Lib.hid fun wx => by
    have := isZeroM_any aa 0 capa wx
    rw [decide_eq_true (by omega)] at this
    exact this
  have d0 := T3.out.bA.c
  have d1 := T3.out.bB.c
  go_wp2_with fail
  go_region_with (first | (go_at_call_of 92 (Value.agg #[Value.slice aa 0 capa]); refine (ZA.out _).mono ?_; rintro e wq ⟨rfl, bq⟩; have Tq := (T3.out.drewN 1).up bq; have dq0 := Tq.bA.c; have dq1 := Tq.bB.c))
  all_goals
    have T4 := Lib.hid Tq
    clear Tq dq0 dq1
    have hsz := T4.out.size
    have d0 := T4.out.bA.c
    have d1 := T4.out.bB.c
    go_wp2_with fail
    refine (plus_any _ _ _ _ _ _ _ L (Lib.hid fun wx hx => S.out wx (T4.out.bel.step1 hx))).mono ?_
    rintro e w5 ⟨V, VS, rfl, hF, hS, hb5⟩
    obtain ⟨av, cv, rfl, _, _⟩ := hF.head
    have HF := Lib.hid hF
    have HS := Lib.hid hS
    have T5 := Lib.hid (T4.out.up hb5)
    clear hF hS hb5 d0 d1
    have dR := T5.out.bR.c
    have fR := T5.out.bR.fr 0
    have FIN := finS (w := w) HF.out T5.out.bel (by omega) (by omega) T5.out.bR
    go_wp2_with fail
    refine bodyPost_ret (results_box1_tmp rfl _ _ (w.heap.size + 1 + 1) _ _ rfl FIN.1 t2 (by kernel_rfl)) rfl ?_
    exact ⟨_, _, rfl, FIN.2.1, HS.out, FIN.2.2⟩

set_option maxHeartbeats 2000000 in
theorem implAdd_sum1 (aa ab : Option Addr) (m n capa capb : Nat) (w : World) (A : Hid (∀ wx, Below w.heap.size w wx → Calls Try.prog 53 #[.agg #[.slice aa m capa]] wx (SaysB true wx))) (B : Hid (∀ wx, Below w.heap.size w wx → Calls Try.prog 53 #[.agg #[.slice ab n capb]] wx (SaysB true wx))) (hm : 0 < m) (hn : n = 0) (L : List (List Int)) (S : Hid (∀ wx, Below w.heap.size w wx → Calls Try.prog 120 #[.slice aa m capa, .slice ab n capb] wx fun e w' => ∃ V VS, e = .returned V ∧ FamL w' wx.heap.size V VS L ∧ Sep L.length VS ∧ Below wx.heap.size wx w')) :
    Calls Try.prog 59 #[.agg #[.slice aa m capa], .agg #[.slice ab n capb]] w (ResS L 0 w) := by
  subst hn
  have t2 := Try.underlying45
  obtain ⟨w1, hw1⟩ : ∃ w1, w1 = (((w.alloc (.cells #[.slice aa m capa] 45)).alloc (.cells #[.slice ab 0 capb] 45)).alloc (.cells #[.slice none 0 0] 45)) := ⟨_, rfl⟩
  have T1 : Hid (Tri w (.slice aa m capa) (.slice ab 0 capb) w1) := Lib.hid (by rw [hw1]; exact Tri.start _ _ _)
  go_enter Try.func59, Try.ntmps59
  go_wp2_with fail
  rw [← hw1]
  clear hw1
  refine (A.out w1 T1.out.bel).mono ?_
  rintro e w2 ⟨rfl, b2⟩
  have T2 := Lib.hid (T1.out.up b2)
  clear b2 T1
  have d1 := T2.out.bB.c
  go_wp2_with fail
  clear d1
  refine (B.out w2 T2.out.bel).mono ?_
  rintro e w3 ⟨rfl, b3⟩
  have T3 := Lib.hid (T2.out.up b3)
  clear b3 T2
  have ZA : Hid (∀ wx, Calls Try.prog 92 #[.agg #[.slice aa m capa]] wx fun e w' => e = .returned (.bool false) ∧ Below wx.heap.size wx w') := Lib.hid fun wx => by
    have := isZeroM_any aa m capa wx
    rw [decide_eq_false (by omega)] at this
    exact this
  have ZB : Hid (∀ wx, Calls Try.prog 92 #[.agg #[.slice ab 0 capb]] wx fun e w' => e = .returned (.bool true) ∧ Below wx.heap.size wx w') := Lib.hid fun wx => by
    have := isZeroM_any ab 0 capb wx
    rw [decide_eq_true (by omega)] at this
    exact this
  clear hm
  have d0 := T3.out.bA.c
  have d1 := T3.out.bB.c
  go_wp2_with fail
  go_region_with (first | (go_at_call_of 92 (Value.agg #[Value.slice aa m capa]); refine (ZA.out _).mono ?_; rintro e wq ⟨rfl, bq⟩; have Tq := (T3.out.drewN 1).up bq; have dq0 := Tq.bA.c; have dq1 := Tq.bB.c) | (go_at_call_of 92 (Value.agg #[Value.slice ab 0 capb]); refine (ZB.out _).mono ?_; rintro e ws ⟨rfl, bs⟩; have Ts := Tq.up bs; have ds0 := Ts.bA.c; have ds1 := Ts.bB.c))
  all_goals
    have T4 := Lib.hid Ts
    clear Tq dq0 dq1 Ts ds0 ds1
    have hsz := T4.out.size
    have d0 := T4.out.bA.c
    have d1 := T4.out.bB.c
    go_wp2_with fail
    refine (plus_any _ _ _ _ _ _ _ L (Lib.hid fun wx hx => S.out wx (T4.out.bel.step1 hx))).mono ?_
    rintro e w5 ⟨V, VS, rfl, hF, hS, hb5⟩
    obtain ⟨av, cv, rfl, _, _⟩ := hF.head
    have HF := Lib.hid hF
    have HS := Lib.hid hS
    have T5 := Lib.hid (T4.out.up hb5)
    clear hF hS hb5 d0 d1
    have dR := T5.out.bR.c
    have fR := T5.out.bR.fr 0
    have FIN := finS (w := w) HF.out T5.out.bel (by omega) (by omega) T5.out.bR
    go_wp2_with fail
    refine bodyPost_ret (results_box1_tmp rfl _ _ (w.heap.size + 1 + 1) _ _ rfl FIN.1 t2 (by kernel_rfl)) rfl ?_
    exact ⟨_, _, rfl, FIN.2.1, HS.out, FIN.2.2⟩

set_option maxHeartbeats 2000000 in
theorem implAdd_sum2 (aa ab : Option Addr) (m n capa capb : Nat) (w : World) (A : Hid (∀ wx, Below w.heap.size w wx → Calls Try.prog 53 #[.agg #[.slice aa m capa]] wx (SaysB true wx))) (B : Hid (∀ wx, Below w.heap.size w wx → Calls Try.prog 53 #[.agg #[.slice ab n capb]] wx (SaysB true wx))) (b1 o1 b2 o2 : Nat) (v1 v2 : Value) (x : Int) (HX40 : Hid (x ≤ 40)) (ea : aa = some ⟨b1, o1, none⟩) (eb : ab = some ⟨b2, o2, none⟩) (ca : w.cell? ⟨b1, o1, none⟩ = some v1) (cb : w.cell? ⟨b2, o2, none⟩ = some v2) (hx : DegE w v1 x) (hy : DegE w v2 x) (hm : 0 < m) (hn : 0 < n) (L : List (List Int)) (S : Hid (∀ wx, Below w.heap.size w wx → Calls Try.prog 120 #[.slice aa m capa, .slice ab n capb] wx fun e w' => ∃ V VS, e = .returned V ∧ FamL w' wx.heap.size V VS L ∧ Sep L.length VS ∧ Below wx.heap.size wx w')) :
    Calls Try.prog 59 #[.agg #[.slice aa m capa], .agg #[.slice ab n capb]] w (ResS L 0 w) := by
  subst ea
  subst eb
  have CA := Lib.hid ca
  have CB := Lib.hid cb
  have HX := Lib.hid hx
  have HY := Lib.hid hy
  have hm' : (0 : Int) < (m : Int) := by omega
  have hn' : (0 : Int) < (n : Int) := by omega
  clear ca cb hx hy
  have t2 := Try.underlying45
  obtain ⟨w1, hw1⟩ : ∃ w1, w1 = (((w.alloc (.cells #[.slice (some ⟨b1, o1, none⟩) m capa] 45)).alloc (.cells #[.slice (some ⟨b2, o2, none⟩) n capb] 45)).alloc (.cells #[.slice none 0 0] 45)) := ⟨_, rfl⟩
  have T1 : Hid (Tri w (.slice (some ⟨b1, o1, none⟩) m capa) (.slice (some ⟨b2, o2, none⟩) n capb) w1) := Lib.hid (by rw [hw1]; exact Tri.start _ _ _)
  go_enter Try.func59, Try.ntmps59
  go_wp2_with fail
  rw [← hw1]
  clear hw1
  refine (A.out w1 T1.out.bel).mono ?_
  rintro e w2 ⟨rfl, b2⟩
  have T2 := Lib.hid (T1.out.up b2)
  clear b2 T1
  have d1 := T2.out.bB.c
  go_wp2_with fail
  clear d1
  refine (B.out w2 T2.out.bel).mono ?_
  rintro e w3 ⟨rfl, b3⟩
  have T3 := Lib.hid (T2.out.up b3)
  clear b3 T2
  have c1 : w3.cell? ⟨b1, o1, none⟩ = some v1 := (T3.out.bel.cell (p := ⟨b1, o1, none⟩) (World.block_lt_of_cell? w _ CA.out)).trans CA.out
  have c2 : w3.cell? ⟨b2, o2, none⟩ = some v2 := (T3.out.bel.cell (p := ⟨b2, o2, none⟩) (World.block_lt_of_cell? w _ CB.out)).trans CB.out
  have p1 : Hid (DegE w3 v1 x) := Lib.hid (HX.out.below T3.out.bel)
  have p2 : Hid (DegE w3 v2 x) := Lib.hid (HY.out.below T3.out.bel)
  have ZA : Hid (∀ wx, Calls Try.prog 92 #[.agg #[.slice (some ⟨b1, o1, none⟩) m capa]] wx fun e w' => e = .returned (.bool false) ∧ Below wx.heap.size wx w') := Lib.hid fun wx => by
    have := isZeroM_any (some ⟨b1, o1, none⟩) m capa wx
    rw [decide_eq_false (by omega)] at this
    exact this
  have ZB : Hid (∀ wx, Calls Try.prog 92 #[.agg #[.slice (some ⟨b2, o2, none⟩) n capb]] wx fun e w' => e = .returned (.bool false) ∧ Below wx.heap.size wx w') := Lib.hid fun wx => by
    have := isZeroM_any (some ⟨b2, o2, none⟩) n capb wx
    rw [decide_eq_false (by omega)] at this
    exact this
  have GA : Hid (∀ wx, Below w3.heap.size w3 wx → Calls Try.prog 75 #[.agg #[.slice (some ⟨b1, o1, none⟩) m capa]] wx fun e w' => e = .returned (.int .i64 x) ∧ Below wx.heap.size wx w') :=
    Lib.hid (fun wx hb => degreeM_any _ m capa x wx (fun h => by omega) HX40.out (fun _ => ⟨b1, o1, v1, rfl, (hb.cell (p := ⟨b1, o1, none⟩) (World.block_lt_of_cell? w3 _ c1)).trans c1, p1.out.below hb⟩))
  have GB : Hid (∀ wx, Below w3.heap.size w3 wx → Calls Try.prog 75 #[.agg #[.slice (some ⟨b2, o2, none⟩) n capb]] wx fun e w' => e = .returned (.int .i64 x) ∧ Below wx.heap.size wx w') :=
    Lib.hid (fun wx hb => degreeM_any _ n capb x wx (fun h => by omega) HX40.out (fun _ => ⟨b2, o2, v2, rfl, (hb.cell (p := ⟨b2, o2, none⟩) (World.block_lt_of_cell? w3 _ c2)).trans c2, p2.out.below hb⟩))
  clear HX40
  clear c1 c2 p1 p2
  have KEEP : Hid (∀ wx, Below w3.heap.size w3 wx → (wx.cell? ⟨w.heap.size, 0, none⟩ = some (.slice (some ⟨b1, o1, none⟩) m capa) ∧ wx.cell? ⟨w.heap.size + 1, 0, none⟩ = some (.slice (some ⟨b2, o2, none⟩) n capb) ∧ Below w3.heap.size w3 wx)) :=
    Lib.hid (fun wx hb => ⟨(T3.out.bA.up hb).c, (T3.out.bB.up hb).c, hb⟩)
  have z0 : Below w3.heap.size w3 w3.drew := (Below.refl _ _).drew
  go_wp2_with fail
  go_region_held3 (fun wx => wx.cell? ⟨w.heap.size, 0, none⟩ = some (.slice (some ⟨b1, o1, none⟩) m capa) ∧ wx.cell? ⟨w.heap.size + 1, 0, none⟩ = some (.slice (some ⟨b2, o2, none⟩) n capb) ∧ Below w3.heap.size w3 wx)
    (first | exact KEEP.out _ (Below.refl _ _).drew | exact KEEP.out _ (by assumption))
    (first | (go_at_call_of 92 (Value.agg #[Value.slice (some ⟨b1, o1, none⟩) m capa]); refine (ZA.out _).mono ?_; rintro e wq ⟨rfl, bq⟩; have zq : Below w3.heap.size w3 wq := Below.step1 (by assumption) bq) | (go_at_call_of 92 (Value.agg #[Value.slice (some ⟨b2, o2, none⟩) n capb]); refine (ZB.out _).mono ?_; rintro e wq ⟨rfl, bq⟩; have zq : Below w3.heap.size w3 wq := Below.step1 (by assumption) bq) | (go_at_call_of 75 (Value.agg #[Value.slice (some ⟨b1, o1, none⟩) m capa]); refine (GA.out _ (by assumption)).mono ?_; rintro e wq ⟨rfl, bq⟩; have zq : Below w3.heap.size w3 wq := Below.step1 (by assumption) bq) | (go_at_call_of 75 (Value.agg #[Value.slice (some ⟨b2, o2, none⟩) n capb]); refine (GB.out _ (by assumption)).mono ?_; rintro e wq ⟨rfl, bq⟩; have zq : Below w3.heap.size w3 wq := Below.step1 (by assumption) bq))
  all_goals
    have T4 := Lib.hid (T3.out.up (by assumption : Below w3.heap.size w3 _))
    have hsz := T4.out.size
    have d0 := T4.out.bA.c
    have d1 := T4.out.bB.c
    go_wp2_with fail
    refine (plus_any _ _ _ _ _ _ _ L (Lib.hid fun wx hx => S.out wx (T4.out.bel.step1 hx))).mono ?_
    rintro e w5 ⟨V, VS, rfl, hF, hS, hb5⟩
    obtain ⟨av, cv, rfl, _, _⟩ := hF.head
    have HF := Lib.hid hF
    have HS := Lib.hid hS
    have T5 := Lib.hid (T4.out.up hb5)
    clear hF hS hb5 d0 d1
    have dR := T5.out.bR.c
    have fR := T5.out.bR.fr 0
    have FIN := finS (w := w) HF.out T5.out.bel (by omega) (by omega) T5.out.bR
    go_wp2_with fail
    refine bodyPost_ret (results_box1_tmp rfl _ _ (w.heap.size + 1 + 1) _ _ rfl FIN.1 t2 (by kernel_rfl)) rfl ?_
    exact ⟨_, _, rfl, FIN.2.1, HS.out, FIN.2.2⟩
end Go.Proofs.Ytnmilkehggjpfaa.Ml
end
section
namespace Go.Proofs.Ytnmilkehggjpfaa.Ml
open Go.RowKit
set_option linter.unusedVariables false
set_option maxRecDepth 100000

theorem mlRows {X : Nat → List Int} {m : Nat} (h : okMl X m) : (m ≤ 2000) ∧ (∀ i, i < m → (X i).length ≤ 20) ∧ (∀ i, i < m → ∀ z ∈ X i, (Lit.int .i64 z).wf = true) ∧ Asc (rowsL X m) :=
  ⟨h.1.1, h.1.2.1, fun i hi => isE_wf (h.2 i hi).1.1, asc_rows X m h.1.2.2⟩
theorem mrg_le : ∀ (xs ys : List (List Int)), (mrg xs ys).length ≤ xs.length + ys.length
  | [], ys => by rw [mrg]; simp
  | x :: xs, [] => by rw [mrg]; simp
  | x :: xs, y :: ys => by
    rw [mrg]
    split
    · have := mrg_le xs (y :: ys)
      simp only [List.length_cons] at this ⊢
      omega
    · split
      · have := mrg_le (x :: xs) ys
        simp only [List.length_cons] at this ⊢
        omega
      · have := mrg_le xs ys
        simp only [List.length_cons]
        omega
  termination_by xs ys => xs.length + ys.length
/-- The first term of an element other than 0. -/
theorem headM {va : Value} {w : World} {m : Nat} {X : Nat → List Int} (hok : okMl X m) (hm : 0 < m) (h : RdSS w va m X) :
    ∃ b o v cap, va = .slice (some ⟨b, o, none⟩) m cap ∧ w.cell? ⟨b, o, none⟩ = some v ∧ DegE w v (dgL (X 0)) := by
  obtain ⟨_, _, VS, hc, hr⟩ := h
  obtain ⟨b, o, ⟨cap, e⟩, hc⟩ := hc.resolve_left (by omega)
  have := hc 0 hm
  rw [Nat.add_zero] at this
  exact ⟨b, o, VS 0, cap, e, this, degE_list (hr 0 hm) (hok.2 0 hm).1.1⟩

end Go.Proofs.Ytnmilkehggjpfaa.Ml
end
section
namespace Go.Proofs.Ytnmilkehggjpfaa.Ml
open Go.RowKit
set_option linter.unusedVariables false
set_option maxRecDepth 100000

/-- A call that answers two numbers and leaves what there was. -/
def SaysN (x c : Int) (w : World) (e : Ending) (w' : World) : Prop := e = .returned (.tuple #[.int .i64 x, .int .i64 c]) ∧ Below w.heap.size w w'

/-- The first term of an element other than 0. -/
theorem headD {va : Value} {w : World} {m : Nat} {X : Nat → List Int} (hok : okMl X m) (hm : 0 < m) (h : RdSS w va m X) :
    ∃ b o v cap, va = .slice (some ⟨b, o, none⟩) m cap ∧ w.cell? ⟨b, o, none⟩ = some v ∧ DegE w v (dgL (X 0)) := by
  obtain ⟨_, _, VS, hc, hr⟩ := h
  obtain ⟨b, o, ⟨cap, e⟩, hc⟩ := hc.resolve_left (by omega)
  have := hc 0 hm
  rw [Nat.add_zero] at this
  exact ⟨b, o, VS 0, cap, e, this, degE_list (hr 0 hm) (hok.2 0 hm).1.1⟩

end Go.Proofs.Ytnmilkehggjpfaa.Ml
end
section
namespace Go.Proofs.Ytnmilkehggjpfaa.Ml
open Go.RowKit
set_option linter.unusedVariables false
set_option maxRecDepth 100000

def SaysI (x : Int) (w : World) (e : Ending) (w' : World) : Prop := e = .returned (.int .i64 x) ∧ Below w.heap.size w w'
abbrev IsS (r : Bool) (a : Option Addr) (m cap : Nat) (w : World) : Prop := Hid (∀ wx, Below w.heap.size w wx → Calls Try.prog 65 #[.agg #[.slice a m cap]] wx (SaysB r wx))
abbrev IsI (r : Bool) (a : Option Addr) (m cap : Nat) (w : World) : Prop := Hid (∀ wx, Below w.heap.size w wx → Calls Try.prog 53 #[.agg #[.slice a m cap]] wx (SaysB r wx))

end Go.Proofs.Ytnmilkehggjpfaa.Ml
end
