/-
  Joined: YImAdd.
-/
import Derived.Test.YtnfhfilconcajaaZxactAddPolys40
import Derived.Test.YtnfhfilconcajaaZxactAddPolys35
import Derived.Test.YtnfhfilconcajaaZxactAddPolys39
section
namespace Go.Proofs.Ytnfhfilconcajaa.Pl
open Go.RowKit
set_option linter.unusedVariables false
set_option maxRecDepth 100000


theorem rdY_shape {w : World} {v : Value} {ks : List (Array Value)} (h : RdY w v ks) : ∃ a n q, v = .slice a n q := by
  obtain ⟨a, cap, e, _⟩ := h
  exact ⟨_, _, _, e⟩
/-- Two lists of monomials in a new row. -/
theorem rdPs_two {w : World} {ua ub : Value} {A B : List (List Int)} {t : TypeId} (ha : RdY w ua (A.map pwK)) (hb : RdY w ub (B.map pwK)) : RdPs (w.alloc (.cells #[ua, ub] t)) (.slice (some ⟨w.heap.size, 0, none⟩) 2 2) [A, B] := by
  have bb : Below w.heap.size w (w.alloc (.cells #[ua, ub] t)) := (Below.refl _ _).alloc (Nat.le_refl _) _
  have hh := heap_alloc_new w (.cells #[ua, ub] t)
  refine ⟨_, 2, fun i => if i = 0 then ua else ub, rfl, by unfold maxLen; simp, .inr ⟨w.heap.size, 0, rfl, by simp, fun i hi => ?_⟩, fun i hi => ?_⟩
  · rw [Nat.zero_add, cell_of_row _ w.heap.size i _ _ (0, 0) hh]
    match i, hi with
    | 0, _ => rfl
    | 1, _ => rfl
  · match i, hi with
    | 0, _ => exact ha.below bb
    | 1, _ => exact hb.below bb

theorem implAdd_bad0 (r1 : Bool) (k0 k1 : Int) (a0 a1 : Option Addr) (m n q0 q1 : Nat) (w : World) (IP : Hid (IsPsM false r1 k0 k1 a0 a1 m n q0 q1 w)) :
    Calls Try.prog 18 #[.agg #[.int .i64 k0, .slice a0 m q0], .agg #[.int .i64 k1, .slice a1 n q1]] w (ResY 0 [] 1 w) := by
  have t2 := Try.underlying27
  obtain ⟨w1, hw1⟩ : ∃ w1, w1 = (((w.alloc (.cells #[.int .i64 k0, .slice a0 m q0] 27)).alloc (.cells #[.int .i64 k1, .slice a1 n q1] 27)).alloc (.cells #[.int .i64 0, .slice none 0 0] 27)) := ⟨_, rfl⟩
  have S1 : Hid (Bx3M w k0 (.slice a0 m q0) k1 (.slice a1 n q1) w1) := Lib.hid (by rw [hw1]; exact Bx3M.start _ _ _ _ _)
  have d0 := S1.out.boxA.c0
  have d1 := S1.out.boxA.c1
  go_enter Try.func18, Try.ntmps18
  go_upto_region 1 with fail
  rw [← hw1]
  clear hw1
  go_wp2_with fail
  refine (IP.out.1 w1 S1.out.bel).mono ?_
  rintro e w2 ⟨rfl, b2⟩
  have S2 := Lib.hid (S1.out.up b2)
  clear b2 S1 d0 d1
  have S3 := S2
  clear S2
  have r0 := S3.out.boxR.c0
  have r1 := S3.out.boxR.c1
  have f0 := S3.out.boxR.fr 0
  have f1 := S3.out.boxR.fr 1
  go_wp2_with fail
  refine bodyPost_ret (results_box2_tmp rfl _ _ (w.heap.size + 1 + 1) _ _ _ rfl ((S3.out.boxR.set0 _).set1 _) t2 (by kernel_rfl)) rfl ?_
  exact ⟨_, fun _ => undef, rfl, famNil _ _, sepNil, (S3.out.bel.setCell (p := ⟨w.heap.size + 1 + 1, 0, none⟩) (by simp; omega) _).setCell (p := ⟨w.heap.size + 1 + 1, 1, none⟩) (by simp; omega) _⟩

theorem implAdd_bad1 (k0 k1 : Int) (a0 a1 : Option Addr) (m n q0 q1 : Nat) (w : World) (IP : Hid (IsPsM true false k0 k1 a0 a1 m n q0 q1 w)) :
    Calls Try.prog 18 #[.agg #[.int .i64 k0, .slice a0 m q0], .agg #[.int .i64 k1, .slice a1 n q1]] w (ResY 0 [] 1 w) := by
  have t2 := Try.underlying27
  obtain ⟨w1, hw1⟩ : ∃ w1, w1 = (((w.alloc (.cells #[.int .i64 k0, .slice a0 m q0] 27)).alloc (.cells #[.int .i64 k1, .slice a1 n q1] 27)).alloc (.cells #[.int .i64 0, .slice none 0 0] 27)) := ⟨_, rfl⟩
  have S1 : Hid (Bx3M w k0 (.slice a0 m q0) k1 (.slice a1 n q1) w1) := Lib.hid (by rw [hw1]; exact Bx3M.start _ _ _ _ _)
  have d0 := S1.out.boxA.c0
  have d1 := S1.out.boxA.c1
  go_enter Try.func18, Try.ntmps18
  go_upto_region 1 with fail
  rw [← hw1]
  clear hw1
  go_wp2_with fail
  refine (IP.out.1 w1 S1.out.bel).mono ?_
  rintro e w2 ⟨rfl, b2⟩
  have S2 := Lib.hid (S1.out.up b2)
  clear b2 S1 d0 d1
  have d0 := S2.out.boxB.c0
  have d1 := S2.out.boxB.c1
  go_wp2_with fail
  refine (IP.out.2 w2 S2.out.bel).mono ?_
  rintro e w3 ⟨rfl, b3⟩
  have S3 := Lib.hid (S2.out.up b3)
  clear b3 S2 d0 d1
  have r0 := S3.out.boxR.c0
  have r1 := S3.out.boxR.c1
  have f0 := S3.out.boxR.fr 0
  have f1 := S3.out.boxR.fr 1
  go_wp2_with fail
  refine bodyPost_ret (results_box2_tmp rfl _ _ (w.heap.size + 1 + 1) _ _ _ rfl ((S3.out.boxR.set0 _).set1 _) t2 (by kernel_rfl)) rfl ?_
  exact ⟨_, fun _ => undef, rfl, famNil _ _, sepNil, (S3.out.bel.setCell (p := ⟨w.heap.size + 1 + 1, 0, none⟩) (by simp; omega) _).setCell (p := ⟨w.heap.size + 1 + 1, 1, none⟩) (by simp; omega) _⟩

theorem implAdd_var (k0 k1 : Int) (a0 a1 : Option Addr) (m n q0 q1 : Nat) (w : World) (hk : k0 ≠ k1) (IP : Hid (IsPsM true true k0 k1 a0 a1 m n q0 q1 w)) :
    Calls Try.prog 18 #[.agg #[.int .i64 k0, .slice a0 m q0], .agg #[.int .i64 k1, .slice a1 n q1]] w (ResY 0 [] 2 w) := by
  have hkb : (k0 != k1) = true := by rw [bne_iff_ne]; exact hk
  clear hk
  have t2 := Try.underlying27
  obtain ⟨w1, hw1⟩ : ∃ w1, w1 = (((w.alloc (.cells #[.int .i64 k0, .slice a0 m q0] 27)).alloc (.cells #[.int .i64 k1, .slice a1 n q1] 27)).alloc (.cells #[.int .i64 0, .slice none 0 0] 27)) := ⟨_, rfl⟩
  have S1 : Hid (Bx3M w k0 (.slice a0 m q0) k1 (.slice a1 n q1) w1) := Lib.hid (by rw [hw1]; exact Bx3M.start _ _ _ _ _)
  have d0 := S1.out.boxA.c0
  have d1 := S1.out.boxA.c1
  go_enter Try.func18, Try.ntmps18
  go_upto_region 1 with fail
  rw [← hw1]
  clear hw1
  go_wp2_with fail
  refine (IP.out.1 w1 S1.out.bel).mono ?_
  rintro e w2 ⟨rfl, b2⟩
  have S2 := Lib.hid (S1.out.up b2)
  clear b2 S1 d0 d1
  have d0 := S2.out.boxB.c0
  have d1 := S2.out.boxB.c1
  go_wp2_with fail
  refine (IP.out.2 w2 S2.out.bel).mono ?_
  rintro e w3 ⟨rfl, b3⟩
  have S3 := Lib.hid (S2.out.up b3)
  clear b3 S2 d0 d1
  have d0 := S3.out.boxA.c0
  have d1 := S3.out.boxB.c0
  go_wp2_with fail
  go_quiet (fail)
  have S4 : Hid (Bx3M w k0 (.slice a0 m q0) k1 (.slice a1 n q1) (w3.drewN nq)) := Lib.hid (S3.out.up (below_drewN (Below.refl _ _) _))
  clear d0 d1 S3
  generalize w3.drewN nq = w5 at *
  rename Hid (Bx3M w k0 (.slice a0 m q0) k1 (.slice a1 n q1) w5) => S3
  have r0 := S3.out.boxR.c0
  have r1 := S3.out.boxR.c1
  have f0 := S3.out.boxR.fr 0
  have f1 := S3.out.boxR.fr 1
  go_wp2_with fail
  refine bodyPost_ret (results_box2_tmp rfl _ _ (w.heap.size + 1 + 1) _ _ _ rfl ((S3.out.boxR.set0 _).set1 _) t2 (by kernel_rfl)) rfl ?_
  exact ⟨_, fun _ => undef, rfl, famNil _ _, sepNil, (S3.out.bel.setCell (p := ⟨w.heap.size + 1 + 1, 0, none⟩) (by simp; omega) _).setCell (p := ⟨w.heap.size + 1 + 1, 1, none⟩) (by simp; omega) _⟩

set_option maxHeartbeats 1000000 in
theorem implAdd_deg (x y : Int) (k0 : Int) (a0 a1 : Option Addr) (m n q0 q1 : Nat) (w : World) (hx : 0 ≤ x ∧ x ≤ 40) (hy : 0 ≤ y ∧ y ≤ 40) (hm : 0 < m) (hn : 0 < n) (hxy : x ≠ y) (IP : Hid (IsPsM true true k0 k0 a0 a1 m n q0 q1 w)) (DX : Hid (DegPM w k0 a0 m q0 x)) (DY : Hid (DegPM w k0 a1 n q1 y)) :
    Calls Try.prog 18 #[.agg #[.int .i64 k0, .slice a0 m q0], .agg #[.int .i64 k0, .slice a1 n q1]] w (ResY 0 [] 2 w) := by
  have ZX : Hid (∀ wx, Calls Try.prog 59 #[.agg #[.int .i64 k0, .slice a0 m q0]] wx fun e w' => e = .returned (.bool false) ∧ Below wx.heap.size wx w') := Lib.hid fun wx => by
    have := isZeroP_any k0 a0 m q0 wx
    rw [decide_eq_false (by omega : ¬ m = 0)] at this
    exact this
  have ZY : Hid (∀ wx, Calls Try.prog 59 #[.agg #[.int .i64 k0, .slice a1 n q1]] wx fun e w' => e = .returned (.bool false) ∧ Below wx.heap.size wx w') := Lib.hid fun wx => by
    have := isZeroP_any k0 a1 n q1 wx
    rw [decide_eq_false (by omega : ¬ n = 0)] at this
    exact this
  have hkb : (k0 != k0) = false := bne_self_eq_false _
  have hxb : (x != y) = true := by rw [bne_iff_ne]; exact hxy
  clear hxy hm hn
  have t2 := Try.underlying27
  obtain ⟨w1, hw1⟩ : ∃ w1, w1 = (((w.alloc (.cells #[.int .i64 k0, .slice a0 m q0] 27)).alloc (.cells #[.int .i64 k0, .slice a1 n q1] 27)).alloc (.cells #[.int .i64 0, .slice none 0 0] 27)) := ⟨_, rfl⟩
  have S1 : Hid (Bx3M w k0 (.slice a0 m q0) k0 (.slice a1 n q1) w1) := Lib.hid (by rw [hw1]; exact Bx3M.start _ _ _ _ _)
  have d0 := S1.out.boxA.c0
  have d1 := S1.out.boxA.c1
  go_enter Try.func18, Try.ntmps18
  go_upto_region 1 with fail
  rw [← hw1]
  clear hw1
  go_wp2_with fail
  refine (IP.out.1 w1 S1.out.bel).mono ?_
  rintro e w2 ⟨rfl, b2⟩
  have S2 := Lib.hid (S1.out.up b2)
  clear b2 S1 d0 d1
  have d0 := S2.out.boxB.c0
  have d1 := S2.out.boxB.c1
  go_wp2_with fail
  refine (IP.out.2 w2 S2.out.bel).mono ?_
  rintro e w3 ⟨rfl, b3⟩
  have S3 := Lib.hid (S2.out.up b3)
  clear b3 S2 d0 d1
  have KEEP : Hid (∀ wx, Below w3.heap.size w3 wx → (wx.cell? ⟨w.heap.size, 0, none⟩ = some (.int .i64 k0) ∧ wx.cell? ⟨w.heap.size, 1, none⟩ = some (.slice a0 m q0) ∧ wx.cell? ⟨w.heap.size + 1, 0, none⟩ = some (.int .i64 k0) ∧ wx.cell? ⟨w.heap.size + 1, 1, none⟩ = some (.slice a1 n q1) ∧ Below w3.heap.size w3 wx)) :=
    Lib.hid (fun wx hb => ⟨(S3.out.boxA.up hb).c0, (S3.out.boxA.up hb).c1, (S3.out.boxB.up hb).c0, (S3.out.boxB.up hb).c1, hb⟩)
  have z0 : Below w3.heap.size w3 w3.drew := (Below.refl _ _).drew
  go_wp2_with fail
  go_region_held3 (fun wx => wx.cell? ⟨w.heap.size, 0, none⟩ = some (.int .i64 k0) ∧ wx.cell? ⟨w.heap.size, 1, none⟩ = some (.slice a0 m q0) ∧ wx.cell? ⟨w.heap.size + 1, 0, none⟩ = some (.int .i64 k0) ∧ wx.cell? ⟨w.heap.size + 1, 1, none⟩ = some (.slice a1 n q1) ∧ Below w3.heap.size w3 wx)
    (first | exact KEEP.out _ (Below.refl _ _).drew | exact KEEP.out _ (by assumption))
    (first
      | (go_at_call_of 59 (Value.agg #[Value.int IntKind.i64 k0, Value.slice a0 m q0]); refine (ZX.out _).mono ?_; rintro e w4 ⟨rfl, b4⟩; have z4 := z0.step1 b4)
      | (go_at_call_of 59 (Value.agg #[Value.int IntKind.i64 k0, Value.slice a1 n q1]); refine (ZY.out _).mono ?_; rintro e w5 ⟨rfl, b5⟩; have z5 := z4.step1 b5)
      | (go_at_call_of 54 (Value.agg #[Value.int IntKind.i64 k0, Value.slice a0 m q0]); refine (DX.out _ (S3.out.bel.step1 z5)).mono ?_; rintro e w6 ⟨rfl, b6⟩; have z6 := z5.step1 b6)
      | (go_at_call_of 54 (Value.agg #[Value.int IntKind.i64 k0, Value.slice a1 n q1]); refine (DY.out _ (S3.out.bel.step1 z6)).mono ?_; rintro e w7 ⟨rfl, b7⟩; have z7 := z6.step1 b7))
  have S4 := Lib.hid (S3.out.up z7)
  clear z0 z4 z5 z6 z7 b4 b5 b6 b7 S3 KEEP
  rename Hid (Bx3M w k0 (.slice a0 m q0) k0 (.slice a1 n q1) w7) => S3
  have r0 := S3.out.boxR.c0
  have r1 := S3.out.boxR.c1
  have f0 := S3.out.boxR.fr 0
  have f1 := S3.out.boxR.fr 1
  go_wp2_with fail
  refine bodyPost_ret (results_box2_tmp rfl _ _ (w.heap.size + 1 + 1) _ _ _ rfl ((S3.out.boxR.set0 _).set1 _) t2 (by kernel_rfl)) rfl ?_
  exact ⟨_, fun _ => undef, rfl, famNil _ _, sepNil, (S3.out.bel.setCell (p := ⟨w.heap.size + 1 + 1, 0, none⟩) (by simp; omega) _).setCell (p := ⟨w.heap.size + 1 + 1, 1, none⟩) (by simp; omega) _⟩

/-- The two are of one degree, or one is 0. -/
def SameDeg (m n : Nat) (x y : Int) : Prop := m = 0 ∨ (0 < m ∧ n = 0) ∨ (0 < m ∧ 0 < n ∧ x = y)

set_option maxHeartbeats 4000000 in
theorem implAdd_ok (x y : Int) (k : Nat) (k0 : Int) (a0 a1 : Option Addr) (m n q0 q1 : Nat) (Z : List (List Int)) (A B : List (List Int)) (w : World) (hk : k0 = (k : Int)) (hk4 : 1 ≤ k ∧ k ≤ 4) (SD : SameDeg m n x y) (IP : Hid (IsPsM true true k0 k0 a0 a1 m n q0 q1 w)) (DX : Hid (DegPM w k0 a0 m q0 x)) (DY : Hid (DegPM w k0 a1 n q1 y))
    (PF : Hid (∀ wx, Below w.heap.size w wx → Calls Try.prog 61 #[.agg #[.int .i64 k0, .slice a0 m q0]] wx fun e w' => ∃ u, e = .returned u ∧ RdY w' u (A.map pwK) ∧ Below wx.heap.size wx w'))
    (PG : Hid (∀ wx, Below w.heap.size w wx → Calls Try.prog 61 #[.agg #[.int .i64 k0, .slice a1 n q1]] wx fun e w' => ∃ u, e = .returned u ∧ RdY w' u (B.map pwK) ∧ Below wx.heap.size wx w'))
    (JN : Hid (∀ wx V, RdPs wx V [A, B] → Calls Try.prog 60 #[V] wx (MonsRes Z wx))) (Z4 : Hid (∀ z ∈ Z, z.length = 4)) :
    Calls Try.prog 18 #[.agg #[.int .i64 k0, .slice a0 m q0], .agg #[.int .i64 k0, .slice a1 n q1]] w (ResY (fitC k0 (Z.map (List.take k))) (fitL (Z.map (List.take k))) (fitD (Z.map (List.take k))) w) := by
  have UN : Hid (∀ wx u, RdY wx u (Z.map pwK) → Calls Try.prog 62 #[u, .int .i64 k0] wx (ResY (fitC k0 (Z.map (List.take k))) (fitL (Z.map (List.take k))) (fitD (Z.map (List.take k))) wx)) := Lib.hid (fun wx u hu => by rw [hk]; exact unpackedM_any u k Z wx hu hk4 Z4.out)
  clear hk hk4
  have hkb : (k0 != k0) = false := bne_self_eq_false _
  have HSD := Lib.hid SD
  clear SD
  have t2 := Try.underlying27
  obtain ⟨w1, hw1⟩ : ∃ w1, w1 = (((w.alloc (.cells #[.int .i64 k0, .slice a0 m q0] 27)).alloc (.cells #[.int .i64 k0, .slice a1 n q1] 27)).alloc (.cells #[.int .i64 0, .slice none 0 0] 27)) := ⟨_, rfl⟩
  have S1 : Hid (Bx3M w k0 (.slice a0 m q0) k0 (.slice a1 n q1) w1) := Lib.hid (by rw [hw1]; exact Bx3M.start _ _ _ _ _)
  have d0 := S1.out.boxA.c0
  have d1 := S1.out.boxA.c1
  go_enter Try.func18, Try.ntmps18
  go_upto_region 1 with fail
  rw [← hw1]
  clear hw1
  go_wp2_with fail
  refine (IP.out.1 w1 S1.out.bel).mono ?_
  rintro e w2 ⟨rfl, b2⟩
  have S2 := Lib.hid (S1.out.up b2)
  clear b2 S1 d0 d1
  have d0 := S2.out.boxB.c0
  have d1 := S2.out.boxB.c1
  go_wp2_with fail
  refine (IP.out.2 w2 S2.out.bel).mono ?_
  rintro e w3 ⟨rfl, b3⟩
  have S3 := Lib.hid (S2.out.up b3)
  clear b3 S2 d0 d1
  go_upto_region 3 with fail
  go_cut [36] (fun sl wx => sl = .bool false ∧ Hid (Bx3M w k0 (.slice a0 m q0) k0 (.slice a1 n q1) wx))
  case first =>
    have KEEP : Hid (∀ wx, Below w3.heap.size w3 wx → (wx.cell? ⟨w.heap.size, 0, none⟩ = some (.int .i64 k0) ∧ wx.cell? ⟨w.heap.size, 1, none⟩ = some (.slice a0 m q0) ∧ wx.cell? ⟨w.heap.size + 1, 0, none⟩ = some (.int .i64 k0) ∧ wx.cell? ⟨w.heap.size + 1, 1, none⟩ = some (.slice a1 n q1) ∧ Below w3.heap.size w3 wx)) :=
      Lib.hid (fun wx hb => ⟨(S3.out.boxA.up hb).c0, (S3.out.boxA.up hb).c1, (S3.out.boxB.up hb).c0, (S3.out.boxB.up hb).c1, hb⟩)
    have z0 : Below w3.heap.size w3 w3.drew := (Below.refl _ _).drew
    rcases HSD.out with h | ⟨h, h2⟩ | ⟨hm, hn, hxy⟩
    · have ZX : Hid (∀ wx, Calls Try.prog 59 #[.agg #[.int .i64 k0, .slice a0 m q0]] wx fun e w' => e = .returned (.bool true) ∧ Below wx.heap.size wx w') := Lib.hid fun wx => by
        have := isZeroP_any k0 a0 m q0 wx
        rw [decide_eq_true h] at this
        exact this
      clear h
      have d0 := S3.out.boxA.c0
      have d1 := S3.out.boxA.c1
      have d2 := S3.out.boxB.c0
      have d3 := S3.out.boxB.c1
      go_region_with (first
          | (go_at_call_of 59 (Value.agg #[Value.int IntKind.i64 k0, Value.slice a0 m q0]); refine (ZX.out _).mono ?_; rintro e wq ⟨rfl, bq⟩; have Tq := Lib.hid (S3.out.up (belD1 bq)); have dq0 := Tq.out.boxA.c0; have dq1 := Tq.out.boxA.c1; have dq2 := Tq.out.boxB.c0; have dq3 := Tq.out.boxB.c1))
      all_goals
        go_wp2_with fail
        go_meet
        exact ⟨rfl, Tq⟩
    · have ZX : Hid (∀ wx, Calls Try.prog 59 #[.agg #[.int .i64 k0, .slice a0 m q0]] wx fun e w' => e = .returned (.bool false) ∧ Below wx.heap.size wx w') := Lib.hid fun wx => by
        have := isZeroP_any k0 a0 m q0 wx
        rw [decide_eq_false (by omega : ¬ m = 0)] at this
        exact this
      have ZY : Hid (∀ wx, Calls Try.prog 59 #[.agg #[.int .i64 k0, .slice a1 n q1]] wx fun e w' => e = .returned (.bool true) ∧ Below wx.heap.size wx w') := Lib.hid fun wx => by
        have := isZeroP_any k0 a1 n q1 wx
        rw [decide_eq_true h2] at this
        exact this
      clear h h2
      have d0 := S3.out.boxA.c0
      have d1 := S3.out.boxA.c1
      have d2 := S3.out.boxB.c0
      have d3 := S3.out.boxB.c1
      go_region_with (first
          | (go_at_call_of 59 (Value.agg #[Value.int IntKind.i64 k0, Value.slice a0 m q0]); refine (ZX.out _).mono ?_; rintro e wq ⟨rfl, bq⟩; have Tq := Lib.hid (S3.out.up (belD1 bq)); have dq0 := Tq.out.boxA.c0; have dq1 := Tq.out.boxA.c1; have dq2 := Tq.out.boxB.c0; have dq3 := Tq.out.boxB.c1)
          | (go_at_call_of 59 (Value.agg #[Value.int IntKind.i64 k0, Value.slice a1 n q1]); refine (ZY.out _).mono ?_; rintro e ws ⟨rfl, bs⟩; have Ts := Lib.hid (Tq.out.up bs); have ds0 := Ts.out.boxA.c0; have ds1 := Ts.out.boxA.c1; have ds2 := Ts.out.boxB.c0; have ds3 := Ts.out.boxB.c1))
      all_goals
        go_wp2_with fail
        go_meet
        exact ⟨rfl, Ts⟩
    · have hxb : (x != y) = false := by rw [bne_eq_false_iff_eq]; exact hxy
      have ZX : Hid (∀ wx, Calls Try.prog 59 #[.agg #[.int .i64 k0, .slice a0 m q0]] wx fun e w' => e = .returned (.bool false) ∧ Below wx.heap.size wx w') := Lib.hid fun wx => by
        have := isZeroP_any k0 a0 m q0 wx
        rw [decide_eq_false (by omega : ¬ m = 0)] at this
        exact this
      have ZY : Hid (∀ wx, Calls Try.prog 59 #[.agg #[.int .i64 k0, .slice a1 n q1]] wx fun e w' => e = .returned (.bool false) ∧ Below wx.heap.size wx w') := Lib.hid fun wx => by
        have := isZeroP_any k0 a1 n q1 wx
        rw [decide_eq_false (by omega : ¬ n = 0)] at this
        exact this
      clear hm hn hxy
      go_region_held3 (fun wx => wx.cell? ⟨w.heap.size, 0, none⟩ = some (.int .i64 k0) ∧ wx.cell? ⟨w.heap.size, 1, none⟩ = some (.slice a0 m q0) ∧ wx.cell? ⟨w.heap.size + 1, 0, none⟩ = some (.int .i64 k0) ∧ wx.cell? ⟨w.heap.size + 1, 1, none⟩ = some (.slice a1 n q1) ∧ Below w3.heap.size w3 wx)
        (first | exact KEEP.out _ (Below.refl _ _).drew | exact KEEP.out _ (by assumption))
        (first
          | (go_at_call_of 59 (Value.agg #[Value.int IntKind.i64 k0, Value.slice a0 m q0]); refine (ZX.out _).mono ?_; rintro e w4 ⟨rfl, b4⟩; have z4 := z0.step1 b4)
          | (go_at_call_of 59 (Value.agg #[Value.int IntKind.i64 k0, Value.slice a1 n q1]); refine (ZY.out _).mono ?_; rintro e w5 ⟨rfl, b5⟩; have z5 := z4.step1 b5)
          | (go_at_call_of 54 (Value.agg #[Value.int IntKind.i64 k0, Value.slice a0 m q0]); refine (DX.out _ (S3.out.bel.step1 z5)).mono ?_; rintro e w6 ⟨rfl, b6⟩; have z6 := z5.step1 b6)
          | (go_at_call_of 54 (Value.agg #[Value.int IntKind.i64 k0, Value.slice a1 n q1]); refine (DY.out _ (S3.out.bel.step1 z6)).mono ?_; rintro e w7 ⟨rfl, b7⟩; have z7 := z6.step1 b7))
      all_goals
        go_wp2_with fail
        go_meet
        exact ⟨rfl, Lib.hid (S3.out.up z7)⟩
  case rest =>
    obtain ⟨rfl, S5⟩ := hcut
    clear S3 HSD
    rename Hid (Bx3M w k0 (.slice a0 m q0) k0 (.slice a1 n q1) wc) => S3
    generalize fitL (Z.map (List.take k)) = M at *
    generalize fitC k0 (Z.map (List.take k)) = C at *
    generalize fitD (Z.map (List.take k)) = cd at *
    have KEEP : Hid (∀ wx, wc.grownBy wx (some (w.heap.size + 1 + 1)) → (wx.cell? ⟨w.heap.size, 0, none⟩ = some (.int .i64 k0) ∧ wx.cell? ⟨w.heap.size, 1, none⟩ = some (.slice a0 m q0) ∧ wx.cell? ⟨w.heap.size + 1, 0, none⟩ = some (.int .i64 k0) ∧ wx.cell? ⟨w.heap.size + 1, 1, none⟩ = some (.slice a1 n q1) ∧ wc.grownBy wx (some (w.heap.size + 1 + 1)))) :=
      Lib.hid (fun wx hb => ⟨(S3.out.boxA.gb hb (by omega)).c0, (S3.out.boxA.gb hb (by omega)).c1, (S3.out.boxB.gb hb (by omega)).c0, (S3.out.boxB.gb hb (by omega)).c1, hb⟩)
    have z0 : Below wc.heap.size wc wc.drew := (Below.refl _ _).drew
    have gR := S3.out.boxR.lt
    have gb0 : wc.grownBy wc.drew (some (w.heap.size + 1 + 1)) := gb_below z0 _
    have OE := Lib.hid (fun wD va vc VS b f s => okEndM (wD := wD) (C := C) (M := M) (va := va) (vc := vc) (VS := VS) S3.out b f s cd)
    have GE := S3.out.bel.size
    go_wp2_with fail
    go_region_held3 (fun wx => wx.cell? ⟨w.heap.size, 0, none⟩ = some (.int .i64 k0) ∧ wx.cell? ⟨w.heap.size, 1, none⟩ = some (.slice a0 m q0) ∧ wx.cell? ⟨w.heap.size + 1, 0, none⟩ = some (.int .i64 k0) ∧ wx.cell? ⟨w.heap.size + 1, 1, none⟩ = some (.slice a1 n q1) ∧ wc.grownBy wx (some (w.heap.size + 1 + 1)))
      (first | exact KEEP.out _ gb0 | exact KEEP.out _ (by assumption) | exact KEEP.out _ (gb_below (z7.step1 ((Below.refl _ _).alloc (Nat.le_refl _) _)) _) | exact KEEP.out _ (gb_set (gb_below z9 _) gR 0 _) | exact KEEP.out _ (gb_set (gb_set (gb_below z9 _) gR 0 _) gR 1 _))
      (first
        | (go_at_call_of 61 (Value.agg #[Value.int IntKind.i64 k0, Value.slice a0 m q0]); refine (PF.out _ (S3.out.bel.step1 z0)).mono ?_; rintro e w6 ⟨u6, rfl, r6, b6⟩; obtain ⟨a6, n6, q6, rfl⟩ := rdY_shape r6; have gb6 := gb_below (z0.step1 b6) (some (w.heap.size + 1 + 1)); have z6 := z0.step1 b6)
        | (go_at_call_of 61 (Value.agg #[Value.int IntKind.i64 k0, Value.slice a1 n q1]); refine (PG.out _ (S3.out.bel.step1 z6)).mono ?_; rintro e w7 ⟨u7, rfl, r7, b7⟩; obtain ⟨a7, n7, q7, rfl⟩ := rdY_shape r7; have gb7 := gb_below (z6.step1 b7) (some (w.heap.size + 1 + 1)); have z7 := z6.step1 b7; have r67 := r6.below b7)
        | (go_at_call 60; refine (JN.out _ _ (rdPs_two r67 r7)).mono ?_; rintro e w8 ⟨u8, rfl, o8, b8⟩; have b78 : Below w7.heap.size w7 w8 := Below.step1 ((Below.refl _ _).alloc (Nat.le_refl _) _) b8; have gb8 := gb_below (z7.step1 b78) (some (w.heap.size + 1 + 1)); have z8 := z7.step1 b78; have r8 := rdY_of_own o8 Z4.out)
        | (go_at_call 62; refine (UN.out _ u8 r8).mono ?_; rintro e w9 ⟨v9, vs9, rfl, f9, s9, b9⟩; have gb9 := gb_below (z8.step1 b9) (some (w.heap.size + 1 + 1)); have z9 := z8.step1 b9; have p9 := Fam.base (B' := w.heap.size) f9 (Nat.le_trans GE z8.size); have y0 := (S3.out.boxR.up z9).c0; have y1 := (S3.out.boxR.up z9).c1; have y2 := (S3.out.boxR.up z9).fr 0; have y3 := (S3.out.boxR.up z9).fr 1; obtain ⟨va9, vc9, rfl, _, _⟩ := Fam.head p9))
    have FIN := Lib.hid (OE.out w9 va9 vc9 vs9 z9 p9 s9)
    clear z0 z6 z7 z8 z9 r6 r7 r67 r8 b6 b7 b8 b78 b9 o8 f9 p9 s9 y0 y1 y2 y3 KEEP S3 OE
    go_wp2_with fail
    refine bodyPost_ret (results_box2_tmp rfl _ _ (w.heap.size + 1 + 1) _ _ _ rfl FIN.out.1 t2 (by kernel_rfl)) rfl ?_
    exact FIN.out.2
end Go.Proofs.Ytnfhfilconcajaa.Pl
end
