/-
  Joined: YImMul.
-/
import Derived.Test.YtnfhfilconcajaaZtTotalSquare26
import Derived.Test.YtnfhfilconcajaaZtTotalSquare27
import Derived.Test.YtnfhfilconcajaaZtTotalSquare30
section
namespace Go.Proofs.Ytnfhfilconcajaa.Pl
open Go.RowKit
set_option linter.unusedVariables false
set_option maxRecDepth 100000

/-- What IsPoly tells of both. -/
def IsPsM (r0 r1 : Bool) (k0 k1 : Int) (a0 a1 : Option Addr) (m n q0 q1 : Nat) (w : World) : Prop :=
  (∀ wx, Below w.heap.size w wx → Calls Try.prog 15 #[.agg #[.int .i64 k0, .slice a0 m q0]] wx (SaysB r0 wx)) ∧ (∀ wx, Below w.heap.size w wx → Calls Try.prog 15 #[.agg #[.int .i64 k1, .slice a1 n q1]] wx (SaysB r1 wx))

theorem gb_below {w w' : World} (h : Below w.heap.size w w') (q : Option Nat) : w.grownBy w' q := ⟨h.os, h.tape, h.output, h.size, fun k hk _ => h.block k hk⟩
theorem _root_.Go.Proofs.Ytnfhfilconcajaa.Box.gb {w w' : World} {g R : Nat} {t : TypeId} {x y : Value} (h : Box w g t x y) (k : w.grownBy w' (some R)) (hne : g ≠ R) : Box w' g t x y := (k.block g h.lt (by simpa using hne)).trans h

/-- RdSS, told of a degree: 0 has the degree 0. -/
def DegPM (w : World) (k : Int) (a : Option Addr) (m q : Nat) (x : Int) : Prop := ∀ wx, Below w.heap.size w wx → Calls Try.prog 54 #[.agg #[.int .i64 k, .slice a m q]] wx fun e w' => e = .returned (.int .i64 x) ∧ Below wx.heap.size wx w'

theorem implMul_bad0 (r1 : Bool) (k0 k1 : Int) (a0 a1 : Option Addr) (m n q0 q1 : Nat) (w : World) (IP : Hid (IsPsM false r1 k0 k1 a0 a1 m n q0 q1 w)) :
    Calls Try.prog 22 #[.agg #[.int .i64 k0, .slice a0 m q0], .agg #[.int .i64 k1, .slice a1 n q1]] w (ResY 0 [] 1 w) := by
  have t2 := Try.underlying27
  obtain ⟨w1, hw1⟩ : ∃ w1, w1 = (((w.alloc (.cells #[.int .i64 k0, .slice a0 m q0] 27)).alloc (.cells #[.int .i64 k1, .slice a1 n q1] 27)).alloc (.cells #[.int .i64 0, .slice none 0 0] 27)) := ⟨_, rfl⟩
  have S1 : Hid (Bx3M w k0 (.slice a0 m q0) k1 (.slice a1 n q1) w1) := Lib.hid (by rw [hw1]; exact Bx3M.start _ _ _ _ _)
  have d0 := S1.out.boxA.c0
  have d1 := S1.out.boxA.c1
  go_enter Try.func22, Try.ntmps22
  go_upto_region 1 with fail
  rw [← hw1]
  clear hw1
  go_wp2_with fail
  refine (IP.out.1 w1 S1.out.bel).mono ?_
  rintro e w2 ⟨rfl, b2⟩
  have S2 := Lib.hid (S1.out.up b2)
  clear b2 S1 d0 d1
  have S3 := S2
  clear S2
  have r0 := S3.out.boxR.c0
  have r1 := S3.out.boxR.c1
  have f0 := S3.out.boxR.fr 0
  have f1 := S3.out.boxR.fr 1
  go_wp2_with fail
  refine bodyPost_ret (results_box2_tmp rfl _ _ (w.heap.size + 1 + 1) _ _ _ rfl ((S3.out.boxR.set0 _).set1 _) t2 (by kernel_rfl)) rfl ?_
  exact ⟨_, fun _ => undef, rfl, famNil _ _, sepNil, (S3.out.bel.setCell (p := ⟨w.heap.size + 1 + 1, 0, none⟩) (by simp; omega) _).setCell (p := ⟨w.heap.size + 1 + 1, 1, none⟩) (by simp; omega) _⟩

theorem implMul_bad1 (k0 k1 : Int) (a0 a1 : Option Addr) (m n q0 q1 : Nat) (w : World) (IP : Hid (IsPsM true false k0 k1 a0 a1 m n q0 q1 w)) :
    Calls Try.prog 22 #[.agg #[.int .i64 k0, .slice a0 m q0], .agg #[.int .i64 k1, .slice a1 n q1]] w (ResY 0 [] 1 w) := by
  have t2 := Try.underlying27
  obtain ⟨w1, hw1⟩ : ∃ w1, w1 = (((w.alloc (.cells #[.int .i64 k0, .slice a0 m q0] 27)).alloc (.cells #[.int .i64 k1, .slice a1 n q1] 27)).alloc (.cells #[.int .i64 0, .slice none 0 0] 27)) := ⟨_, rfl⟩
  have S1 : Hid (Bx3M w k0 (.slice a0 m q0) k1 (.slice a1 n q1) w1) := Lib.hid (by rw [hw1]; exact Bx3M.start _ _ _ _ _)
  have d0 := S1.out.boxA.c0
  have d1 := S1.out.boxA.c1
  go_enter Try.func22, Try.ntmps22
  go_upto_region 1 with fail
  rw [← hw1]
  clear hw1
  go_wp2_with fail
  refine (IP.out.1 w1 S1.out.bel).mono ?_
  rintro e w2 ⟨rfl, b2⟩
  have S2 := Lib.hid (S1.out.up b2)
  clear b2 S1 d0 d1
  have d0 := S2.out.boxB.c0
  have d1 := S2.out.boxB.c1
  go_wp2_with fail
  refine (IP.out.2 w2 S2.out.bel).mono ?_
  rintro e w3 ⟨rfl, b3⟩
  have S3 := Lib.hid (S2.out.up b3)
  clear b3 S2 d0 d1
  have r0 := S3.out.boxR.c0
  have r1 := S3.out.boxR.c1
  have f0 := S3.out.boxR.fr 0
  have f1 := S3.out.boxR.fr 1
  go_wp2_with fail
  refine bodyPost_ret (results_box2_tmp rfl _ _ (w.heap.size + 1 + 1) _ _ _ rfl ((S3.out.boxR.set0 _).set1 _) t2 (by kernel_rfl)) rfl ?_
  exact ⟨_, fun _ => undef, rfl, famNil _ _, sepNil, (S3.out.bel.setCell (p := ⟨w.heap.size + 1 + 1, 0, none⟩) (by simp; omega) _).setCell (p := ⟨w.heap.size + 1 + 1, 1, none⟩) (by simp; omega) _⟩

theorem implMul_var (k0 k1 : Int) (a0 a1 : Option Addr) (m n q0 q1 : Nat) (w : World) (hk : k0 ≠ k1) (IP : Hid (IsPsM true true k0 k1 a0 a1 m n q0 q1 w)) :
    Calls Try.prog 22 #[.agg #[.int .i64 k0, .slice a0 m q0], .agg #[.int .i64 k1, .slice a1 n q1]] w (ResY 0 [] 2 w) := by
  have hkb : (k0 != k1) = true := by rw [bne_iff_ne]; exact hk
  clear hk
  have t2 := Try.underlying27
  obtain ⟨w1, hw1⟩ : ∃ w1, w1 = (((w.alloc (.cells #[.int .i64 k0, .slice a0 m q0] 27)).alloc (.cells #[.int .i64 k1, .slice a1 n q1] 27)).alloc (.cells #[.int .i64 0, .slice none 0 0] 27)) := ⟨_, rfl⟩
  have S1 : Hid (Bx3M w k0 (.slice a0 m q0) k1 (.slice a1 n q1) w1) := Lib.hid (by rw [hw1]; exact Bx3M.start _ _ _ _ _)
  have d0 := S1.out.boxA.c0
  have d1 := S1.out.boxA.c1
  go_enter Try.func22, Try.ntmps22
  go_upto_region 1 with fail
  rw [← hw1]
  clear hw1
  go_wp2_with fail
  refine (IP.out.1 w1 S1.out.bel).mono ?_
  rintro e w2 ⟨rfl, b2⟩
  have S2 := Lib.hid (S1.out.up b2)
  clear b2 S1 d0 d1
  have d0 := S2.out.boxB.c0
  have d1 := S2.out.boxB.c1
  go_wp2_with fail
  refine (IP.out.2 w2 S2.out.bel).mono ?_
  rintro e w3 ⟨rfl, b3⟩
  have S3 := Lib.hid (S2.out.up b3)
  clear b3 S2 d0 d1
  have d0 := S3.out.boxA.c0
  have d1 := S3.out.boxB.c0
  have r0 := S3.out.boxR.c0
  have r1 := S3.out.boxR.c1
  have f0 := S3.out.boxR.fr 0
  have f1 := S3.out.boxR.fr 1
  go_wp2_with fail
  refine bodyPost_ret (results_box2_tmp rfl _ _ (w.heap.size + 1 + 1) _ _ _ rfl ((S3.out.boxR.set0 _).set1 _) t2 (by kernel_rfl)) rfl ?_
  exact ⟨_, fun _ => undef, rfl, famNil _ _, sepNil, (S3.out.bel.setCell (p := ⟨w.heap.size + 1 + 1, 0, none⟩) (by simp; omega) _).setCell (p := ⟨w.heap.size + 1 + 1, 1, none⟩) (by simp; omega) _⟩

set_option maxHeartbeats 1000000 in
theorem implMul_over (x y : Int) (k0 : Int) (a0 a1 : Option Addr) (m n q0 q1 : Nat) (w : World) (hx : 0 ≤ x ∧ x ≤ 40) (hy : 0 ≤ y ∧ y ≤ 40) (hxy : 40 < x + y) (IP : Hid (IsPsM true true k0 k0 a0 a1 m n q0 q1 w)) (DX : Hid (DegPM w k0 a0 m q0 x)) (DY : Hid (DegPM w k0 a1 n q1 y)) :
    Calls Try.prog 22 #[.agg #[.int .i64 k0, .slice a0 m q0], .agg #[.int .i64 k0, .slice a1 n q1]] w (ResY 0 [] 3 w) := by
  have hw : wrap64 (x + y) = x + y := wrap_sm (by omega) (by omega)
  have hw2 : IntKind.i64.wrap (x + y) = x + y := by rw [IntKind.wrap_i64]; omega
  have hov : decide (40 < x + y) = true := decide_eq_true (by omega)
  have hkb : (k0 != k0) = false := bne_self_eq_false _
  clear hxy
  have t2 := Try.underlying27
  obtain ⟨w1, hw1⟩ : ∃ w1, w1 = (((w.alloc (.cells #[.int .i64 k0, .slice a0 m q0] 27)).alloc (.cells #[.int .i64 k0, .slice a1 n q1] 27)).alloc (.cells #[.int .i64 0, .slice none 0 0] 27)) := ⟨_, rfl⟩
  have S1 : Hid (Bx3M w k0 (.slice a0 m q0) k0 (.slice a1 n q1) w1) := Lib.hid (by rw [hw1]; exact Bx3M.start _ _ _ _ _)
  have d0 := S1.out.boxA.c0
  have d1 := S1.out.boxA.c1
  go_enter Try.func22, Try.ntmps22
  go_upto_region 1 with fail
  rw [← hw1]
  clear hw1
  go_wp2_with fail
  refine (IP.out.1 w1 S1.out.bel).mono ?_
  rintro e w2 ⟨rfl, b2⟩
  have S2 := Lib.hid (S1.out.up b2)
  clear b2 S1 d0 d1
  have d0 := S2.out.boxB.c0
  have d1 := S2.out.boxB.c1
  go_wp2_with fail
  refine (IP.out.2 w2 S2.out.bel).mono ?_
  rintro e w3 ⟨rfl, b3⟩
  have S3 := Lib.hid (S2.out.up b3)
  clear b3 S2 d0 d1
  have d0 := S3.out.boxA.c0
  have d1 := S3.out.boxB.c0
  have KEEP : Hid (∀ wx, Below w3.heap.size w3 wx → (wx.cell? ⟨w.heap.size, 0, none⟩ = some (.int .i64 k0) ∧ wx.cell? ⟨w.heap.size, 1, none⟩ = some (.slice a0 m q0) ∧ wx.cell? ⟨w.heap.size + 1, 0, none⟩ = some (.int .i64 k0) ∧ wx.cell? ⟨w.heap.size + 1, 1, none⟩ = some (.slice a1 n q1) ∧ Below w3.heap.size w3 wx)) :=
    Lib.hid (fun wx hb => ⟨(S3.out.boxA.up hb).c0, (S3.out.boxA.up hb).c1, (S3.out.boxB.up hb).c0, (S3.out.boxB.up hb).c1, hb⟩)
  have z0 : Below w3.heap.size w3 w3.drew := (Below.refl _ _).drew
  go_wp2_with fail
  clear d0 d1
  go_region_held3 (fun wx => wx.cell? ⟨w.heap.size, 0, none⟩ = some (.int .i64 k0) ∧ wx.cell? ⟨w.heap.size, 1, none⟩ = some (.slice a0 m q0) ∧ wx.cell? ⟨w.heap.size + 1, 0, none⟩ = some (.int .i64 k0) ∧ wx.cell? ⟨w.heap.size + 1, 1, none⟩ = some (.slice a1 n q1) ∧ Below w3.heap.size w3 wx)
    (first | exact KEEP.out _ (Below.refl _ _).drew | exact KEEP.out _ (by assumption))
    (first
      | (go_at_call_of 54 (Value.agg #[Value.int IntKind.i64 k0, Value.slice a0 m q0]); refine (DX.out _ (S3.out.bel.step1 z0)).mono ?_; rintro e w4 ⟨rfl, b4⟩; have z4 := z0.step1 b4)
      | (go_at_call_of 54 (Value.agg #[Value.int IntKind.i64 k0, Value.slice a1 n q1]); refine (DY.out _ (S3.out.bel.step1 z4)).mono ?_; rintro e w5 ⟨rfl, b5⟩; have z5 := z4.step1 b5))
  have S4 := Lib.hid (S3.out.up z5)
  clear z0 z4 z5 b4 b5 S3 KEEP
  rename Hid (Bx3M w k0 (.slice a0 m q0) k0 (.slice a1 n q1) w5) => S3
  have r0 := S3.out.boxR.c0
  have r1 := S3.out.boxR.c1
  have f0 := S3.out.boxR.fr 0
  have f1 := S3.out.boxR.fr 1
  go_wp2_with fail
  refine bodyPost_ret (results_box2_tmp rfl _ _ (w.heap.size + 1 + 1) _ _ _ rfl ((S3.out.boxR.set0 _).set1 _) t2 (by kernel_rfl)) rfl ?_
  exact ⟨_, fun _ => undef, rfl, famNil _ _, sepNil, (S3.out.bel.setCell (p := ⟨w.heap.size + 1 + 1, 0, none⟩) (by simp; omega) _).setCell (p := ⟨w.heap.size + 1 + 1, 1, none⟩) (by simp; omega) _⟩

/-- What ends the call with a polynomial. -/
theorem okEndM {w w3 wD : World} {k0 k1 : Int} {V0 V1 : Value} {C : Int} {M : List (List Int)} {va : Option Addr} {vc : Nat} {VS : Nat → Value} (h : Bx3M w k0 V0 k1 V1 w3) (b : Below w3.heap.size w3 wD) (f : FamL wD w.heap.size (.slice va M.length vc) VS M) (s : Sep M.length VS) (cd : Int) :
    Box ((wD.setCell ⟨w.heap.size + 1 + 1, 0, none⟩ (.int .i64 C)).setCell ⟨w.heap.size + 1 + 1, 1, none⟩ (.slice va M.length vc)) (w.heap.size + 1 + 1) 27 (.int .i64 C) (.slice va M.length vc) ∧
    ResY C M cd w (.returned (.tuple #[.agg #[.int .i64 C, .slice va M.length vc], .int .i64 cd])) ((wD.setCell ⟨w.heap.size + 1 + 1, 0, none⟩ (.int .i64 C)).setCell ⟨w.heap.size + 1 + 1, 1, none⟩ (.slice va M.length vc)) := by
  have S9 := h.up b
  have FIN := OwnF.stored (w0 := w) (c := C) S9.boxR f s (by omega)
  exact ⟨FIN.box, _, VS, rfl, FIN.fam, FIN.sep, (S9.bel.setCell (p := ⟨w.heap.size + 1 + 1, 0, none⟩) (by simp; omega) _).setCell (p := ⟨w.heap.size + 1 + 1, 1, none⟩) (by simp; omega) _⟩

theorem unpackedM_any (v : Value) (k : Nat) (zs : List (List Int)) (w : World) (h : RdY w v (zs.map pwK)) (hk : 1 ≤ k ∧ k ≤ 4) (hz : ∀ z ∈ zs, z.length = 4) :
    Calls Try.prog 62 #[v, .int .i64 (k : Int)] w (ResY (fitC k (zs.map (List.take k))) (fitL (zs.map (List.take k))) (fitD (zs.map (List.take k))) w) := by
  by_cases hl : zs.length ≤ 2000
  · have h2 : (zs.map (List.take k)).length ≤ 2000 := by rw [List.length_map]; exact hl
    rw [show fitC (k : Int) (zs.map (List.take k)) = (k : Int) from if_pos h2, show fitL (zs.map (List.take k)) = zs.map (List.take k) from if_pos h2, show fitD (zs.map (List.take k)) = 0 from if_pos h2]
    exact unpacked_few v k zs w h hl hk hz
  · have h2 : ¬ (zs.map (List.take k)).length ≤ 2000 := by rw [List.length_map]; exact hl
    rw [show fitC (k : Int) (zs.map (List.take k)) = 0 from if_neg h2, show fitL (zs.map (List.take k)) = [] from if_neg h2, show fitD (zs.map (List.take k)) = 3 from if_neg h2]
    exact unpacked_many v k zs w h (by omega)

set_option maxHeartbeats 4000000 in
theorem implMul_ok (x y : Int) (k : Nat) (k0 : Int) (a0 a1 : Option Addr) (m n q0 q1 : Nat) (Z : List (List Int)) (A B : List (List Int)) (w : World) (hk : k0 = (k : Int)) (hk4 : 1 ≤ k ∧ k ≤ 4) (hx : 0 ≤ x ∧ x ≤ 40) (hy : 0 ≤ y ∧ y ≤ 40) (hxy : x + y ≤ 40) (IP : Hid (IsPsM true true k0 k0 a0 a1 m n q0 q1 w)) (DX : Hid (DegPM w k0 a0 m q0 x)) (DY : Hid (DegPM w k0 a1 n q1 y))
    (PF : Hid (∀ wx, Below w.heap.size w wx → Calls Try.prog 61 #[.agg #[.int .i64 k0, .slice a0 m q0]] wx fun e w' => ∃ u, e = .returned u ∧ RdY w' u (A.map pwK) ∧ Below wx.heap.size wx w'))
    (PG : Hid (∀ wx, Below w.heap.size w wx → Calls Try.prog 61 #[.agg #[.int .i64 k0, .slice a1 n q1]] wx fun e w' => ∃ u, e = .returned u ∧ RdY w' u (B.map pwK) ∧ Below wx.heap.size wx w'))
    (TM : Hid (∀ wx va vb, RdY wx va (A.map pwK) → RdY wx vb (B.map pwK) → Calls Try.prog 64 #[va, vb] wx (MonsRes Z wx))) (Z4 : Hid (∀ z ∈ Z, z.length = 4)) :
    Calls Try.prog 22 #[.agg #[.int .i64 k0, .slice a0 m q0], .agg #[.int .i64 k0, .slice a1 n q1]] w (ResY (fitC k0 (Z.map (List.take k))) (fitL (Z.map (List.take k))) (fitD (Z.map (List.take k))) w) := by
  have UN : Hid (∀ wx u, RdY wx u (Z.map pwK) → Calls Try.prog 62 #[u, .int .i64 k0] wx (ResY (fitC k0 (Z.map (List.take k))) (fitL (Z.map (List.take k))) (fitD (Z.map (List.take k))) wx)) := Lib.hid (fun wx u hu => by rw [hk]; exact unpackedM_any u k Z wx hu hk4 Z4.out)
  clear hk hk4
  have hw : wrap64 (x + y) = x + y := wrap_sm (by omega) (by omega)
  have hw2 : IntKind.i64.wrap (x + y) = x + y := by rw [IntKind.wrap_i64]; omega
  have hov : decide (40 < x + y) = false := decide_eq_false (by omega)
  have hkb : (k0 != k0) = false := bne_self_eq_false _
  clear hxy
  have t2 := Try.underlying27
  obtain ⟨w1, hw1⟩ : ∃ w1, w1 = (((w.alloc (.cells #[.int .i64 k0, .slice a0 m q0] 27)).alloc (.cells #[.int .i64 k0, .slice a1 n q1] 27)).alloc (.cells #[.int .i64 0, .slice none 0 0] 27)) := ⟨_, rfl⟩
  have S1 : Hid (Bx3M w k0 (.slice a0 m q0) k0 (.slice a1 n q1) w1) := Lib.hid (by rw [hw1]; exact Bx3M.start _ _ _ _ _)
  have d0 := S1.out.boxA.c0
  have d1 := S1.out.boxA.c1
  go_enter Try.func22, Try.ntmps22
  go_upto_region 1 with fail
  rw [← hw1]
  clear hw1
  go_wp2_with fail
  refine (IP.out.1 w1 S1.out.bel).mono ?_
  rintro e w2 ⟨rfl, b2⟩
  have S2 := Lib.hid (S1.out.up b2)
  clear b2 S1 d0 d1
  have d0 := S2.out.boxB.c0
  have d1 := S2.out.boxB.c1
  go_wp2_with fail
  refine (IP.out.2 w2 S2.out.bel).mono ?_
  rintro e w3 ⟨rfl, b3⟩
  have S3 := Lib.hid (S2.out.up b3)
  clear b3 S2 d0 d1
  have d0 := S3.out.boxA.c0
  have d1 := S3.out.boxB.c0
  have KEEP : Hid (∀ wx, Below w3.heap.size w3 wx → (wx.cell? ⟨w.heap.size, 0, none⟩ = some (.int .i64 k0) ∧ wx.cell? ⟨w.heap.size, 1, none⟩ = some (.slice a0 m q0) ∧ wx.cell? ⟨w.heap.size + 1, 0, none⟩ = some (.int .i64 k0) ∧ wx.cell? ⟨w.heap.size + 1, 1, none⟩ = some (.slice a1 n q1) ∧ Below w3.heap.size w3 wx)) :=
    Lib.hid (fun wx hb => ⟨(S3.out.boxA.up hb).c0, (S3.out.boxA.up hb).c1, (S3.out.boxB.up hb).c0, (S3.out.boxB.up hb).c1, hb⟩)
  have z0 : Below w3.heap.size w3 w3.drew := (Below.refl _ _).drew
  go_wp2_with fail
  clear d0 d1
  go_region_held3 (fun wx => wx.cell? ⟨w.heap.size, 0, none⟩ = some (.int .i64 k0) ∧ wx.cell? ⟨w.heap.size, 1, none⟩ = some (.slice a0 m q0) ∧ wx.cell? ⟨w.heap.size + 1, 0, none⟩ = some (.int .i64 k0) ∧ wx.cell? ⟨w.heap.size + 1, 1, none⟩ = some (.slice a1 n q1) ∧ Below w3.heap.size w3 wx)
    (first | exact KEEP.out _ (Below.refl _ _).drew | exact KEEP.out _ (by assumption))
    (first
      | (go_at_call_of 54 (Value.agg #[Value.int IntKind.i64 k0, Value.slice a0 m q0]); refine (DX.out _ (S3.out.bel.step1 z0)).mono ?_; rintro e w4 ⟨rfl, b4⟩; have z4 := z0.step1 b4)
      | (go_at_call_of 54 (Value.agg #[Value.int IntKind.i64 k0, Value.slice a1 n q1]); refine (DY.out _ (S3.out.bel.step1 z4)).mono ?_; rintro e w5 ⟨rfl, b5⟩; have z5 := z4.step1 b5))
  have S4 := Lib.hid (S3.out.up z5)
  clear z0 z4 z5 b4 b5 S3 KEEP
  rename Hid (Bx3M w k0 (.slice a0 m q0) k0 (.slice a1 n q1) w5) => S3

  generalize fitL (Z.map (List.take k)) = M at *
  generalize fitC k0 (Z.map (List.take k)) = C at *
  generalize fitD (Z.map (List.take k)) = cd at *
  have KEEP : Hid (∀ wx, w5.grownBy wx (some (w.heap.size + 1 + 1)) → (wx.cell? ⟨w.heap.size, 0, none⟩ = some (.int .i64 k0) ∧ wx.cell? ⟨w.heap.size, 1, none⟩ = some (.slice a0 m q0) ∧ wx.cell? ⟨w.heap.size + 1, 0, none⟩ = some (.int .i64 k0) ∧ wx.cell? ⟨w.heap.size + 1, 1, none⟩ = some (.slice a1 n q1) ∧ w5.grownBy wx (some (w.heap.size + 1 + 1)))) :=
    Lib.hid (fun wx hb => ⟨(S3.out.boxA.gb hb (by omega)).c0, (S3.out.boxA.gb hb (by omega)).c1, (S3.out.boxB.gb hb (by omega)).c0, (S3.out.boxB.gb hb (by omega)).c1, hb⟩)
  have z0 : Below w5.heap.size w5 w5.drew := (Below.refl _ _).drew
  have gR := S3.out.boxR.lt
  have gb0 : w5.grownBy w5.drew (some (w.heap.size + 1 + 1)) := gb_below z0 _
  have OE := Lib.hid (fun wD va vc VS b f s => okEndM (wD := wD) (C := C) (M := M) (va := va) (vc := vc) (VS := VS) S3.out b f s cd)
  have GE := S3.out.bel.size
  go_wp2_with fail
  go_region_held3 (fun wx => wx.cell? ⟨w.heap.size, 0, none⟩ = some (.int .i64 k0) ∧ wx.cell? ⟨w.heap.size, 1, none⟩ = some (.slice a0 m q0) ∧ wx.cell? ⟨w.heap.size + 1, 0, none⟩ = some (.int .i64 k0) ∧ wx.cell? ⟨w.heap.size + 1, 1, none⟩ = some (.slice a1 n q1) ∧ w5.grownBy wx (some (w.heap.size + 1 + 1)))
    (first | exact KEEP.out _ gb0 | exact KEEP.out _ (by assumption) | exact KEEP.out _ (gb_set (gb_below z9 _) gR 0 _) | exact KEEP.out _ (gb_set (gb_set (gb_below z9 _) gR 0 _) gR 1 _))
    (first
      | (go_at_call_of 61 (Value.agg #[Value.int IntKind.i64 k0, Value.slice a0 m q0]); refine (PF.out _ (S3.out.bel.step1 z0)).mono ?_; rintro e w6 ⟨u6, rfl, r6, b6⟩; have gb6 := gb_below (z0.step1 b6) (some (w.heap.size + 1 + 1)); have z6 := z0.step1 b6)
      | (go_at_call_of 61 (Value.agg #[Value.int IntKind.i64 k0, Value.slice a1 n q1]); refine (PG.out _ (S3.out.bel.step1 z6)).mono ?_; rintro e w7 ⟨u7, rfl, r7, b7⟩; have gb7 := gb_below (z6.step1 b7) (some (w.heap.size + 1 + 1)); have z7 := z6.step1 b7; have r67 := r6.below b7)
      | (go_at_call 64; refine (TM.out _ u6 u7 r67 r7).mono ?_; rintro e w8 ⟨u8, rfl, o8, b8⟩; have gb8 := gb_below (z7.step1 b8) (some (w.heap.size + 1 + 1)); have z8 := z7.step1 b8; have r8 := rdY_of_own o8 Z4.out)
      | (go_at_call 62; refine (UN.out _ u8 r8).mono ?_; rintro e w9 ⟨v9, vs9, rfl, f9, s9, b9⟩; have gb9 := gb_below (z8.step1 b9) (some (w.heap.size + 1 + 1)); have z9 := z8.step1 b9; have p9 := Fam.base (B' := w.heap.size) f9 (Nat.le_trans GE z8.size); have y0 := (S3.out.boxR.up z9).c0; have y1 := (S3.out.boxR.up z9).c1; have y2 := (S3.out.boxR.up z9).fr 0; have y3 := (S3.out.boxR.up z9).fr 1; obtain ⟨va9, vc9, rfl, _, _⟩ := Fam.head p9))
  have FIN := Lib.hid (OE.out w9 va9 vc9 vs9 z9 p9 s9)
  clear z0 z6 z7 z8 z9 r6 r7 r67 r8 b6 b7 b8 b9 o8 f9 p9 s9 y0 y1 y2 y3 KEEP S3 OE
  go_wp2_with fail
  refine bodyPost_ret (results_box2_tmp rfl _ _ (w.heap.size + 1 + 1) _ _ _ rfl FIN.out.1 t2 (by kernel_rfl)) rfl ?_
  exact FIN.out.2
end Go.Proofs.Ytnfhfilconcajaa.Pl
end
