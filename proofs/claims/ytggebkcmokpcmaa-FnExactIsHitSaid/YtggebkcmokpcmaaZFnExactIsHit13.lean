/-
  Joined: HNoI, HNoT.
-/
import Derived.Test.YtggebkcmokpcmaaZFnExactIsHit10
import Derived.Test.YtggebkcmokpcmaaZFnExactIsHit12
import Derived.Test.YtggebkcmokpcmaaZBHit28
import Derived.Test.YtggebkcmokpcmaaZBHit23
import Derived.Test.YtggebkcmokpcmaaZBHit36
section
namespace Go.Proofs.Ytggebkcmokpcmaa.Pl
open Go.RowKit
set_option linter.unusedVariables false
set_option maxRecDepth 100000

set_option maxHeartbeats 1000000 in
theorem implNo_bad (k0 : Int) (a0 : Option Addr) (m q0 : Nat) (w : World) (IS : Hid (∀ wx, Below w.heap.size w wx → Calls Try.prog 57 #[.agg #[.int .i64 k0, .slice a0 m q0]] wx (SaysB false wx))) :
    Calls Try.prog 27 #[.agg #[.int .i64 k0, .slice a0 m q0]] w (ResY 0 [] 1 w) := by
  have t2 := Try.underlying31
  obtain ⟨w1, hw1⟩ : ∃ w1, w1 = ((w.alloc (.cells #[.int .i64 k0, .slice a0 m q0] 31)).alloc (.cells #[.int .i64 0, .slice none 0 0] 31)) := ⟨_, rfl⟩
  have S1 : Hid (Bx2Q w k0 (.slice a0 m q0) w1) := Lib.hid (by rw [hw1]; exact Bx2Q.start _ _ _)
  have d0 := S1.out.boxA.c0
  have d1 := S1.out.boxA.c1
  go_enter Try.func27, Try.ntmps27
  go_upto_region 1 with fail
  rw [← hw1]
  clear hw1
  go_wp2_with fail
  refine (IS.out w1 S1.out.bel).mono ?_
  rintro e w2 ⟨rfl, b2⟩
  have S2 := Lib.hid (S1.out.up b2)
  clear b2 S1 d0 d1
  have r0 := S2.out.boxR.c0
  have r1 := S2.out.boxR.c1
  have f0 := S2.out.boxR.fr 0
  have f1 := S2.out.boxR.fr 1
  go_wp2_with fail
  refine bodyPost_ret (results_box2_tmp rfl _ _ (w.heap.size + 1) _ _ _ rfl ((S2.out.boxR.set0 _).set1 _) t2 (by kernel_rfl)) rfl ?_
  exact ⟨_, fun _ => undef, rfl, famNil _ _, sepNil, (S2.out.bel.setCell (p := ⟨w.heap.size + 1, 0, none⟩) (by simp) _).setCell (p := ⟨w.heap.size + 1, 1, none⟩) (by simp) _⟩

set_option maxHeartbeats 2000000 in
theorem implNo_over (x : Int) (k0 c : Int) (L : List (List Int)) (a0 : Option Addr) (m q0 : Nat) (w : World) (hc : c ≠ 0) (IS : Hid (∀ wx, Below w.heap.size w wx → Calls Try.prog 57 #[.agg #[.int .i64 k0, .slice a0 m q0]] wx (SaysB true wx))) (DX : Hid (DegPM w k0 a0 m q0 x))
    (HM : Hid (∀ wx, Calls Try.prog 44 #[.int .i64 k0, .int .i64 x] wx fun e w' => ∃ u, e = .returned (.tuple #[u, .int .i64 c]) ∧ OwnY w' wx.heap.size u ((L.map padY).map pwK) ∧ Below wx.heap.size wx w')) :
    Calls Try.prog 27 #[.agg #[.int .i64 k0, .slice a0 m q0]] w (ResY 0 [] c w) := by
  have t2 := Try.underlying31
  obtain ⟨w1, hw1⟩ : ∃ w1, w1 = ((w.alloc (.cells #[.int .i64 k0, .slice a0 m q0] 31)).alloc (.cells #[.int .i64 0, .slice none 0 0] 31)) := ⟨_, rfl⟩
  have S1 : Hid (Bx2Q w k0 (.slice a0 m q0) w1) := Lib.hid (by rw [hw1]; exact Bx2Q.start _ _ _)
  have d0 := S1.out.boxA.c0
  have d1 := S1.out.boxA.c1
  go_enter Try.func27, Try.ntmps27
  go_upto_region 1 with fail
  rw [← hw1]
  clear hw1
  go_wp2_with fail
  refine (IS.out w1 S1.out.bel).mono ?_
  rintro e w2 ⟨rfl, b2⟩
  have S2 := Lib.hid (S1.out.up b2)
  clear b2 S1 d0 d1
  have KEEP : Hid (∀ wx, Below w2.heap.size w2 wx → (wx.cell? ⟨w.heap.size, 0, none⟩ = some (.int .i64 k0) ∧ wx.cell? ⟨w.heap.size, 1, none⟩ = some (.slice a0 m q0) ∧ Below w2.heap.size w2 wx)) :=
    Lib.hid (fun wx hb => ⟨(S2.out.boxA.up hb).c0, (S2.out.boxA.up hb).c1, hb⟩)
  have D2 : Hid (∀ wx, Below w2.heap.size w2 wx → Calls Try.prog 58 #[.agg #[.int .i64 k0, .slice a0 m q0]] wx fun e w' => e = .returned (.int .i64 x) ∧ Below wx.heap.size wx w') := Lib.hid (fun wx hb => DX.out wx (S2.out.bel.step1 hb))
  go_wp2_with fail
  go_region_held3 (fun wx => wx.cell? ⟨w.heap.size, 0, none⟩ = some (.int .i64 k0) ∧ wx.cell? ⟨w.heap.size, 1, none⟩ = some (.slice a0 m q0) ∧ Below w2.heap.size w2 wx)
    (first | exact KEEP.out _ (Below.refl _ _).drew | exact KEEP.out _ (by assumption))
    (first
      | (go_at_call 58; refine (D2.out _ (Below.refl _ _).drew).mono ?_; rintro e w3 ⟨rfl, b3⟩; have z3 := belD1 b3)
      | (go_at_call 44; refine (HM.out _).mono ?_; rintro e w4 ⟨u4, rfl, o4, b4⟩; have z4 := z3.step1 b4))
  have S3 := Lib.hid (S2.out.up z4)
  clear z3 b3 z4 b4 o4 KEEP D2 S2
  have r0 := S3.out.boxR.c0
  have r1 := S3.out.boxR.c1
  have f0 := S3.out.boxR.fr 0
  have f1 := S3.out.boxR.fr 1
  go_wp2_with fail
  refine bodyPost_ret (results_box2_tmp rfl _ _ (w.heap.size + 1) _ _ _ rfl ((S3.out.boxR.set0 _).set1 _) t2 (by kernel_rfl)) rfl ?_
  exact ⟨_, fun _ => undef, rfl, famNil _ _, sepNil, (S3.out.bel.setCell (p := ⟨w.heap.size + 1, 0, none⟩) (by simp) _).setCell (p := ⟨w.heap.size + 1, 1, none⟩) (by simp) _⟩

set_option maxHeartbeats 4000000 in
theorem implNo_ok (x : Int) (k : Nat) (k0 : Int) (L A Z : List (List Int)) (R : List (List (List Int))) (a0 : Option Addr) (m q0 : Nat) (w : World) (hk : k0 = (k : Int)) (hk4 : 1 ≤ k ∧ k ≤ 4) (IS : Hid (∀ wx, Below w.heap.size w wx → Calls Try.prog 57 #[.agg #[.int .i64 k0, .slice a0 m q0]] wx (SaysB true wx))) (DX : Hid (DegPM w k0 a0 m q0 x))
    (HM : Hid (∀ wx, Calls Try.prog 44 #[.int .i64 k0, .int .i64 x] wx fun e w' => ∃ u, e = .returned (.tuple #[u, .int .i64 0]) ∧ OwnY w' wx.heap.size u ((L.map padY).map pwK) ∧ Below wx.heap.size wx w'))
    (HS : Hid (∀ wx, Calls Try.prog 45 #[.int .i64 k0, .int .i64 x] wx (HsPost R wx)))
    (PF : Hid (∀ wx, Below w.heap.size w wx → Calls Try.prog 60 #[.agg #[.int .i64 k0, .slice a0 m q0]] wx fun e w' => ∃ u, e = .returned u ∧ OwnY w' 0 u (A.map pwK) ∧ Below wx.heap.size wx w'))
    (RM : Hid (∀ wx S v zs B, FamY wx B S zs → rzR zs = padR R → OwnY wx 0 v (A.map pwK) → Calls Try.prog 59 #[S, v] wx fun e w' => ∃ u, e = .returned u ∧ OwnY w' 0 u (Z.map pwK) ∧ Below wx.heap.size wx w')) (Z4 : Hid (∀ z ∈ Z, z.length = 4)) :
    Calls Try.prog 27 #[.agg #[.int .i64 k0, .slice a0 m q0]] w (ResY (fitC k0 (Z.map (List.take k))) (fitL (Z.map (List.take k))) (fitD (Z.map (List.take k))) w) := by
  have UN : Hid (∀ wx u, RdY wx u (Z.map pwK) → Calls Try.prog 55 #[u, .int .i64 k0] wx (ResY (fitC k0 (Z.map (List.take k))) (fitL (Z.map (List.take k))) (fitD (Z.map (List.take k))) wx)) := Lib.hid (fun wx u hu => by rw [hk]; exact unpackedM_any u k Z wx hu hk4 Z4.out)
  clear hk hk4
  have t2 := Try.underlying31
  obtain ⟨w1, hw1⟩ : ∃ w1, w1 = ((w.alloc (.cells #[.int .i64 k0, .slice a0 m q0] 31)).alloc (.cells #[.int .i64 0, .slice none 0 0] 31)) := ⟨_, rfl⟩
  have S1 : Hid (Bx2Q w k0 (.slice a0 m q0) w1) := Lib.hid (by rw [hw1]; exact Bx2Q.start _ _ _)
  have d0 := S1.out.boxA.c0
  have d1 := S1.out.boxA.c1
  go_enter Try.func27, Try.ntmps27
  go_upto_region 1 with fail
  rw [← hw1]
  clear hw1
  go_wp2_with fail
  refine (IS.out w1 S1.out.bel).mono ?_
  rintro e w2 ⟨rfl, b2⟩
  have S2 := Lib.hid (S1.out.up b2)
  clear b2 S1 d0 d1
  have KEEP : Hid (∀ wx, Below w2.heap.size w2 wx → (wx.cell? ⟨w.heap.size, 0, none⟩ = some (.int .i64 k0) ∧ wx.cell? ⟨w.heap.size, 1, none⟩ = some (.slice a0 m q0) ∧ Below w2.heap.size w2 wx)) :=
    Lib.hid (fun wx hb => ⟨(S2.out.boxA.up hb).c0, (S2.out.boxA.up hb).c1, hb⟩)
  have D2 : Hid (∀ wx, Below w2.heap.size w2 wx → Calls Try.prog 58 #[.agg #[.int .i64 k0, .slice a0 m q0]] wx fun e w' => e = .returned (.int .i64 x) ∧ Below wx.heap.size wx w') := Lib.hid (fun wx hb => DX.out wx (S2.out.bel.step1 hb))
  go_wp2_with fail
  go_region_held3 (fun wx => wx.cell? ⟨w.heap.size, 0, none⟩ = some (.int .i64 k0) ∧ wx.cell? ⟨w.heap.size, 1, none⟩ = some (.slice a0 m q0) ∧ Below w2.heap.size w2 wx)
    (first | exact KEEP.out _ (Below.refl _ _).drew | exact KEEP.out _ (by assumption))
    (first
      | (go_at_call 58; refine (D2.out _ (Below.refl _ _).drew).mono ?_; rintro e w3 ⟨rfl, b3⟩; have z3 := belD1 b3)
      | (go_at_call 44; refine (HM.out _).mono ?_; rintro e w4 ⟨u4, rfl, o4, b4⟩; have z4 := z3.step1 b4))
  have S4 := Lib.hid (S2.out.up z4)
  clear z3 b3 z4 b4 o4 KEEP D2 S2
  rename Hid (Bx2Q w k0 _ w4) => S3
  rename World => w3
  generalize fitL (Z.map (List.take k)) = M at *
  generalize fitC k0 (Z.map (List.take k)) = C at *
  generalize fitD (Z.map (List.take k)) = cd at *
  have KEEP : Hid (∀ wx, w3.grownBy wx (some (w.heap.size + 1)) → (wx.cell? ⟨w.heap.size, 0, none⟩ = some (.int .i64 k0) ∧ wx.cell? ⟨w.heap.size, 1, none⟩ = some (.slice a0 m q0) ∧ w3.grownBy wx (some (w.heap.size + 1)))) :=
    Lib.hid (fun wx hb => ⟨(S3.out.boxA.gb hb (by omega)).c0, (S3.out.boxA.gb hb (by omega)).c1, hb⟩)
  have z0 : Below w3.heap.size w3 w3.drew := (Below.refl _ _).drew
  have gR := S3.out.boxR.lt
  have gb0 : w3.grownBy w3.drew (some (w.heap.size + 1)) := gb_below z0 _
  have OE := Lib.hid (fun wD va vc VS b f s => okEndQ (wD := wD) (C := C) (M := M) (va := va) (vc := vc) (VS := VS) S3.out b f s cd)
  have GE := S3.out.bel.size
  have d0 := S3.out.boxA.c0
  have d1 := S3.out.boxA.c1
  go_wp2_with fail
  go_region_held3 (fun wx => wx.cell? ⟨w.heap.size, 0, none⟩ = some (.int .i64 k0) ∧ wx.cell? ⟨w.heap.size, 1, none⟩ = some (.slice a0 m q0) ∧ w3.grownBy wx (some (w.heap.size + 1)))
    (first | exact KEEP.out _ gb0 | exact KEEP.out _ (by assumption) | exact KEEP.out _ (gb_set (gb_below z9 _) gR 0 _) | exact KEEP.out _ (gb_set (gb_set (gb_below z9 _) gR 0 _) gR 1 _))
    (first
      | (go_at_call 58; refine (DX.out _ (S3.out.bel.step1 z0)).mono ?_; rintro e w5 ⟨rfl, b5⟩; have gb5 := gb_below (z0.step1 b5) (some (w.heap.size + 1)); have z5 := z0.step1 b5)
      | (go_at_call 45; refine (HS.out _).mono ?_; rintro e w6 ⟨S6, zs6, rfl, f6, e6, b6⟩; have gb6 := gb_below (z5.step1 b6) (some (w.heap.size + 1)); have z6 := z5.step1 b6)
      | (go_at_call 60; refine (PF.out _ (S3.out.bel.step1 z6)).mono ?_; rintro e w7 ⟨u7, rfl, o7, b7⟩; have gb7 := gb_below (z6.step1 b7) (some (w.heap.size + 1)); have z7 := z6.step1 b7; have f7 := f6.below b7)
      | (go_at_call 59; refine (RM.out _ S6 u7 zs6 _ f7 e6 o7).mono ?_; rintro e w8 ⟨u8, rfl, o8, b8⟩; have gb8 := gb_below (z7.step1 b8) (some (w.heap.size + 1)); have z8 := z7.step1 b8; have r8 := rdY_of_own o8 Z4.out)
      | (go_at_call 55; refine (UN.out _ u8 r8).mono ?_; rintro e w9 ⟨v9, vs9, rfl, f9, s9, b9⟩; have gb9 := gb_below (z8.step1 b9) (some (w.heap.size + 1)); have z9 := z8.step1 b9; have p9 := Fam.base (B' := w.heap.size) f9 (Nat.le_trans GE z8.size); have y0 := (S3.out.boxR.up z9).c0; have y1 := (S3.out.boxR.up z9).c1; have y2 := (S3.out.boxR.up z9).fr 0; have y3 := (S3.out.boxR.up z9).fr 1; obtain ⟨va9, vc9, rfl, _, _⟩ := Fam.head p9))
  have FIN := Lib.hid (OE.out w9 va9 vc9 vs9 z9 p9 s9)
  clear z0 z5 z6 z7 z8 z9 f7 r8 b5 b6 b7 b8 b9 o7 o8 f6 f9 p9 s9 y0 y1 y2 y3 KEEP S3 OE
  go_wp2_with fail
  refine bodyPost_ret (results_box2_tmp rfl _ _ (w.heap.size + 1) _ _ _ rfl FIN.out.1 t2 (by kernel_rfl)) rfl ?_
  exact FIN.out.2
end Go.Proofs.Ytggebkcmokpcmaa.Pl
end
section
namespace Go.Proofs.Ytggebkcmokpcmaa.Pl
open Go.RowKit
set_option linter.unusedVariables false
set_option maxRecDepth 100000

set_option maxHeartbeats 1000000 in
theorem specNo_bad (k0 c : Int) (a0 : Option Addr) (m q0 : Nat) (w : World) (hc : c ≠ 0) (PC : Hid (∀ wx, Below w.heap.size w wx → Calls Try.prog 48 #[.agg #[.int .i64 k0, .slice a0 m q0]] wx (SaysV (.int .i64 c) wx))) :
    Calls Try.prog 26 #[.agg #[.int .i64 k0, .slice a0 m q0]] w (ResY 0 [] c w) := by
  have t2 := Try.underlying31
  obtain ⟨w1, hw1⟩ : ∃ w1, w1 = ((w.alloc (.cells #[.int .i64 k0, .slice a0 m q0] 31)).alloc (.cells #[.int .i64 0, .slice none 0 0] 31)) := ⟨_, rfl⟩
  have S1 : Hid (Bx2Q w k0 (.slice a0 m q0) w1) := Lib.hid (by rw [hw1]; exact Bx2Q.start _ _ _)
  have d0 := S1.out.boxA.c0
  have d1 := S1.out.boxA.c1
  go_enter Try.func26, Try.ntmps26
  go_upto_region 1 with fail
  rw [← hw1]
  clear hw1
  go_wp2_with fail
  refine (PC.out w1 S1.out.bel).mono ?_
  rintro e w2 ⟨rfl, b2⟩
  have S2 := Lib.hid (S1.out.up b2)
  clear b2 S1 d0 d1
  have r0 := S2.out.boxR.c0
  have r1 := S2.out.boxR.c1
  have f0 := S2.out.boxR.fr 0
  have f1 := S2.out.boxR.fr 1
  go_wp2_with fail
  refine bodyPost_ret (results_box2_tmp rfl _ _ (w.heap.size + 1) _ _ _ rfl ((S2.out.boxR.set0 _).set1 _) t2 (by kernel_rfl)) rfl ?_
  exact ⟨_, fun _ => undef, rfl, famNil _ _, sepNil, (S2.out.bel.setCell (p := ⟨w.heap.size + 1, 0, none⟩) (by simp) _).setCell (p := ⟨w.heap.size + 1, 1, none⟩) (by simp) _⟩

set_option maxHeartbeats 4000000 in
theorem specNo_ok (k0 : Int) (N : List (List Int)) (a0 : Option Addr) (m q0 : Nat) (w : World) (hN : N.length ≤ 1000 ∧ ∀ t ∈ N, t.length ≤ 4) (PC : Hid (∀ wx, Below w.heap.size w wx → Calls Try.prog 48 #[.agg #[.int .i64 k0, .slice a0 m q0]] wx (SaysV (.int .i64 0) wx)))
    (NM : Hid (∀ wx, Below w.heap.size w wx → Calls Try.prog 49 #[.agg #[.int .i64 k0, .slice a0 m q0]] wx fun e w' => ∃ V VS, e = .returned V ∧ FamL w' 0 V VS N ∧ Below wx.heap.size wx w')) :
    Calls Try.prog 26 #[.agg #[.int .i64 k0, .slice a0 m q0]] w (ResY k0 N 0 w) := by
  have OW : Hid (∀ wx V VS, FamL wx 0 V VS N → Calls Try.prog 56 #[V] wx fun e w' => ∃ U US, e = .returned U ∧ FamL w' wx.heap.size U US N ∧ Sep N.length US ∧ Below wx.heap.size wx w') := Lib.hid (fun wx V VS hF => by
    have := l01Own2_any V N.length 0 VS (rowsOf N) wx hF hN.1 (fun i hi => by
      have h1 : rowsOf N i ∈ rowsL (rowsOf N) N.length := List.mem_map.2 ⟨i, List.mem_range.2 hi, rfl⟩
      rw [rowsL_ofR] at h1
      have := hN.2 _ h1
      omega)
    rw [rowsL_ofR] at this
    exact this)
  clear hN
  have t2 := Try.underlying31
  obtain ⟨w1, hw1⟩ : ∃ w1, w1 = ((w.alloc (.cells #[.int .i64 k0, .slice a0 m q0] 31)).alloc (.cells #[.int .i64 0, .slice none 0 0] 31)) := ⟨_, rfl⟩
  have S1 : Hid (Bx2Q w k0 (.slice a0 m q0) w1) := Lib.hid (by rw [hw1]; exact Bx2Q.start _ _ _)
  have d0 := S1.out.boxA.c0
  have d1 := S1.out.boxA.c1
  go_enter Try.func26, Try.ntmps26
  go_upto_region 1 with fail
  rw [← hw1]
  clear hw1
  go_wp2_with fail
  refine (PC.out w1 S1.out.bel).mono ?_
  rintro e w3 ⟨rfl, b2⟩
  have S3 := Lib.hid (S1.out.up b2)
  clear b2 S1 d0 d1
  have KEEP : Hid (∀ wx, w3.grownBy wx (some (w.heap.size + 1)) → (wx.cell? ⟨w.heap.size, 0, none⟩ = some (.int .i64 k0) ∧ wx.cell? ⟨w.heap.size, 1, none⟩ = some (.slice a0 m q0) ∧ w3.grownBy wx (some (w.heap.size + 1)))) :=
    Lib.hid (fun wx hb => ⟨(S3.out.boxA.gb hb (by omega)).c0, (S3.out.boxA.gb hb (by omega)).c1, hb⟩)
  have z0 : Below w3.heap.size w3 w3.drew := (Below.refl _ _).drew
  have gR := S3.out.boxR.lt
  have gb0 : w3.grownBy w3.drew (some (w.heap.size + 1)) := gb_below z0 _
  have OE := Lib.hid (fun wD va vc VS b f s => okEndQ (wD := wD) (C := k0) (M := N) (va := va) (vc := vc) (VS := VS) S3.out b f s 0)
  have GE := S3.out.bel.size
  have d0 := S3.out.boxA.c0
  have d1 := S3.out.boxA.c1
  go_wp2_with fail
  go_region_held3 (fun wx => wx.cell? ⟨w.heap.size, 0, none⟩ = some (.int .i64 k0) ∧ wx.cell? ⟨w.heap.size, 1, none⟩ = some (.slice a0 m q0) ∧ w3.grownBy wx (some (w.heap.size + 1)))
    (first | exact KEEP.out _ gb0 | exact KEEP.out _ (by assumption) | exact KEEP.out _ (gb_set (gb_below z9 _) gR 0 _) | exact KEEP.out _ (gb_set (gb_set (gb_below z9 _) gR 0 _) gR 1 _))
    (first
      | (go_at_call 49; refine (NM.out _ (S3.out.bel.step1 z0)).mono ?_; rintro e w8 ⟨u8, us8, rfl, o8, b8⟩; have gb8 := gb_below (z0.step1 b8) (some (w.heap.size + 1)); have z8 := z0.step1 b8)
      | (go_at_call 56; refine (OW.out _ u8 us8 o8).mono ?_; rintro e w9 ⟨v9, vs9, rfl, f9, s9, b9⟩; have gb9 := gb_below (z8.step1 b9) (some (w.heap.size + 1)); have z9 := z8.step1 b9; have p9 := Fam.base (B' := w.heap.size) f9 (Nat.le_trans GE z8.size); have y0 := (S3.out.boxR.up z9).c0; have y1 := (S3.out.boxR.up z9).c1; have y2 := (S3.out.boxR.up z9).fr 0; have y3 := (S3.out.boxR.up z9).fr 1; obtain ⟨va9, vc9, rfl, _, _⟩ := Fam.head p9))
  have FIN := Lib.hid (OE.out w9 va9 vc9 vs9 z9 p9 s9)
  clear z0 z8 z9 b8 b9 o8 f9 p9 s9 y0 y1 y2 y3 KEEP S3 OE
  go_wp2_with fail
  refine bodyPost_ret (results_box2_tmp rfl _ _ (w.heap.size + 1) _ _ _ rfl FIN.out.1 t2 (by kernel_rfl)) rfl ?_
  exact FIN.out.2

set_option maxHeartbeats 1000000 in
theorem specHit_bad (k0 c : Int) (a0 : Option Addr) (m q0 : Nat) (w : World) (hc : c ≠ 0) (PC : Hid (∀ wx, Below w.heap.size w wx → Calls Try.prog 48 #[.agg #[.int .i64 k0, .slice a0 m q0]] wx (SaysV (.int .i64 c) wx))) :
    Calls Try.prog 17 #[.agg #[.int .i64 k0, .slice a0 m q0]] w (SaysV (.tuple #[.bool false, .int .i64 c]) w) := by
  have t2 := Try.underlying31
  obtain ⟨w1, hw1⟩ : ∃ w1, w1 = (w.alloc (.cells #[.int .i64 k0, .slice a0 m q0] 31)) := ⟨_, rfl⟩
  have S1 : Hid (Bx1 w k0 (.slice a0 m q0) w1) := Lib.hid (by rw [hw1]; exact Bx1.start _ _ _)
  have d0 := S1.out.2.c0
  have d1 := S1.out.2.c1
  go_enter Try.func17, Try.ntmps17
  go_upto_region 1 with fail
  rw [← hw1]
  clear hw1
  go_wp2_with fail
  refine (PC.out w1 S1.out.1).mono ?_
  rintro e w2 ⟨rfl, b2⟩
  have S2 := Lib.hid (S1.out.up b2)
  clear b2 S1 d0 d1
  go_wp2_with fail
  go_ret2
  exact ⟨rfl, S2.out.1⟩

set_option maxHeartbeats 1000000 in
theorem specHit_ok (k0 : Int) (N : List (List Int)) (a0 : Option Addr) (m q0 : Nat) (w : World) (PC : Hid (∀ wx, Below w.heap.size w wx → Calls Try.prog 48 #[.agg #[.int .i64 k0, .slice a0 m q0]] wx (SaysV (.int .i64 0) wx)))
    (NM : Hid (∀ wx, Below w.heap.size w wx → Calls Try.prog 49 #[.agg #[.int .i64 k0, .slice a0 m q0]] wx fun e w' => ∃ V VS, e = .returned V ∧ FamL w' 0 V VS N ∧ Below wx.heap.size wx w')) :
    Calls Try.prog 17 #[.agg #[.int .i64 k0, .slice a0 m q0]] w (SaysV (.tuple #[.bool ((N.length : Int) == 0), .int .i64 0]) w) := by
  have t2 := Try.underlying31
  obtain ⟨w1, hw1⟩ : ∃ w1, w1 = (w.alloc (.cells #[.int .i64 k0, .slice a0 m q0] 31)) := ⟨_, rfl⟩
  have S1 : Hid (Bx1 w k0 (.slice a0 m q0) w1) := Lib.hid (by rw [hw1]; exact Bx1.start _ _ _)
  have d0 := S1.out.2.c0
  have d1 := S1.out.2.c1
  go_enter Try.func17, Try.ntmps17
  go_upto_region 1 with fail
  rw [← hw1]
  clear hw1
  go_wp2_with fail
  refine (PC.out w1 S1.out.1).mono ?_
  rintro e w2 ⟨rfl, b2⟩
  have S2 := Lib.hid (S1.out.up b2)
  clear b2 S1 d0 d1
  have d0 := S2.out.2.c0
  have d1 := S2.out.2.c1
  go_wp2_with fail
  refine (NM.out _ S2.out.1).mono ?_
  rintro e w3 ⟨V, VS, rfl, hF, hB⟩
  have S3 := Lib.hid (S2.out.up hB)
  obtain ⟨va, vc, rfl, _, _⟩ := Fam.head hF
  clear hF hB S2 d0 d1 NM
  go_wp2_with fail
  go_ret2
  exact ⟨rfl, S3.out.1⟩

set_option maxHeartbeats 1000000 in
theorem isZeroP_any (k : Int) (a : Option Addr) (n cap : Nat) (w : World) : Calls Try.prog 51 #[.agg #[.int .i64 k, .slice a n cap]] w (SaysV (.bool ((n : Int) == 0)) w) := by
  have t2 := Try.underlying31
  have S1 := Lib.hid (Bx1.start w k (.slice a n cap))
  have d0 := S1.out.2.c0
  have d1 := S1.out.2.c1
  go_enter Try.func51, Try.ntmps51
  go_wp2_with fail
  go_ret
  exact ⟨rfl, S1.out.1⟩

set_option maxHeartbeats 2000000 in
theorem implHit_any (k0 C cd : Int) (N : List (List Int)) (a0 : Option Addr) (m q0 : Nat) (w : World)
    (NF : Hid (∀ wx, Below w.heap.size w wx → Calls Try.prog 27 #[.agg #[.int .i64 k0, .slice a0 m q0]] wx (ResY C N cd wx))) :
    Calls Try.prog 19 #[.agg #[.int .i64 k0, .slice a0 m q0]] w (SaysV (.tuple #[.bool (cd == 0 && (N.length : Int) == 0), .int .i64 cd]) w) := by
  have IZ := Lib.hid (fun k a n cap wx => isZeroP_any k a n cap wx)
  have t2 := Try.underlying31
  obtain ⟨w1, hw1⟩ : ∃ w1, w1 = (w.alloc (.cells #[.int .i64 k0, .slice a0 m q0] 31)) := ⟨_, rfl⟩
  have S1 : Hid (Bx1 w k0 (.slice a0 m q0) w1) := Lib.hid (by rw [hw1]; exact Bx1.start _ _ _)
  have d0 := S1.out.2.c0
  have d1 := S1.out.2.c1
  go_enter Try.func19, Try.ntmps19
  go_upto_region 1 with fail
  rw [← hw1]
  clear hw1
  by_cases hc : cd = 0
  · subst hc
    go_wp2_with fail
    refine (NF.out w1 S1.out.1).mono ?_
    rintro e w2 ⟨V, VS, rfl, hF, _, hB⟩
    obtain ⟨va, vc, rfl, _, _⟩ := Fam.head hF
    have B2 := Lib.hid (S1.out.1.step1 hB)
    clear hF hB S1 d0 d1 NF
    have BX : Hid (Box (w2.alloc (.cells #[.int .i64 C, .slice va N.length vc] 31)) w2.heap.size 31 (.int .i64 C) (.slice va N.length vc)) := Lib.hid (Box.new _ _ _ _)
    have B3 : Hid (Below w.heap.size w (w2.alloc (.cells #[.int .i64 C, .slice va N.length vc] 31))) := Lib.hid (B2.out.alloc B2.out.size _)
    have d0 := BX.out.c0
    have d1 := BX.out.c1
    go_wp2_with fail
    refine (IZ.out _ _ _ _ _).mono ?_
    rintro e w4 ⟨rfl, b4⟩
    have B4 := Lib.hid (B3.out.step1 b4)
    clear b4 B3 BX d0 d1
    go_wp2_with fail
    go_ret2
    exact ⟨by simp, B4.out⟩
  · have hc2 : (cd == 0) = false := by rw [beq_eq_false_iff_ne]; exact hc
    go_wp2_with fail
    refine (NF.out w1 S1.out.1).mono ?_
    rintro e w2 ⟨V, VS, rfl, hF, _, hB⟩
    obtain ⟨va, vc, rfl, _, _⟩ := Fam.head hF
    have B2 := Lib.hid (S1.out.1.step1 hB)
    clear hF hB S1 d0 d1 NF
    have B3 : Hid (Below w.heap.size w (w2.alloc (.cells #[.int .i64 C, .slice va N.length vc] 31))) := Lib.hid (B2.out.alloc B2.out.size _)
    go_wp2_with fail
    go_ret2
    exact ⟨by simp [hc2], B3.out⟩
end Go.Proofs.Ytggebkcmokpcmaa.Pl
end
