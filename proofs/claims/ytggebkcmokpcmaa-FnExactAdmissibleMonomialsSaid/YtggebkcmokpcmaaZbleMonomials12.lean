/-
  Joined: HNoS, HNoI.
-/
import Derived.Test.YtggebkcmokpcmaaZbleMonomials09
import Derived.Test.YtggebkcmokpcmaaZbleMonomials11
import Derived.Test.YtggebkcmokpcmaaZBHit28
import Derived.Test.YtggebkcmokpcmaaZBHit23
section
namespace Go.Proofs.Ytggebkcmokpcmaa
open Go.RowKit Go.Proofs.Ytggebkcmokpcmaa.Pl
set_option linter.unusedVariables false
set_option maxRecDepth 100000

def Bx1 (w : World) (k0 : Int) (V : Value) (wx : World) : Prop := Below w.heap.size w wx ∧ Box wx w.heap.size 31 (.int .i64 k0) V
theorem Bx1.start (w : World) (k0 : Int) (V : Value) : Bx1 w k0 V (w.alloc (.cells #[.int .i64 k0, V] 31)) := ⟨(Below.refl _ _).alloc (Nat.le_refl _) _, Box.new w _ _ _⟩
theorem Bx1.up {w w1 w2 : World} {k0 : Int} {V : Value} (h : Bx1 w k0 V w1) (b : Below w1.heap.size w1 w2) : Bx1 w k0 V w2 := ⟨h.1.step1 b, h.2.up b⟩

set_option maxHeartbeats 1000000 in
theorem l09Poly_bad (k0 : Int) (a0 : Option Addr) (m q0 : Nat) (w : World) (IS : Hid (∀ wx, Below w.heap.size w wx → Calls Try.prog 67 #[.agg #[.int .i64 k0, .slice a0 m q0]] wx (SaysB false wx))) :
    Calls Try.prog 48 #[.agg #[.int .i64 k0, .slice a0 m q0]] w (SaysV (.int .i64 1) w) := by
  obtain ⟨w1, hw1⟩ : ∃ w1, w1 = (w.alloc (.cells #[.int .i64 k0, .slice a0 m q0] 31)) := ⟨_, rfl⟩
  have t2 := Try.underlying31
  have S1 : Hid (Bx1 w k0 (.slice a0 m q0) w1) := Lib.hid (by rw [hw1]; exact Bx1.start _ _ _)
  have d0 := S1.out.2.c0
  have d1 := S1.out.2.c1
  go_enter Try.func48, Try.ntmps48
  go_upto_region 1 with fail
  rw [← hw1]
  clear hw1
  go_wp2_with fail
  refine (IS.out w1 S1.out.1).mono ?_
  rintro e w2 ⟨rfl, b2⟩
  have S2 := Lib.hid (S1.out.up b2)
  clear b2 S1 d0 d1
  go_wp2_with fail
  go_ret
  exact ⟨rfl, S2.out.1⟩

set_option maxHeartbeats 1000000 in
theorem l09Poly_zero (k0 : Int) (a0 : Option Addr) (q0 : Nat) (w : World) (IS : Hid (∀ wx, Below w.heap.size w wx → Calls Try.prog 67 #[.agg #[.int .i64 k0, .slice a0 0 q0]] wx (SaysB true wx))) :
    Calls Try.prog 48 #[.agg #[.int .i64 k0, .slice a0 0 q0]] w (SaysV (.int .i64 0) w) := by
  obtain ⟨w1, hw1⟩ : ∃ w1, w1 = (w.alloc (.cells #[.int .i64 k0, .slice a0 0 q0] 31)) := ⟨_, rfl⟩
  have t2 := Try.underlying31
  have S1 : Hid (Bx1 w k0 (.slice a0 0 q0) w1) := Lib.hid (by rw [hw1]; exact Bx1.start _ _ _)
  have d0 := S1.out.2.c0
  have d1 := S1.out.2.c1
  go_enter Try.func48, Try.ntmps48
  go_upto_region 1 with fail
  rw [← hw1]
  clear hw1
  go_wp2_with fail
  refine (IS.out w1 S1.out.1).mono ?_
  rintro e w2 ⟨rfl, b2⟩
  have S2 := Lib.hid (S1.out.up b2)
  clear b2 S1 d0 d1
  have d0 := S2.out.2.c0
  have d1 := S2.out.2.c1
  go_upto_region 3 with fail
  go_cut [2, 7] (fun s2 s7 wx => s2 = .int .i64 0 ∧ s7 = .bool false ∧ Hid (Bx1 w k0 (.slice a0 0 q0) wx))
  case first =>
    go_quiet (fail)
    go_wp2_with fail
    go_meet
    exact ⟨rfl, rfl, Lib.hid (S2.out.up (below_drewN (Below.refl _ _) _))⟩
  case rest =>
    obtain ⟨rfl, rfl, S3⟩ := hcut
    clear d0 d1 S2
    go_wp2_with fail
    go_ret
    exact ⟨rfl, S3.out.1⟩

set_option maxHeartbeats 1000000 in
theorem l09Poly_some (f d : Nat) (k0 : Int) (b0 o0 : Nat) (v0 : Value) (m q0 : Nat) (w : World) (hm : 0 < m) (hf : f < 4) (hd : d ≤ 40) (hk : k0 = ((f + 1 : Nat) : Int)) (c0 : w.cell? ⟨b0, o0, none⟩ = some v0) (D0 : DegIs w v0 (d : Int))
    (IS : Hid (∀ wx, Below w.heap.size w wx → Calls Try.prog 67 #[.agg #[.int .i64 k0, .slice (some ⟨b0, o0, none⟩) m q0]] wx (SaysB true wx))) :
    Calls Try.prog 48 #[.agg #[.int .i64 k0, .slice (some ⟨b0, o0, none⟩) m q0]] w (SaysV (.int .i64 (if cn f d ≤ 100 then 0 else 3)) w) := by
  obtain ⟨w1, hw1⟩ : ∃ w1, w1 = (w.alloc (.cells #[.int .i64 k0, .slice (some ⟨b0, o0, none⟩) m q0] 31)) := ⟨_, rfl⟩
  have t2 := Try.underlying31
  have S1 : Hid (Bx1 w k0 (.slice (some ⟨b0, o0, none⟩) m q0) w1) := Lib.hid (by rw [hw1]; exact Bx1.start _ _ _)
  have C0 := Lib.hid c0
  have HD := Lib.hid D0
  have CNT : Hid (∀ w : World, Calls Try.prog 46 #[.int .i64 k0, .int .i64 (d : Int)] w fun e w' => e = .returned (.int .i64 (cn f d : Int)) ∧ ∃ q, w' = w.drewN q) := Lib.hid (fun w => by
    rw [hk]
    refine (l09Count_any f d hf hd w).mono ?_
    rintro e w' ⟨rfl, rfl⟩
    exact ⟨rfl, 0, rfl⟩)
  clear c0 D0 hk
  have d0 := S1.out.2.c0
  have d1 := S1.out.2.c1
  have hm2 : (0 : Int) < (m : Int) := by omega
  have hm1 : decide (0 < m) = true := decide_eq_true hm
  generalize cn f d = c at *
  obtain ⟨r, hr⟩ : ∃ r, decide ((100 : Int) < (c : Int)) = r := ⟨_, rfl⟩
  obtain ⟨cc, hcc⟩ : ∃ cc : Int, (if c ≤ 100 then 0 else 3) = cc := ⟨_, rfl⟩
  rw [hcc]
  have HCC := Lib.hid hcc
  clear hcc
  go_enter Try.func48, Try.ntmps48
  go_upto_region 1 with fail
  rw [← hw1]
  clear hw1
  go_wp2_with fail
  refine (IS.out w1 S1.out.1).mono ?_
  rintro e w2 ⟨rfl, b2⟩
  have S2 := Lib.hid (S1.out.up b2)
  clear b2 S1 d0 d1
  have d0 := S2.out.2.c0
  have d1 := S2.out.2.c1
  have DG0 := Lib.hid (fun q : Nat => l08Degree_some b0 o0 m q0 v0 (d : Int) (w2.drewN q) hm (((S2.out.1.cell (p := ⟨b0, o0, none⟩) (World.block_lt_of_cell? w _ C0.out)).trans C0.out)) (Lib.hid ((HD.out.below S2.out.1).drewN q)))
  clear C0 HD
  go_upto_region 3 with fail
  go_cut [2, 7] (fun s2 s7 wx => s2 = .int .i64 0 ∧ s7 = .bool r ∧ Hid (Bx1 w k0 (.slice (some ⟨b0, o0, none⟩) m q0) wx))
  case first =>
    go_quiet (first | (go_at_call 69; exact Calls.quiet_of (DG0.out _)) | (go_at_call 46; exact Calls.quiet_of (CNT.out _)))
    go_wp2_with fail
    go_meet
    exact ⟨rfl, by simp, Lib.hid (S2.out.up (below_drewN (Below.refl _ _) _))⟩
  case rest =>
    obtain ⟨rfl, rfl, S3⟩ := hcut
    clear d0 d1 S2 DG0
    by_cases hc : c ≤ 100
    · obtain rfl : false = r := by rw [← hr]; exact (decide_eq_false (by omega)).symm
      have e9 := HCC.out
      rw [if_pos hc] at e9
      subst e9
      go_wp2_with fail
      go_ret
      exact ⟨rfl, S3.out.1⟩
    · obtain rfl : true = r := by rw [← hr]; exact (decide_eq_true (by omega)).symm
      have e9 := HCC.out
      rw [if_neg hc] at e9
      subst e9
      go_wp2_with fail
      go_ret
      exact ⟨rfl, S3.out.1⟩

set_option maxHeartbeats 1000000 in
theorem l09Normal_zero (k0 : Int) (a0 : Option Addr) (q0 : Nat) (w : World) :
    Calls Try.prog 49 #[.agg #[.int .i64 k0, .slice a0 0 q0]] w fun e w' => ∃ V VS, e = .returned V ∧ FamL w' 0 V VS [] ∧ Below w.heap.size w w' := by
  have t2 := Try.underlying31
  have S1 := Lib.hid (Bx1.start w k0 (.slice a0 0 q0))
  have d0 := S1.out.2.c0
  have d1 := S1.out.2.c1
  go_enter Try.func49, Try.ntmps49
  go_wp2_with fail
  go_ret
  exact ⟨_, fun _ => undef, rfl, famNil _ _, S1.out.1⟩

set_option maxHeartbeats 2000000 in
theorem l09Normal_some (f d : Nat) (k0 : Int) (b0 o0 : Nat) (v0 : Value) (m q0 : Nat) (VA : Nat → Value) (L : List (List Int)) (w : World) (hm : 0 < m) (hml : Hid (m = L.length)) (hf : f < 4) (hd : d ≤ 40) (hcn : cn f d ≤ 100) (hk : k0 = ((f + 1 : Nat) : Int)) (c0 : w.cell? ⟨b0, o0, none⟩ = some v0) (D0 : DegIs w v0 (d : Int))
    (hF : FamL w 0 (.slice (some ⟨b0, o0, none⟩) m q0) VA L) (hO : OkT (TmP f d) L) :
    Calls Try.prog 49 #[.agg #[.int .i64 k0, .slice (some ⟨b0, o0, none⟩) m q0]] w fun e w' => ∃ V VS, e = .returned V ∧ FamL w' 0 V VS (remR (hitR f d) L) ∧ Below w.heap.size w w' := by
  have t2 := Try.underlying31
  have S1 := Lib.hid (Bx1.start w k0 (.slice (some ⟨b0, o0, none⟩) m q0))
  have C0 := Lib.hid c0
  have HD := Lib.hid D0
  have RW := Lib.hid (fun w => l09Rows_any f d k0 hf (by omega) hd hcn w)
  have ROK := Lib.hid (hitTo_ok hf hd hcn 6)
  have ROW := Lib.hid (fun V zs w (h1 : FamR w V zs) (h2 : rzR zs = hitR f d) (h3 : FamL w 0 (.slice (some ⟨b0, o0, none⟩) m q0) VA L) => l09Row_any (TmP f d) V _ zs L VA w (SmP_tm hf hcn) h1 h3 (by rw [h2]; exact ROK.out.1) hO (by
    have h4 : zs.length = (hitR f d).length := by rw [← rzR_len, h2]
    have := ROK.out.2
    unfold hitR at h4
    omega))
  have HF := Lib.hid hF
  clear c0 D0 hF hO hk
  have d0 := S1.out.2.c0
  have d1 := S1.out.2.c1
  have hm2 : ((m : Int) == 0) = false := by rw [beq_eq_false_iff_ne]; omega
  go_enter Try.func49, Try.ntmps49
  go_upto_region 3 with fail
  generalize (w.alloc (.cells #[.int .i64 k0, .slice (some ⟨b0, o0, none⟩) m q0] 31)) = w1 at *
  clear t2
  have KEEP : Hid (∀ wx, Below w1.heap.size w1 wx → (wx.cell? ⟨w.heap.size, 0, none⟩ = some (.int .i64 k0) ∧ wx.cell? ⟨w.heap.size, 1, none⟩ = some (.slice (some ⟨b0, o0, none⟩) m q0) ∧ Below w1.heap.size w1 wx)) :=
    Lib.hid (fun wx hb => ⟨(S1.out.2.up hb).c0, (S1.out.2.up hb).c1, hb⟩)
  have DG : Hid (∀ wx, Below w1.heap.size w1 wx → Calls Try.prog 69 #[.slice (some ⟨b0, o0, none⟩) m q0] wx fun e w' => e = .returned (.int .i64 (d : Int)) ∧ Below wx.heap.size wx w') := Lib.hid (fun wx hb => by
    have hb2 := S1.out.1.step1 hb
    refine (l08Degree_some b0 o0 m q0 v0 (d : Int) wx hm ((hb2.cell (p := ⟨b0, o0, none⟩) (World.block_lt_of_cell? w _ C0.out)).trans C0.out) (Lib.hid (HD.out.below hb2))).mono ?_
    rintro e w' ⟨rfl, q, rfl⟩
    exact ⟨rfl, below_drewN (Below.refl _ _) q⟩)
  have HF1 : Hid (∀ wx, Below w1.heap.size w1 wx → FamL wx 0 (.slice (some ⟨b0, o0, none⟩) m q0) VA L) := Lib.hid (fun wx hb => HF.out.below (S1.out.1.step1 hb))
  clear HF HD C0
  go_region_held3 (fun wx => wx.cell? ⟨w.heap.size, 0, none⟩ = some (.int .i64 k0) ∧ wx.cell? ⟨w.heap.size, 1, none⟩ = some (.slice (some ⟨b0, o0, none⟩) m q0) ∧ Below w1.heap.size w1 wx)
    (first | exact KEEP.out _ (Below.refl _ _).drew | exact KEEP.out _ (by assumption))
    (first
      | (go_at_call 69; refine (DG.out _ (Below.refl _ _).drew).mono ?_; rintro e w3 ⟨rfl, b3⟩; have z3 := belD1 b3)
      | (go_at_call 43; refine (RW.out _).mono ?_; rintro e w4 ⟨V4, zs4, rfl, f4, e4, b4⟩; have z4 := z3.step1 b4)
      | (go_at_call 70; refine (ROW.out V4 zs4 _ f4 e4 (HF1.out _ z4)).mono ?_; rintro e w5 ⟨V5, VS5, rfl, f5, b5⟩; have z5 := z4.step1 b5))
  all_goals
    go_wp2_with fail
    go_ret
    exact ⟨V5, VS5, rfl, e4 ▸ f5, S1.out.1.step1 z5⟩
end Go.Proofs.Ytggebkcmokpcmaa
end
section
namespace Go.Proofs.Ytggebkcmokpcmaa.Pl
open Go.RowKit
set_option linter.unusedVariables false
set_option maxRecDepth 100000

set_option maxHeartbeats 1000000 in
theorem implNo_bad (k0 : Int) (a0 : Option Addr) (m q0 : Nat) (w : World) (IS : Hid (∀ wx, Below w.heap.size w wx → Calls Try.prog 57 #[.agg #[.int .i64 k0, .slice a0 m q0]] wx (SaysB false wx))) :
    Calls Try.prog 27 #[.agg #[.int .i64 k0, .slice a0 m q0]] w (ResY 0 [] 1 w) := by
  have t2 := Try.underlying31
  obtain ⟨w1, hw1⟩ : ∃ w1, w1 = ((w.alloc (.cells #[.int .i64 k0, .slice a0 m q0] 31)).alloc (.cells #[.int .i64 0, .slice none 0 0] 31)) := ⟨_, rfl⟩
  have S1 : Hid (Bx2Q w k0 (.slice a0 m q0) w1) := Lib.hid (by rw [hw1]; exact Bx2Q.start _ _ _)
  have d0 := S1.out.boxA.c0
  have d1 := S1.out.boxA.c1
  go_enter Try.func27, Try.ntmps27
  go_upto_region 1 with fail
  rw [← hw1]
  clear hw1
  go_wp2_with fail
  refine (IS.out w1 S1.out.bel).mono ?_
  rintro e w2 ⟨rfl, b2⟩
  have S2 := Lib.hid (S1.out.up b2)
  clear b2 S1 d0 d1
  have r0 := S2.out.boxR.c0
  have r1 := S2.out.boxR.c1
  have f0 := S2.out.boxR.fr 0
  have f1 := S2.out.boxR.fr 1
  go_wp2_with fail
  refine bodyPost_ret (results_box2_tmp rfl _ _ (w.heap.size + 1) _ _ _ rfl ((S2.out.boxR.set0 _).set1 _) t2 (by kernel_rfl)) rfl ?_
  exact ⟨_, fun _ => undef, rfl, famNil _ _, sepNil, (S2.out.bel.setCell (p := ⟨w.heap.size + 1, 0, none⟩) (by simp) _).setCell (p := ⟨w.heap.size + 1, 1, none⟩) (by simp) _⟩

set_option maxHeartbeats 2000000 in
theorem implNo_over (x : Int) (k0 c : Int) (L : List (List Int)) (a0 : Option Addr) (m q0 : Nat) (w : World) (hc : c ≠ 0) (IS : Hid (∀ wx, Below w.heap.size w wx → Calls Try.prog 57 #[.agg #[.int .i64 k0, .slice a0 m q0]] wx (SaysB true wx))) (DX : Hid (DegPM w k0 a0 m q0 x))
    (HM : Hid (∀ wx, Calls Try.prog 44 #[.int .i64 k0, .int .i64 x] wx fun e w' => ∃ u, e = .returned (.tuple #[u, .int .i64 c]) ∧ OwnY w' wx.heap.size u ((L.map padY).map pwK) ∧ Below wx.heap.size wx w')) :
    Calls Try.prog 27 #[.agg #[.int .i64 k0, .slice a0 m q0]] w (ResY 0 [] c w) := by
  have t2 := Try.underlying31
  obtain ⟨w1, hw1⟩ : ∃ w1, w1 = ((w.alloc (.cells #[.int .i64 k0, .slice a0 m q0] 31)).alloc (.cells #[.int .i64 0, .slice none 0 0] 31)) := ⟨_, rfl⟩
  have S1 : Hid (Bx2Q w k0 (.slice a0 m q0) w1) := Lib.hid (by rw [hw1]; exact Bx2Q.start _ _ _)
  have d0 := S1.out.boxA.c0
  have d1 := S1.out.boxA.c1
  go_enter Try.func27, Try.ntmps27
  go_upto_region 1 with fail
  rw [← hw1]
  clear hw1
  go_wp2_with fail
  refine (IS.out w1 S1.out.bel).mono ?_
  rintro e w2 ⟨rfl, b2⟩
  have S2 := Lib.hid (S1.out.up b2)
  clear b2 S1 d0 d1
  have KEEP : Hid (∀ wx, Below w2.heap.size w2 wx → (wx.cell? ⟨w.heap.size, 0, none⟩ = some (.int .i64 k0) ∧ wx.cell? ⟨w.heap.size, 1, none⟩ = some (.slice a0 m q0) ∧ Below w2.heap.size w2 wx)) :=
    Lib.hid (fun wx hb => ⟨(S2.out.boxA.up hb).c0, (S2.out.boxA.up hb).c1, hb⟩)
  have D2 : Hid (∀ wx, Below w2.heap.size w2 wx → Calls Try.prog 58 #[.agg #[.int .i64 k0, .slice a0 m q0]] wx fun e w' => e = .returned (.int .i64 x) ∧ Below wx.heap.size wx w') := Lib.hid (fun wx hb => DX.out wx (S2.out.bel.step1 hb))
  go_wp2_with fail
  go_region_held3 (fun wx => wx.cell? ⟨w.heap.size, 0, none⟩ = some (.int .i64 k0) ∧ wx.cell? ⟨w.heap.size, 1, none⟩ = some (.slice a0 m q0) ∧ Below w2.heap.size w2 wx)
    (first | exact KEEP.out _ (Below.refl _ _).drew | exact KEEP.out _ (by assumption))
    (first
      | (go_at_call 58; refine (D2.out _ (Below.refl _ _).drew).mono ?_; rintro e w3 ⟨rfl, b3⟩; have z3 := belD1 b3)
      | (go_at_call 44; refine (HM.out _).mono ?_; rintro e w4 ⟨u4, rfl, o4, b4⟩; have z4 := z3.step1 b4))
  have S3 := Lib.hid (S2.out.up z4)
  clear z3 b3 z4 b4 o4 KEEP D2 S2
  have r0 := S3.out.boxR.c0
  have r1 := S3.out.boxR.c1
  have f0 := S3.out.boxR.fr 0
  have f1 := S3.out.boxR.fr 1
  go_wp2_with fail
  refine bodyPost_ret (results_box2_tmp rfl _ _ (w.heap.size + 1) _ _ _ rfl ((S3.out.boxR.set0 _).set1 _) t2 (by kernel_rfl)) rfl ?_
  exact ⟨_, fun _ => undef, rfl, famNil _ _, sepNil, (S3.out.bel.setCell (p := ⟨w.heap.size + 1, 0, none⟩) (by simp) _).setCell (p := ⟨w.heap.size + 1, 1, none⟩) (by simp) _⟩

set_option maxHeartbeats 4000000 in
theorem implNo_ok (x : Int) (k : Nat) (k0 : Int) (L A Z : List (List Int)) (R : List (List (List Int))) (a0 : Option Addr) (m q0 : Nat) (w : World) (hk : k0 = (k : Int)) (hk4 : 1 ≤ k ∧ k ≤ 4) (IS : Hid (∀ wx, Below w.heap.size w wx → Calls Try.prog 57 #[.agg #[.int .i64 k0, .slice a0 m q0]] wx (SaysB true wx))) (DX : Hid (DegPM w k0 a0 m q0 x))
    (HM : Hid (∀ wx, Calls Try.prog 44 #[.int .i64 k0, .int .i64 x] wx fun e w' => ∃ u, e = .returned (.tuple #[u, .int .i64 0]) ∧ OwnY w' wx.heap.size u ((L.map padY).map pwK) ∧ Below wx.heap.size wx w'))
    (HS : Hid (∀ wx, Calls Try.prog 45 #[.int .i64 k0, .int .i64 x] wx (HsPost R wx)))
    (PF : Hid (∀ wx, Below w.heap.size w wx → Calls Try.prog 60 #[.agg #[.int .i64 k0, .slice a0 m q0]] wx fun e w' => ∃ u, e = .returned u ∧ OwnY w' 0 u (A.map pwK) ∧ Below wx.heap.size wx w'))
    (RM : Hid (∀ wx S v zs B, FamY wx B S zs → rzR zs = padR R → OwnY wx 0 v (A.map pwK) → Calls Try.prog 59 #[S, v] wx fun e w' => ∃ u, e = .returned u ∧ OwnY w' 0 u (Z.map pwK) ∧ Below wx.heap.size wx w')) (Z4 : Hid (∀ z ∈ Z, z.length = 4)) :
    Calls Try.prog 27 #[.agg #[.int .i64 k0, .slice a0 m q0]] w (ResY (fitC k0 (Z.map (List.take k))) (fitL (Z.map (List.take k))) (fitD (Z.map (List.take k))) w) := by
  have UN : Hid (∀ wx u, RdY wx u (Z.map pwK) → Calls Try.prog 55 #[u, .int .i64 k0] wx (ResY (fitC k0 (Z.map (List.take k))) (fitL (Z.map (List.take k))) (fitD (Z.map (List.take k))) wx)) := Lib.hid (fun wx u hu => by rw [hk]; exact unpackedM_any u k Z wx hu hk4 Z4.out)
  clear hk hk4
  have t2 := Try.underlying31
  obtain ⟨w1, hw1⟩ : ∃ w1, w1 = ((w.alloc (.cells #[.int .i64 k0, .slice a0 m q0] 31)).alloc (.cells #[.int .i64 0, .slice none 0 0] 31)) := ⟨_, rfl⟩
  have S1 : Hid (Bx2Q w k0 (.slice a0 m q0) w1) := Lib.hid (by rw [hw1]; exact Bx2Q.start _ _ _)
  have d0 := S1.out.boxA.c0
  have d1 := S1.out.boxA.c1
  go_enter Try.func27, Try.ntmps27
  go_upto_region 1 with fail
  rw [← hw1]
  clear hw1
  go_wp2_with fail
  refine (IS.out w1 S1.out.bel).mono ?_
  rintro e w2 ⟨rfl, b2⟩
  have S2 := Lib.hid (S1.out.up b2)
  clear b2 S1 d0 d1
  have KEEP : Hid (∀ wx, Below w2.heap.size w2 wx → (wx.cell? ⟨w.heap.size, 0, none⟩ = some (.int .i64 k0) ∧ wx.cell? ⟨w.heap.size, 1, none⟩ = some (.slice a0 m q0) ∧ Below w2.heap.size w2 wx)) :=
    Lib.hid (fun wx hb => ⟨(S2.out.boxA.up hb).c0, (S2.out.boxA.up hb).c1, hb⟩)
  have D2 : Hid (∀ wx, Below w2.heap.size w2 wx → Calls Try.prog 58 #[.agg #[.int .i64 k0, .slice a0 m q0]] wx fun e w' => e = .returned (.int .i64 x) ∧ Below wx.heap.size wx w') := Lib.hid (fun wx hb => DX.out wx (S2.out.bel.step1 hb))
  go_wp2_with fail
  go_region_held3 (fun wx => wx.cell? ⟨w.heap.size, 0, none⟩ = some (.int .i64 k0) ∧ wx.cell? ⟨w.heap.size, 1, none⟩ = some (.slice a0 m q0) ∧ Below w2.heap.size w2 wx)
    (first | exact KEEP.out _ (Below.refl _ _).drew | exact KEEP.out _ (by assumption))
    (first
      | (go_at_call 58; refine (D2.out _ (Below.refl _ _).drew).mono ?_; rintro e w3 ⟨rfl, b3⟩; have z3 := belD1 b3)
      | (go_at_call 44; refine (HM.out _).mono ?_; rintro e w4 ⟨u4, rfl, o4, b4⟩; have z4 := z3.step1 b4))
  have S4 := Lib.hid (S2.out.up z4)
  clear z3 b3 z4 b4 o4 KEEP D2 S2
  rename Hid (Bx2Q w k0 _ w4) => S3
  rename World => w3
  generalize fitL (Z.map (List.take k)) = M at *
  generalize fitC k0 (Z.map (List.take k)) = C at *
  generalize fitD (Z.map (List.take k)) = cd at *
  have KEEP : Hid (∀ wx, w3.grownBy wx (some (w.heap.size + 1)) → (wx.cell? ⟨w.heap.size, 0, none⟩ = some (.int .i64 k0) ∧ wx.cell? ⟨w.heap.size, 1, none⟩ = some (.slice a0 m q0) ∧ w3.grownBy wx (some (w.heap.size + 1)))) :=
    Lib.hid (fun wx hb => ⟨(S3.out.boxA.gb hb (by omega)).c0, (S3.out.boxA.gb hb (by omega)).c1, hb⟩)
  have z0 : Below w3.heap.size w3 w3.drew := (Below.refl _ _).drew
  have gR := S3.out.boxR.lt
  have gb0 : w3.grownBy w3.drew (some (w.heap.size + 1)) := gb_below z0 _
  have OE := Lib.hid (fun wD va vc VS b f s => okEndQ (wD := wD) (C := C) (M := M) (va := va) (vc := vc) (VS := VS) S3.out b f s cd)
  have GE := S3.out.bel.size
  have d0 := S3.out.boxA.c0
  have d1 := S3.out.boxA.c1
  go_wp2_with fail
  go_region_held3 (fun wx => wx.cell? ⟨w.heap.size, 0, none⟩ = some (.int .i64 k0) ∧ wx.cell? ⟨w.heap.size, 1, none⟩ = some (.slice a0 m q0) ∧ w3.grownBy wx (some (w.heap.size + 1)))
    (first | exact KEEP.out _ gb0 | exact KEEP.out _ (by assumption) | exact KEEP.out _ (gb_set (gb_below z9 _) gR 0 _) | exact KEEP.out _ (gb_set (gb_set (gb_below z9 _) gR 0 _) gR 1 _))
    (first
      | (go_at_call 58; refine (DX.out _ (S3.out.bel.step1 z0)).mono ?_; rintro e w5 ⟨rfl, b5⟩; have gb5 := gb_below (z0.step1 b5) (some (w.heap.size + 1)); have z5 := z0.step1 b5)
      | (go_at_call 45; refine (HS.out _).mono ?_; rintro e w6 ⟨S6, zs6, rfl, f6, e6, b6⟩; have gb6 := gb_below (z5.step1 b6) (some (w.heap.size + 1)); have z6 := z5.step1 b6)
      | (go_at_call 60; refine (PF.out _ (S3.out.bel.step1 z6)).mono ?_; rintro e w7 ⟨u7, rfl, o7, b7⟩; have gb7 := gb_below (z6.step1 b7) (some (w.heap.size + 1)); have z7 := z6.step1 b7; have f7 := f6.below b7)
      | (go_at_call 59; refine (RM.out _ S6 u7 zs6 _ f7 e6 o7).mono ?_; rintro e w8 ⟨u8, rfl, o8, b8⟩; have gb8 := gb_below (z7.step1 b8) (some (w.heap.size + 1)); have z8 := z7.step1 b8; have r8 := rdY_of_own o8 Z4.out)
      | (go_at_call 55; refine (UN.out _ u8 r8).mono ?_; rintro e w9 ⟨v9, vs9, rfl, f9, s9, b9⟩; have gb9 := gb_below (z8.step1 b9) (some (w.heap.size + 1)); have z9 := z8.step1 b9; have p9 := Fam.base (B' := w.heap.size) f9 (Nat.le_trans GE z8.size); have y0 := (S3.out.boxR.up z9).c0; have y1 := (S3.out.boxR.up z9).c1; have y2 := (S3.out.boxR.up z9).fr 0; have y3 := (S3.out.boxR.up z9).fr 1; obtain ⟨va9, vc9, rfl, _, _⟩ := Fam.head p9))
  have FIN := Lib.hid (OE.out w9 va9 vc9 vs9 z9 p9 s9)
  clear z0 z5 z6 z7 z8 z9 f7 r8 b5 b6 b7 b8 b9 o7 o8 f6 f9 p9 s9 y0 y1 y2 y3 KEEP S3 OE
  go_wp2_with fail
  refine bodyPost_ret (results_box2_tmp rfl _ _ (w.heap.size + 1) _ _ _ rfl FIN.out.1 t2 (by kernel_rfl)) rfl ?_
  exact FIN.out.2
end Go.Proofs.Ytggebkcmokpcmaa.Pl
end
