/-
  Joined: HKamS.
-/
import Derived.Test.YtggebkcmokpcmaaZBHit39
import Derived.Test.YtggebkcmokpcmaaZBHit20
import Derived.Test.YtggebkcmokpcmaaZBHit37
import Derived.Test.YtggebkcmokpcmaaZBHit24
section
namespace Go.Proofs.Ytggebkcmokpcmaa.Pl
open Go.RowKit
set_option linter.unusedVariables false
set_option maxRecDepth 100000

theorem rowsL_ofH (zs : List (List Int)) : rowsL (rowsOf zs) zs.length = zs := by
  unfold rowsL
  apply List.ext_getElem?
  intro i
  rw [List.getElem?_map]
  by_cases h : i < zs.length
  · rw [List.getElem?_range h, List.getElem?_eq_getElem h]
    simp [rowsOf, h]
  · rw [List.getElem?_eq_none (by simp; omega), List.getElem?_eq_none (by omega)]
    rfl

/-- What the outer loops keep. -/
structure KamJ (w0 : World) (k0 : Int) (V0 S : Value) (US : Nat → Value) (L : List (List Int)) (w : World) : Prop where
  bx : Bx2Q w0 k0 V0 w
  fam : FamL w w0.heap.size S US L
  sep : Sep L.length US
theorem KamJ.up {w0 w w' : World} {k0 : Int} {V0 S : Value} {US : Nat → Value} {L : List (List Int)} (h : KamJ w0 k0 V0 S US L w) (b : Below w.heap.size w w') : KamJ w0 k0 V0 S US L w' := ⟨h.bx.up b, h.fam.below b, h.sep⟩

set_option maxHeartbeats 1000000 in
theorem specKamUp_bad (k0 : Int) (a0 : Option Addr) (m q0 : Nat) (w : World) (IS : Hid (∀ wx, Below w.heap.size w wx → Calls Try.prog 67 #[.agg #[.int .i64 k0, .slice a0 m q0]] wx (SaysB false wx))) :
    Calls Try.prog 40 #[.agg #[.int .i64 k0, .slice a0 m q0]] w (ResY 0 [] 1 w) := by
  have t2 := Try.underlying31
  obtain ⟨w1, hw1⟩ : ∃ w1, w1 = ((w.alloc (.cells #[.int .i64 k0, .slice a0 m q0] 31)).alloc (.cells #[.int .i64 0, .slice none 0 0] 31)) := ⟨_, rfl⟩
  have S1 : Hid (Bx2Q w k0 (.slice a0 m q0) w1) := Lib.hid (by rw [hw1]; exact Bx2Q.start _ _ _)
  have d0 := S1.out.boxA.c0
  have d1 := S1.out.boxA.c1
  go_enter Try.func40, Try.ntmps40
  go_upto_region 1 with fail
  rw [← hw1]
  clear hw1
  go_wp2_with fail
  refine (IS.out w1 S1.out.bel).mono ?_
  rintro e w2 ⟨rfl, b2⟩
  have S2 := Lib.hid (S1.out.up b2)
  clear b2 S1 d0 d1
  have r0 := S2.out.boxR.c0
  have r1 := S2.out.boxR.c1
  have f0 := S2.out.boxR.fr 0
  have f1 := S2.out.boxR.fr 1
  go_wp2_with fail
  refine bodyPost_ret (results_box2_tmp rfl _ _ (w.heap.size + 1) _ _ _ rfl ((S2.out.boxR.set0 _).set1 _) t2 (by kernel_rfl)) rfl ?_
  exact ⟨_, fun _ => undef, rfl, famNil _ _, sepNil, (S2.out.bel.setCell (p := ⟨w.heap.size + 1, 0, none⟩) (by simp) _).setCell (p := ⟨w.heap.size + 1, 1, none⟩) (by simp) _⟩

set_option maxHeartbeats 1000000 in
theorem specKamDown_bad (k0 : Int) (a0 : Option Addr) (m q0 : Nat) (w : World) (IS : Hid (∀ wx, Below w.heap.size w wx → Calls Try.prog 67 #[.agg #[.int .i64 k0, .slice a0 m q0]] wx (SaysB false wx))) :
    Calls Try.prog 38 #[.agg #[.int .i64 k0, .slice a0 m q0]] w (ResY 0 [] 1 w) := by
  have t2 := Try.underlying31
  obtain ⟨w1, hw1⟩ : ∃ w1, w1 = ((w.alloc (.cells #[.int .i64 k0, .slice a0 m q0] 31)).alloc (.cells #[.int .i64 0, .slice none 0 0] 31)) := ⟨_, rfl⟩
  have S1 : Hid (Bx2Q w k0 (.slice a0 m q0) w1) := Lib.hid (by rw [hw1]; exact Bx2Q.start _ _ _)
  have d0 := S1.out.boxA.c0
  have d1 := S1.out.boxA.c1
  go_enter Try.func38, Try.ntmps38
  go_upto_region 1 with fail
  rw [← hw1]
  clear hw1
  go_wp2_with fail
  refine (IS.out w1 S1.out.bel).mono ?_
  rintro e w2 ⟨rfl, b2⟩
  have S2 := Lib.hid (S1.out.up b2)
  clear b2 S1 d0 d1
  have r0 := S2.out.boxR.c0
  have r1 := S2.out.boxR.c1
  have f0 := S2.out.boxR.fr 0
  have f1 := S2.out.boxR.fr 1
  go_wp2_with fail
  refine bodyPost_ret (results_box2_tmp rfl _ _ (w.heap.size + 1) _ _ _ rfl ((S2.out.boxR.set0 _).set1 _) t2 (by kernel_rfl)) rfl ?_
  exact ⟨_, fun _ => undef, rfl, famNil _ _, sepNil, (S2.out.bel.setCell (p := ⟨w.heap.size + 1, 0, none⟩) (by simp) _).setCell (p := ⟨w.heap.size + 1, 1, none⟩) (by simp) _⟩

set_option maxHeartbeats 1000000 in
theorem specKamUp_over (x : Int) (k0 : Int) (b0 o0 : Nat) (v0 : Value) (m q0 : Nat) (w : World) (hm : 0 < m) (hx : 0 ≤ x ∧ x ≤ 40) (hk : 1 ≤ k0 ∧ k0 ≤ 4) (hov : 40 < 2 * x + k0) (c0 : w.cell? ⟨b0, o0, none⟩ = some v0) (D0 : DegIs w v0 x)
    (IS : Hid (∀ wx, Below w.heap.size w wx → Calls Try.prog 67 #[.agg #[.int .i64 k0, .slice (some ⟨b0, o0, none⟩) m q0]] wx (SaysB true wx))) :
    Calls Try.prog 40 #[.agg #[.int .i64 k0, .slice (some ⟨b0, o0, none⟩) m q0]] w (ResY 0 [] 3 w) := by
  have t2 := Try.underlying31
  have C0 := Lib.hid c0
  have HD := Lib.hid D0
  obtain ⟨w1, hw1⟩ : ∃ w1, w1 = ((w.alloc (.cells #[.int .i64 k0, .slice (some ⟨b0, o0, none⟩) m q0] 31)).alloc (.cells #[.int .i64 0, .slice none 0 0] 31)) := ⟨_, rfl⟩
  have S1 : Hid (Bx2Q w k0 (.slice (some ⟨b0, o0, none⟩) m q0) w1) := Lib.hid (by rw [hw1]; exact Bx2Q.start _ _ _)
  clear c0 D0
  have d0 := S1.out.boxA.c0
  have d1 := S1.out.boxA.c1
  have hm2 : (0 : Int) < (m : Int) := by omega
  have hm1 : decide (0 < m) = true := decide_eq_true hm
  have hw1' : wrap64 (2 * x) = 2 * x := wrap_sm (by omega) (by omega)
  have hw2' : wrap64 (2 * x + k0) = 2 * x + k0 := wrap_sm (by omega) (by omega)
  have hov2 : decide (40 < 2 * x + k0) = true := decide_eq_true hov
  have hov3 : 40 < 2 * x + k0 := hov
  clear hx hk
  go_enter Try.func40, Try.ntmps40
  go_upto_region 1 with fail
  rw [← hw1]
  clear hw1
  go_wp2_with fail
  refine (IS.out w1 S1.out.bel).mono ?_
  rintro e w2 ⟨rfl, b2⟩
  have S2 := Lib.hid (S1.out.up b2)
  clear b2 S1 d0 d1
  have d0 := S2.out.boxA.c0
  have d1 := S2.out.boxA.c1
  have DG0 := Lib.hid (fun q : Nat => l08Degree_some b0 o0 m q0 v0 x (w2.drewN q) hm (((S2.out.bel.cell (p := ⟨b0, o0, none⟩) (World.block_lt_of_cell? w _ C0.out)).trans C0.out)) (Lib.hid ((HD.out.below S2.out.bel).drewN q)))
  clear C0 HD hov
  go_upto_region 3 with fail
  go_cut [3, 13] (fun s3 s13 wx => s3 = .int .i64 0 ∧ s13 = .bool true ∧ Hid (Bx2Q w k0 (.slice (some ⟨b0, o0, none⟩) m q0) wx))
  case first =>
    go_quiet ((go_at_call 69; exact Calls.quiet_of (DG0.out _)))
    go_wp2_with fail
    go_meet
    exact ⟨rfl, rfl, Lib.hid (S2.out.up (below_drewN (Below.refl _ _) _))⟩
  case rest =>
    obtain ⟨rfl, rfl, S3⟩ := hcut
    clear d0 d1 S2 DG0
    have r0 := S3.out.boxR.c0
    have r1 := S3.out.boxR.c1
    have f0 := S3.out.boxR.fr 0
    have f1 := S3.out.boxR.fr 1
    go_wp2_with fail
    refine bodyPost_ret (results_box2_tmp rfl _ _ (w.heap.size + 1) _ _ _ rfl ((S3.out.boxR.set0 _).set1 _) t2 (by kernel_rfl)) rfl ?_
    exact ⟨_, fun _ => undef, rfl, famNil _ _, sepNil, (S3.out.bel.setCell (p := ⟨w.heap.size + 1, 0, none⟩) (by simp) _).setCell (p := ⟨w.heap.size + 1, 1, none⟩) (by simp) _⟩
end Go.Proofs.Ytggebkcmokpcmaa.Pl
end
