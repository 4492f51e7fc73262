/-
  Joined: YSpMul.
-/
import Derived.Test.YtnfhfilconcajaaZtTotalSquare24
section
namespace Go.Proofs.Ytnfhfilconcajaa.Pl
open Go.RowKit
set_option linter.unusedVariables false
set_option maxRecDepth 100000

/-- The three boxes of the call. -/
structure Bx3M (w0 : World) (k0 : Int) (V0 : Value) (k1 : Int) (V1 : Value) (w : World) : Prop where
  bel : Below w0.heap.size w0 w
  boxA : Box w w0.heap.size 27 (.int .i64 k0) V0
  boxB : Box w (w0.heap.size + 1) 27 (.int .i64 k1) V1
  boxR : Box w (w0.heap.size + 1 + 1) 27 (.int .i64 0) (.slice none 0 0)
theorem Bx3M.start (w : World) (k0 : Int) (V0 : Value) (k1 : Int) (V1 : Value) : Bx3M w k0 V0 k1 V1 (((w.alloc (.cells #[.int .i64 k0, V0] 27)).alloc (.cells #[.int .i64 k1, V1] 27)).alloc (.cells #[.int .i64 0, .slice none 0 0] 27)) := by
  refine ⟨(((Below.refl w.heap.size w).alloc (Nat.le_refl _) _).alloc (by simp) _).alloc (by simp; omega) _, ((Box.new w _ _ _).alloc _).alloc _, ?_, ?_⟩
  · have := (Box.new (w.alloc (.cells #[.int .i64 k0, V0] 27)) 27 (.int .i64 k1) V1).alloc (.cells #[.int .i64 0, .slice none 0 0] 27)
    rw [World.size_alloc] at this; exact this
  · have := Box.new ((w.alloc (.cells #[.int .i64 k0, V0] 27)).alloc (.cells #[.int .i64 k1, V1] 27)) 27 (.int .i64 0) (.slice none 0 0)
    rw [World.size_alloc, World.size_alloc] at this; exact this
theorem Bx3M.up {w0 w w' : World} {k0 k1 : Int} {V0 V1 : Value} (h : Bx3M w0 k0 V0 k1 V1 w) (k : Below w.heap.size w w') : Bx3M w0 k0 V0 k1 V1 w' := ⟨h.bel.step1 k, h.boxA.up k, h.boxB.up k, h.boxR.up k⟩

/-- What l08Both tells. -/
def BothIsM (c : Int) (k0 k1 : Int) (a0 a1 : Option Addr) (m n q0 q1 : Nat) (w : World) : Prop := ∀ wx, Below w.heap.size w wx → Calls Try.prog 55 #[.agg #[.int .i64 k0, .slice a0 m q0], .agg #[.int .i64 k1, .slice a1 n q1]] wx fun e w' => e = .returned (.int .i64 c) ∧ Below wx.heap.size wx w'

/-- What ends the call without a polynomial. -/
theorem endMultiplyPolys {w w3 : World} {k0 k1 : Int} {V0 V1 : Value} (h : Bx3M w k0 V0 k1 V1 w3) (c : Int) : ResY 0 [] c w (.returned (.tuple #[.agg #[.int .i64 0, .slice none 0 0], .int .i64 c])) w3 :=
  ⟨_, fun _ => undef, rfl, famNil _ _, sepNil, h.bel⟩

set_option maxHeartbeats 1000000 in
theorem specMultiplyPolys_code (c : Int) (k0 k1 : Int) (a0 a1 : Option Addr) (m n q0 q1 : Nat) (w : World) (hc : c ≠ 0) (BO : Hid (BothIsM c k0 k1 a0 a1 m n q0 q1 w)) :
    Calls Try.prog 21 #[.agg #[.int .i64 k0, .slice a0 m q0], .agg #[.int .i64 k1, .slice a1 n q1]] w (ResY 0 [] c w) := by
  have t2 := Try.underlying27
  have hc1 : (c == 0) = false := by rw [beq_eq_false_iff_ne]; exact hc
  have hc2 : (c != 0) = true := by rw [bne_iff_ne]; exact hc
  obtain ⟨w1, hw1⟩ : ∃ w1, w1 = (((w.alloc (.cells #[.int .i64 k0, .slice a0 m q0] 27)).alloc (.cells #[.int .i64 k1, .slice a1 n q1] 27)).alloc (.cells #[.int .i64 0, .slice none 0 0] 27)) := ⟨_, rfl⟩
  have S1 : Hid (Bx3M w k0 (.slice a0 m q0) k1 (.slice a1 n q1) w1) := Lib.hid (by rw [hw1]; exact Bx3M.start _ _ _ _ _)
  have d0 := S1.out.boxA.c0
  have d1 := S1.out.boxA.c1
  have d2 := S1.out.boxB.c0
  have d3 := S1.out.boxB.c1
  clear hc
  go_enter Try.func21, Try.ntmps21
  go_upto_region 1 with fail
  rw [← hw1]
  clear hw1
  go_wp2_with fail
  refine (BO.out w1 S1.out.bel).mono ?_
  rintro e w2 ⟨rfl, b2⟩
  have S2 := Lib.hid (S1.out.up b2)
  clear b2 S1 d0 d1 d2 d3
  go_wp2_with fail
  go_quiet (fail)
  have S3 : Hid (Bx3M w k0 (.slice a0 m q0) k1 (.slice a1 n q1) (w2.drewN nq)) := Lib.hid (S2.out.up (below_drewN (Below.refl _ _) _))
  generalize w2.drewN nq = w3 at *
  have r0 := S3.out.boxR.c0
  have r1 := S3.out.boxR.c1
  have f0 := S3.out.boxR.fr 0
  have f1 := S3.out.boxR.fr 1
  go_wp2_with fail
  refine bodyPost_ret (results_box2_tmp rfl _ _ (w.heap.size + 1 + 1) _ _ _ rfl ((S3.out.boxR.set0 _).set1 _) t2 (by kernel_rfl)) rfl ?_
  exact ⟨_, fun _ => undef, rfl, famNil _ _, sepNil, (S3.out.bel.setCell (p := ⟨w.heap.size + 1 + 1, 0, none⟩) (by simp; omega) _).setCell (p := ⟨w.heap.size + 1 + 1, 1, none⟩) (by simp; omega) _⟩

set_option maxHeartbeats 1000000 in
theorem specMultiplyPolys_over (x y : Int) (k0 k1 : Int) (b0 o0 b1 o1 : Nat) (v0 v1 : Value) (m n q0 q1 : Nat) (w : World) (hm : 0 < m) (hn : 0 < n) (hx : 0 ≤ x ∧ x ≤ 40) (hy : 0 ≤ y ∧ y ≤ 40) (hxy : 40 < x + y)
    (BO : Hid (BothIsM 0 k0 k1 (some ⟨b0, o0, none⟩) (some ⟨b1, o1, none⟩) m n q0 q1 w)) (c0 : w.cell? ⟨b0, o0, none⟩ = some v0) (c1 : w.cell? ⟨b1, o1, none⟩ = some v1) (D0 : DegIs w v0 x) (D1 : DegIs w v1 y) :
    Calls Try.prog 21 #[.agg #[.int .i64 k0, .slice (some ⟨b0, o0, none⟩) m q0], .agg #[.int .i64 k1, .slice (some ⟨b1, o1, none⟩) n q1]] w (ResY 0 [] 3 w) := by
  have t2 := Try.underlying27
  have hm1 : decide (0 < m) = true := decide_eq_true (by omega)
  have hn1 : decide (0 < n) = true := decide_eq_true (by omega)
  have hw : wrap64 (x + y) = x + y := wrap_sm (by omega) (by omega)
  have hw2 : IntKind.i64.wrap (x + y) = x + y := by rw [IntKind.wrap_i64]; omega
  have hov : decide (40 < x + y) = true := decide_eq_true (by omega)
  obtain ⟨w1, hw1⟩ : ∃ w1, w1 = (((w.alloc (.cells #[.int .i64 k0, .slice (some ⟨b0, o0, none⟩) m q0] 27)).alloc (.cells #[.int .i64 k1, .slice (some ⟨b1, o1, none⟩) n q1] 27)).alloc (.cells #[.int .i64 0, .slice none 0 0] 27)) := ⟨_, rfl⟩
  have S1 : Hid (Bx3M w k0 (.slice (some ⟨b0, o0, none⟩) m q0) k1 (.slice (some ⟨b1, o1, none⟩) n q1) w1) := Lib.hid (by rw [hw1]; exact Bx3M.start _ _ _ _ _)
  have HM := Lib.hid hm
  have HN := Lib.hid hn
  have DG0 : Hid (∀ wx, Below w.heap.size w wx → Calls Try.prog 56 #[.slice (some ⟨b0, o0, none⟩) m q0] wx fun e w' => e = .returned (.int .i64 x) ∧ ∃ q, w' = wx.drewN q) := Lib.hid (fun wx hb => l08Degree_some b0 o0 m q0 v0 x wx hm ((hb.cell (p := ⟨b0, o0, none⟩) (World.block_lt_of_cell? w _ c0)).trans c0) (Lib.hid (D0.below hb)))
  have DG1 : Hid (∀ wx, Below w.heap.size w wx → Calls Try.prog 56 #[.slice (some ⟨b1, o1, none⟩) n q1] wx fun e w' => e = .returned (.int .i64 y) ∧ ∃ q, w' = wx.drewN q) := Lib.hid (fun wx hb => l08Degree_some b1 o1 n q1 v1 y wx hn ((hb.cell (p := ⟨b1, o1, none⟩) (World.block_lt_of_cell? w _ c1)).trans c1) (Lib.hid (D1.below hb)))
  have d0 := S1.out.boxA.c0
  have d1 := S1.out.boxA.c1
  have d2 := S1.out.boxB.c0
  have d3 := S1.out.boxB.c1
  clear c0 c1 D0 D1 hm hn hxy
  go_enter Try.func21, Try.ntmps21
  go_upto_region 1 with fail
  rw [← hw1]
  clear hw1
  go_wp2_with fail
  refine (BO.out w1 S1.out.bel).mono ?_
  rintro e w2 ⟨rfl, b2⟩
  have S2 := Lib.hid (S1.out.up b2)
  clear b2 S1 d0 d1 d2 d3
  have d1 := S2.out.boxA.c1
  have d3 := S2.out.boxB.c1
  have Q0 : Hid (∀ q, Calls Try.prog 56 #[.slice (some ⟨b0, o0, none⟩) m q0] (w2.drewN q) fun e w' => e = .returned (.int .i64 x) ∧ ∃ p, w' = (w2.drewN q).drewN p) := Lib.hid (fun q => DG0.out _ (below_drewN S2.out.bel q))
  have Q1 : Hid (∀ q, Calls Try.prog 56 #[.slice (some ⟨b1, o1, none⟩) n q1] (w2.drewN q) fun e w' => e = .returned (.int .i64 y) ∧ ∃ p, w' = (w2.drewN q).drewN p) := Lib.hid (fun q => DG1.out _ (below_drewN S2.out.bel q))
  clear DG0 DG1
  go_wp2_with fail
  go_quiet (first | (go_at_call_of 56 (Value.slice (some ⟨b0, o0, none⟩) m q0); exact Calls.quiet_of (Q0.out _)) | (go_at_call_of 56 (Value.slice (some ⟨b1, o1, none⟩) n q1); exact Calls.quiet_of (Q1.out _)))
  have S3 : Hid (Bx3M w k0 (.slice (some ⟨b0, o0, none⟩) m q0) k1 (.slice (some ⟨b1, o1, none⟩) n q1) (w2.drewN nq)) := Lib.hid (S2.out.up (below_drewN (Below.refl _ _) _))
  clear d1 d3 Q0 Q1
  generalize w2.drewN nq = w3 at *
  have r0 := S3.out.boxR.c0
  have r1 := S3.out.boxR.c1
  have f0 := S3.out.boxR.fr 0
  have f1 := S3.out.boxR.fr 1
  go_wp2_with fail
  refine bodyPost_ret (results_box2_tmp rfl _ _ (w.heap.size + 1 + 1) _ _ _ rfl ((S3.out.boxR.set0 _).set1 _) t2 (by kernel_rfl)) rfl ?_
  exact ⟨_, fun _ => undef, rfl, famNil _ _, sepNil, (S3.out.bel.setCell (p := ⟨w.heap.size + 1 + 1, 0, none⟩) (by simp; omega) _).setCell (p := ⟨w.heap.size + 1 + 1, 1, none⟩) (by simp; omega) _⟩

/-- What ok asks of the degrees, told so that the walk can take it. -/
def DegCaseM (w : World) (a0 a1 : Option Addr) (m n : Nat) : Prop :=
  m = 0 ∨ (0 < m ∧ n = 0) ∨ (0 < m ∧ 0 < n ∧ ∃ (b0 o0 b1 o1 : Nat) (v0 v1 : Value) (x y : Int), a0 = some ⟨b0, o0, none⟩ ∧ a1 = some ⟨b1, o1, none⟩ ∧ w.cell? ⟨b0, o0, none⟩ = some v0 ∧ w.cell? ⟨b1, o1, none⟩ = some v1 ∧ DegIs w v0 x ∧ DegIs w v1 y ∧ (0 ≤ x ∧ x ≤ 40) ∧ (0 ≤ y ∧ y ≤ 40) ∧ x + y ≤ 40)

/-- What is kept of the result that the region makes. -/
def MadeMul (w0 wS : World) (k : Int) (L : List (List Int)) (s7 s8 : Value) (wx : World) : Prop :=
  ∃ (g : Nat) (va : Option Addr) (vc : Nat) (VS : Nat → Value), s7 = .pointer (some ⟨g, 0, none⟩) ∧ s8 = .int .i64 (fitD L) ∧ Hid (OwnF w0 g (fitC k L) (.slice va (fitL L).length vc) (fitL L).length VS (rowsOf (fitL L)) wx) ∧ Hid (Below wS.heap.size wS wx)

set_option maxHeartbeats 4000000 in
theorem specMultiplyPolys_ok (k0 k1 : Int) (a0 a1 : Option Addr) (m n q0 q1 : Nat) (L : List (List Int)) (w : World) (DC : DegCaseM w a0 a1 m n) (BO : Hid (BothIsM 0 k0 k1 a0 a1 m n q0 q1 w))
    (TM : Hid (∀ wx, Below w.heap.size w wx → Calls Try.prog 63 #[.slice a0 m q0, .slice a1 n q1] wx (LPostY L wx))) :
    Calls Try.prog 21 #[.agg #[.int .i64 k0, .slice a0 m q0], .agg #[.int .i64 k1, .slice a1 n q1]] w (ResY (fitC k0 L) (fitL L) (fitD L) w) := by
  have t2 := Try.underlying27
  obtain ⟨w1, hw1⟩ : ∃ w1, w1 = (((w.alloc (.cells #[.int .i64 k0, .slice a0 m q0] 27)).alloc (.cells #[.int .i64 k1, .slice a1 n q1] 27)).alloc (.cells #[.int .i64 0, .slice none 0 0] 27)) := ⟨_, rfl⟩
  have S1 : Hid (Bx3M w k0 (.slice a0 m q0) k1 (.slice a1 n q1) w1) := Lib.hid (by rw [hw1]; exact Bx3M.start _ _ _ _ _)
  have d0 := S1.out.boxA.c0
  have d1 := S1.out.boxA.c1
  have d2 := S1.out.boxB.c0
  have d3 := S1.out.boxB.c1
  have HDC := Lib.hid DC
  clear DC
  go_enter Try.func21, Try.ntmps21
  go_upto_region 1 with fail
  rw [← hw1]
  clear hw1
  go_wp2_with fail
  refine (BO.out w1 S1.out.bel).mono ?_
  rintro e w2 ⟨rfl, b2⟩
  have S2 := Lib.hid (S1.out.up b2)
  clear b2 S1 d0 d1 d2 d3
  have d1 := S2.out.boxA.c1
  have d3 := S2.out.boxB.c1
  go_upto_region 2 with fail
  go_cut [6, 35] (fun s6 sl wx => s6 = .int .i64 0 ∧ sl = .bool false ∧ Hid (Bx3M w k0 (.slice a0 m q0) k1 (.slice a1 n q1) wx))
  case first =>
    rcases HDC.out with h | ⟨h, h2⟩ | ⟨hm, hn, b0, o0, b1, o1, v0, v1, x, y, rfl, rfl, c0, c1, D0, D1, hx, hy, hxy⟩
    · subst h
      go_quiet (fail)
      go_wp2_with fail
      go_meet
      exact ⟨rfl, rfl, Lib.hid (S2.out.up (below_drewN (Below.refl _ _) _))⟩
    · subst h2
      have hm1 : decide (0 < m) = true := decide_eq_true (by omega)
      clear h
      go_quiet (fail)
      go_wp2_with fail
      go_meet
      exact ⟨rfl, rfl, Lib.hid (S2.out.up (below_drewN (Below.refl _ _) _))⟩
    · have hm1 : decide (0 < m) = true := decide_eq_true (by omega)
      have hn1 : decide (0 < n) = true := decide_eq_true (by omega)
      have hw : wrap64 (x + y) = x + y := wrap_sm (by omega) (by omega)
      have hw2 : IntKind.i64.wrap (x + y) = x + y := by rw [IntKind.wrap_i64]; omega
      have hov : decide (40 < x + y) = false := decide_eq_false (by omega)
      have Q0 : Hid (∀ q, Calls Try.prog 56 #[.slice (some ⟨b0, o0, none⟩) m q0] (w2.drewN q) fun e w' => e = .returned (.int .i64 x) ∧ ∃ p, w' = (w2.drewN q).drewN p) := Lib.hid (fun q => by
        have hb := below_drewN S2.out.bel q
        exact l08Degree_some b0 o0 m q0 v0 x _ hm ((hb.cell (p := ⟨b0, o0, none⟩) (World.block_lt_of_cell? w _ c0)).trans c0) (Lib.hid (D0.below hb)))
      have Q1 : Hid (∀ q, Calls Try.prog 56 #[.slice (some ⟨b1, o1, none⟩) n q1] (w2.drewN q) fun e w' => e = .returned (.int .i64 y) ∧ ∃ p, w' = (w2.drewN q).drewN p) := Lib.hid (fun q => by
        have hb := below_drewN S2.out.bel q
        exact l08Degree_some b1 o1 n q1 v1 y _ hn ((hb.cell (p := ⟨b1, o1, none⟩) (World.block_lt_of_cell? w _ c1)).trans c1) (Lib.hid (D1.below hb)))
      clear c0 c1 D0 D1 hm hn hxy HDC
      go_quiet (first | (go_at_call_of 56 (Value.slice (some ⟨b0, o0, none⟩) m q0); exact Calls.quiet_of (Q0.out _)) | (go_at_call_of 56 (Value.slice (some ⟨b1, o1, none⟩) n q1); exact Calls.quiet_of (Q1.out _)))
      go_wp2_with fail
      go_meet
      exact ⟨rfl, rfl, Lib.hid (S2.out.up (below_drewN (Below.refl _ _) _))⟩
  case rest =>
    obtain ⟨rfl, rfl, S3⟩ := hcut
    clear d1 d3 S2 HDC
    go_upto_region 6 with fail
    go_cut [7, 8] (fun s7 s8 wx => MadeMul w wc k0 L s7 s8 wx)
    case first =>
      have KEEP : Hid (∀ wx, Below wc.heap.size wc wx → (wx.cell? ⟨w.heap.size, 0, none⟩ = some (.int .i64 k0) ∧ wx.cell? ⟨w.heap.size, 1, none⟩ = some (.slice a0 m q0) ∧ wx.cell? ⟨w.heap.size + 1, 1, none⟩ = some (.slice a1 n q1) ∧ Below wc.heap.size wc wx)) :=
        Lib.hid (fun wx hb => ⟨(S3.out.boxA.up hb).c0, (S3.out.boxA.up hb).c1, (S3.out.boxB.up hb).c1, hb⟩)
      have FT : Hid (∀ wx U US, FamL wx w.heap.size U US L → Sep L.length US → Calls Try.prog 57 #[.int .i64 k0, U] wx (FitRes w.heap.size k0 L wx)) := Lib.hid (fun wx U US f s => l08Fit_any k0 U US L _ wx f s)
      go_region_held3 (fun wx => wx.cell? ⟨w.heap.size, 0, none⟩ = some (.int .i64 k0) ∧ wx.cell? ⟨w.heap.size, 1, none⟩ = some (.slice a0 m q0) ∧ wx.cell? ⟨w.heap.size + 1, 1, none⟩ = some (.slice a1 n q1) ∧ Below wc.heap.size wc wx)
        (first | exact KEEP.out _ (Below.refl _ _).drew | exact KEEP.out _ (by assumption) | (go_split_ands; exact KEEP.out _ (Below.step1 (by assumption) ((Below.refl _ _).alloc (Nat.le_refl _) _))) | exact KEEP.out _ (Below.setCell (Below.setCell zB zA.size _) zA.size _) | exact KEEP.out _ (Below.setCell (Below.setCell zB (Nat.le_refl _) _) (Nat.le_refl _) _))
        (first
          | (go_at_call 63; go_split_ands; refine (TM.out _ (Below.step1 S3.out.bel ?_)).mono ?_; assumption; rintro e wA ⟨uA, usA, rfl, fA, sA, bA⟩; have zA := Below.step1 (by assumption) bA; have gA : w.heap.size ≤ wA.heap.size := Nat.le_trans S3.out.bel.size zA.size; have pA := fun wx (hb : Below wA.heap.size wA wx) => (Fam.base (B' := w.heap.size) fA (by first | exact S3.out.bel.size | (refine Nat.le_trans S3.out.bel.size ?_; simp))).below hb; (try have bx := Box.up (w := (wc.alloc (.cells #[.int .i64 0, .slice none 0 0] 27)).drew) (g := wc.heap.size) (Box.new wc 27 (.int .i64 0) (.slice none 0 0)) bA); (try have gx : w.heap.size ≤ wc.heap.size := S3.out.bel.size))
          | (go_at_call 57; refine (FT.out _ uA usA (pA _ ?_) sA).mono ?_; (first | exact Below.refl _ _ | exact (Below.refl _ _).alloc (Nat.le_refl _) _); rintro e wB ⟨vB, vsB, rfl, fB, sB, bB⟩; have qB : Below wA.heap.size wA wB := (by first | exact bB | exact Below.step1 ((Below.refl _ _).alloc (Nat.le_refl _) _) bB); have zB := Below.step1 zA qB; (try have bx3 := bx.up bB); (try have bx3 := Box.up (Box.new wA 27 (.int .i64 0) (.slice none 0 0)) bB); (try have y0 := bx3.c0); (try have y1 := bx3.c1); (try have y2 := bx3.fr 0); (try have y3 := bx3.fr 1); obtain ⟨vaB, vcB, rfl, _, _⟩ := Fam.head fB))
      all_goals
        go_wp2_with fail
        go_meet
        first
          | exact ⟨_, _, _, _, rfl, rfl, Lib.hid (OwnF.start (Nat.le_trans S3.out.bel.size zB.size) fB sB), Lib.hid (Below.step1 zB ((Below.refl _ _).alloc (Nat.le_refl _) _))⟩
          | exact ⟨_, _, _, _, rfl, rfl, Lib.hid (OwnF.stored bx3 fB sB gA), Lib.hid (Below.setCell (Below.setCell zB zA.size _) zA.size _)⟩
          | exact ⟨_, _, _, _, rfl, rfl, Lib.hid (OwnF.stored bx3 fB sB gx), Lib.hid (Below.setCell (Below.setCell zB (Nat.le_refl _) _) (Nat.le_refl _) _)⟩
    case rest =>
      rename World => w9
      obtain ⟨g, va, vc, VS, rfl, rfl, O9, B9⟩ := hcut
      have S9 := Lib.hid (S3.out.up B9.out)
      have e0 := O9.out.box.c0
      have e1 := O9.out.box.c1
      have r0 := S9.out.boxR.c0
      have r1 := S9.out.boxR.c1
      have f0 := S9.out.boxR.fr 0
      have f1 := S9.out.boxR.fr 1
      generalize fitL L = M at *
      generalize fitC k0 L = C at *
      generalize fitD L = cd at *
      have FIN := OwnF.stored (w0 := w) (c := C) S9.out.boxR O9.out.fam O9.out.sep (by omega)
      have BF : Below w.heap.size w ((w9.setCell ⟨w.heap.size + 1 + 1, 0, none⟩ (.int .i64 C)).setCell ⟨w.heap.size + 1 + 1, 1, none⟩ (.slice va M.length vc)) := (S9.out.bel.setCell (p := ⟨w.heap.size + 1 + 1, 0, none⟩) (by simp; omega) _).setCell (p := ⟨w.heap.size + 1 + 1, 1, none⟩) (by simp; omega) _
      have HFIN := Lib.hid FIN
      have HBF := Lib.hid BF
      clear FIN BF B9 S3 S9 O9
      go_wp2_with fail
      refine bodyPost_ret (results_box2_tmp rfl _ _ (w.heap.size + 1 + 1) _ _ _ rfl HFIN.out.box t2 (by kernel_rfl)) rfl ?_
      exact ⟨_, VS, rfl, HFIN.out.fam, HFIN.out.sep, HBF.out⟩
end Go.Proofs.Ytnfhfilconcajaa.Pl
end
