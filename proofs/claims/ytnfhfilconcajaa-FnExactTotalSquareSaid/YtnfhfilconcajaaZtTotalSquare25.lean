/-
  Joined: YSqX.
-/
import Derived.Test.YtnfhfilconcajaaZtTotalSquare24
import Derived.Test.YtnfhfilconcajaaZtTotalSquare23
import Derived.Test.YtnfhfilconcajaaZtTotalSquare04
section
namespace Go.Proofs.Ytnfhfilconcajaa.Pl
open Go.RowKit
set_option linter.unusedVariables false
set_option maxRecDepth 100000

/-- The two boxes of the call. -/
structure Bx2Q (w0 : World) (k0 : Int) (V0 : Value) (w : World) : Prop where
  bel : Below w0.heap.size w0 w
  boxA : Box w w0.heap.size 27 (.int .i64 k0) V0
  boxR : Box w (w0.heap.size + 1) 27 (.int .i64 0) (.slice none 0 0)
theorem Bx2Q.start (w : World) (k0 : Int) (V0 : Value) : Bx2Q w k0 V0 ((w.alloc (.cells #[.int .i64 k0, V0] 27)).alloc (.cells #[.int .i64 0, .slice none 0 0] 27)) := by
  refine ⟨((Below.refl w.heap.size w).alloc (Nat.le_refl _) _).alloc (by simp) _, (Box.new w _ _ _).alloc _, ?_⟩
  have := Box.new (w.alloc (.cells #[.int .i64 k0, V0] 27)) 27 (.int .i64 0) (.slice none 0 0)
  rw [World.size_alloc] at this; exact this
theorem Bx2Q.up {w0 w w' : World} {k0 : Int} {V0 : Value} (h : Bx2Q w0 k0 V0 w) (k : Below w.heap.size w w') : Bx2Q w0 k0 V0 w' := ⟨h.bel.step1 k, h.boxA.up k, h.boxR.up k⟩

set_option maxHeartbeats 1000000 in
theorem specSq_bad (k0 : Int) (a0 : Option Addr) (m q0 : Nat) (i : Int) (w : World) (IS : Hid (∀ wx, Below w.heap.size w wx → Calls Try.prog 49 #[.agg #[.int .i64 k0, .slice a0 m q0]] wx (SaysB false wx))) :
    Calls Try.prog 25 #[.agg #[.int .i64 k0, .slice a0 m q0], .int .i64 i] w (ResY 0 [] 1 w) := by
  have t2 := Try.underlying27
  obtain ⟨w1, hw1⟩ : ∃ w1, w1 = ((w.alloc (.cells #[.int .i64 k0, .slice a0 m q0] 27)).alloc (.cells #[.int .i64 0, .slice none 0 0] 27)) := ⟨_, rfl⟩
  have S1 : Hid (Bx2Q w k0 (.slice a0 m q0) w1) := Lib.hid (by rw [hw1]; exact Bx2Q.start _ _ _)
  have d0 := S1.out.boxA.c0
  have d1 := S1.out.boxA.c1
  go_enter Try.func25, Try.ntmps25
  go_upto_region 1 with fail
  rw [← hw1]
  clear hw1
  go_wp2_with fail
  refine (IS.out w1 S1.out.bel).mono ?_
  rintro e w2 ⟨rfl, b2⟩
  have S2 := Lib.hid (S1.out.up b2)
  clear b2 S1 d0 d1
  have r0 := S2.out.boxR.c0
  have r1 := S2.out.boxR.c1
  have f0 := S2.out.boxR.fr 0
  have f1 := S2.out.boxR.fr 1
  go_wp2_with fail
  refine bodyPost_ret (results_box2_tmp rfl _ _ (w.heap.size + 1) _ _ _ rfl ((S2.out.boxR.set0 _).set1 _) t2 (by kernel_rfl)) rfl ?_
  exact ⟨_, fun _ => undef, rfl, famNil _ _, sepNil, (S2.out.bel.setCell (p := ⟨w.heap.size + 1, 0, none⟩) (by simp) _).setCell (p := ⟨w.heap.size + 1, 1, none⟩) (by simp) _⟩

set_option maxHeartbeats 1000000 in
theorem specSq_range (k0 : Int) (a0 : Option Addr) (m q0 : Nat) (i : Int) (w : World) (hi : i < 0 ∨ 40 < i) (IS : Hid (∀ wx, Below w.heap.size w wx → Calls Try.prog 49 #[.agg #[.int .i64 k0, .slice a0 m q0]] wx (SaysB true wx))) :
    Calls Try.prog 25 #[.agg #[.int .i64 k0, .slice a0 m q0], .int .i64 i] w (ResY 0 [] 2 w) := by
  have I1 := Lib.hid (fun wx => l01In_no i 0 40 wx hi)
  clear hi
  have t2 := Try.underlying27
  obtain ⟨w1, hw1⟩ : ∃ w1, w1 = ((w.alloc (.cells #[.int .i64 k0, .slice a0 m q0] 27)).alloc (.cells #[.int .i64 0, .slice none 0 0] 27)) := ⟨_, rfl⟩
  have S1 : Hid (Bx2Q w k0 (.slice a0 m q0) w1) := Lib.hid (by rw [hw1]; exact Bx2Q.start _ _ _)
  have d0 := S1.out.boxA.c0
  have d1 := S1.out.boxA.c1
  go_enter Try.func25, Try.ntmps25
  go_upto_region 1 with fail
  rw [← hw1]
  clear hw1
  go_wp2_with fail
  refine (IS.out w1 S1.out.bel).mono ?_
  rintro e w2 ⟨rfl, b2⟩
  have S2 := Lib.hid (S1.out.up b2)
  clear b2 S1 d0 d1
  go_wp2_with fail
  refine (I1.out _).mono ?_
  rintro e w3 ⟨rfl, rfl⟩
  have r0 := S2.out.boxR.c0
  have r1 := S2.out.boxR.c1
  have f0 := S2.out.boxR.fr 0
  have f1 := S2.out.boxR.fr 1
  go_wp2_with fail
  refine bodyPost_ret (results_box2_tmp rfl _ _ (w.heap.size + 1) _ _ _ rfl ((S2.out.boxR.set0 _).set1 _) t2 (by kernel_rfl)) rfl ?_
  exact ⟨_, fun _ => undef, rfl, famNil _ _, sepNil, (S2.out.bel.setCell (p := ⟨w.heap.size + 1, 0, none⟩) (by simp) _).setCell (p := ⟨w.heap.size + 1, 1, none⟩) (by simp) _⟩

set_option maxHeartbeats 1000000 in
theorem specSq_over (x : Int) (k0 : Int) (b0 o0 : Nat) (v0 : Value) (m q0 : Nat) (i : Int) (w : World) (hm : 0 < m) (hx : 0 ≤ x ∧ x ≤ 40) (hi : 0 ≤ i ∧ i ≤ 40) (hxi : 40 < x + i) (c0 : w.cell? ⟨b0, o0, none⟩ = some v0) (D0 : DegIs w v0 x) (IS : Hid (∀ wx, Below w.heap.size w wx → Calls Try.prog 49 #[.agg #[.int .i64 k0, .slice (some ⟨b0, o0, none⟩) m q0]] wx (SaysB true wx))) :
    Calls Try.prog 25 #[.agg #[.int .i64 k0, .slice (some ⟨b0, o0, none⟩) m q0], .int .i64 i] w (ResY 0 [] 3 w) := by
  have I1 := Lib.hid (fun wx => l01In_yes i 0 40 wx hi.1 hi.2)
  have hm1 : decide (0 < m) = true := decide_eq_true (by omega)
  have hm2 : (0 : Int) < (m : Int) := by omega
  have hw : wrap64 (x + i) = x + i := wrap_sm (by omega) (by omega)
  have hov : decide (40 < x + i) = true := decide_eq_true (by omega)
  have DG0 : Hid (∀ wx, Below w.heap.size w wx → Calls Try.prog 56 #[.slice (some ⟨b0, o0, none⟩) m q0] wx fun e w' => e = .returned (.int .i64 x) ∧ ∃ q, w' = wx.drewN q) := Lib.hid (fun wx hb => l08Degree_some b0 o0 m q0 v0 x wx hm ((hb.cell (p := ⟨b0, o0, none⟩) (World.block_lt_of_cell? w _ c0)).trans c0) (Lib.hid (D0.below hb)))
  clear hm hi c0 D0
  have t2 := Try.underlying27
  obtain ⟨w1, hw1⟩ : ∃ w1, w1 = ((w.alloc (.cells #[.int .i64 k0, .slice (some ⟨b0, o0, none⟩) m q0] 27)).alloc (.cells #[.int .i64 0, .slice none 0 0] 27)) := ⟨_, rfl⟩
  have S1 : Hid (Bx2Q w k0 (.slice (some ⟨b0, o0, none⟩) m q0) w1) := Lib.hid (by rw [hw1]; exact Bx2Q.start _ _ _)
  have d0 := S1.out.boxA.c0
  have d1 := S1.out.boxA.c1
  go_enter Try.func25, Try.ntmps25
  go_upto_region 1 with fail
  rw [← hw1]
  clear hw1
  go_wp2_with fail
  refine (IS.out w1 S1.out.bel).mono ?_
  rintro e w2 ⟨rfl, b2⟩
  have S2 := Lib.hid (S1.out.up b2)
  clear b2 S1 d0 d1
  go_wp2_with fail
  refine (I1.out _).mono ?_
  rintro e w3 ⟨rfl, rfl⟩
  have d0 := S2.out.boxA.c0
  have d1 := S2.out.boxA.c1
  go_wp2_with fail
  refine (DG0.out _ S2.out.bel).mono ?_
  rintro e w3 ⟨rfl, q, rfl⟩
  have S3 := Lib.hid (S2.out.up (below_drewN (Below.refl _ _) q))
  clear d0 d1 S2
  rename Hid (Bx2Q w k0 _ _) => S2
  generalize World.drewN _ q = w9 at *
  have r0 := S2.out.boxR.c0
  have r1 := S2.out.boxR.c1
  have f0 := S2.out.boxR.fr 0
  have f1 := S2.out.boxR.fr 1
  go_wp2_with fail
  refine bodyPost_ret (results_box2_tmp rfl _ _ (w.heap.size + 1) _ _ _ rfl ((S2.out.boxR.set0 _).set1 _) t2 (by kernel_rfl)) rfl ?_
  exact ⟨_, fun _ => undef, rfl, famNil _ _, sepNil, (S2.out.bel.setCell (p := ⟨w.heap.size + 1, 0, none⟩) (by simp) _).setCell (p := ⟨w.heap.size + 1, 1, none⟩) (by simp) _⟩

/-- What ok asks of the degree. -/
def DegCaseQ (w : World) (a0 : Option Addr) (m : Nat) (i : Int) : Prop :=
  m = 0 ∨ (0 < m ∧ ∃ (b0 o0 : Nat) (v0 : Value) (x : Int), a0 = some ⟨b0, o0, none⟩ ∧ w.cell? ⟨b0, o0, none⟩ = some v0 ∧ DegIs w v0 x ∧ (0 ≤ x ∧ x ≤ 40) ∧ x + i ≤ 40)
/-- What is kept of the result that the region makes. -/
def MadeSq (w0 wS : World) (k : Int) (L : List (List Int)) (s7 s8 : Value) (wx : World) : Prop :=
  ∃ (g : Nat) (va : Option Addr) (vc : Nat) (VS : Nat → Value), s7 = .pointer (some ⟨g, 0, none⟩) ∧ s8 = .int .i64 (fitD L) ∧ Hid (OwnF w0 g (fitC k L) (.slice va (fitL L).length vc) (fitL L).length VS (rowsOf (fitL L)) wx) ∧ Hid (Below wS.heap.size wS wx)

set_option maxHeartbeats 4000000 in
theorem specSq_ok (k0 : Int) (a0 : Option Addr) (m q0 : Nat) (i : Int) (L : List (List Int)) (w : World) (hi : 0 ≤ i ∧ i ≤ 40) (DC : DegCaseQ w a0 m i) (IS : Hid (∀ wx, Below w.heap.size w wx → Calls Try.prog 49 #[.agg #[.int .i64 k0, .slice a0 m q0]] wx (SaysB true wx)))
    (TM : Hid (∀ wx, Below w.heap.size w wx → Calls Try.prog 66 #[.slice a0 m q0, .int .i64 i] wx (LPostY L wx))) :
    Calls Try.prog 25 #[.agg #[.int .i64 k0, .slice a0 m q0], .int .i64 i] w (ResY (fitC k0 L) (fitL L) (fitD L) w) := by
  have I1 := Lib.hid (fun wx => l01In_yes i 0 40 wx hi.1 hi.2)
  have HDC := Lib.hid DC
  have HI := Lib.hid hi
  clear DC hi
  have t2 := Try.underlying27
  obtain ⟨w1, hw1⟩ : ∃ w1, w1 = ((w.alloc (.cells #[.int .i64 k0, .slice a0 m q0] 27)).alloc (.cells #[.int .i64 0, .slice none 0 0] 27)) := ⟨_, rfl⟩
  have S1 : Hid (Bx2Q w k0 (.slice a0 m q0) w1) := Lib.hid (by rw [hw1]; exact Bx2Q.start _ _ _)
  have d0 := S1.out.boxA.c0
  have d1 := S1.out.boxA.c1
  go_enter Try.func25, Try.ntmps25
  go_upto_region 1 with fail
  rw [← hw1]
  clear hw1
  go_wp2_with fail
  refine (IS.out w1 S1.out.bel).mono ?_
  rintro e w2 ⟨rfl, b2⟩
  have S2 := Lib.hid (S1.out.up b2)
  clear b2 S1 d0 d1
  go_wp2_with fail
  refine (I1.out _).mono ?_
  rintro e w3 ⟨rfl, rfl⟩
  have d0 := S2.out.boxA.c0
  have d1 := S2.out.boxA.c1
  go_upto_region 5 with fail
  go_cut [5, 18] (fun s5 sl wx => s5 = .int .i64 0 ∧ sl = .bool false ∧ Hid (Bx2Q w k0 (.slice a0 m q0) wx))
  case first =>
    rcases HDC.out with h | ⟨hm, b0, o0, v0, x, rfl, c0, D0, hx, hxi⟩
    · subst h
      go_wp2_with fail
      go_meet
      exact ⟨rfl, rfl, S2⟩
    · have hm1 : decide (0 < m) = true := decide_eq_true (by omega)
      have hm2 : (0 : Int) < (m : Int) := by omega
      have hi2 := HI.out
      have hw : wrap64 (x + i) = x + i := wrap_sm (by omega) (by omega)
      have hov : decide (40 < x + i) = false := decide_eq_false (by omega)
      have DG0 := Lib.hid (l08Degree_some b0 o0 m q0 v0 x _ hm ((S2.out.bel.cell (p := ⟨b0, o0, none⟩) (World.block_lt_of_cell? w _ c0)).trans c0) (Lib.hid (D0.below S2.out.bel)))
      clear c0 D0 hm hxi HDC hi2 hx
      go_wp2_with fail
      refine DG0.out.mono ?_
      rintro e w4 ⟨rfl, q, rfl⟩
      go_wp2_with fail
      go_meet
      exact ⟨rfl, rfl, Lib.hid (S2.out.up (below_drewN (Below.refl _ _) _))⟩
  case rest =>
    obtain ⟨rfl, rfl, S3⟩ := hcut
    clear d0 d1 S2 HDC
    go_upto_region 7 with fail
    go_cut [6, 7] (fun s7 s8 wx => MadeSq w wc k0 L s7 s8 wx)
    case first =>
      have KEEP : Hid (∀ wx, Below wc.heap.size wc wx → (wx.cell? ⟨w.heap.size, 0, none⟩ = some (.int .i64 k0) ∧ wx.cell? ⟨w.heap.size, 1, none⟩ = some (.slice a0 m q0) ∧ Below wc.heap.size wc wx)) :=
        Lib.hid (fun wx hb => ⟨(S3.out.boxA.up hb).c0, (S3.out.boxA.up hb).c1, hb⟩)
      have FT : Hid (∀ wx U US, FamL wx w.heap.size U US L → Sep L.length US → Calls Try.prog 57 #[.int .i64 k0, U] wx (FitRes w.heap.size k0 L wx)) := Lib.hid (fun wx U US f s => l08Fit_any k0 U US L _ wx f s)
      go_region_held3 (fun wx => wx.cell? ⟨w.heap.size, 0, none⟩ = some (.int .i64 k0) ∧ wx.cell? ⟨w.heap.size, 1, none⟩ = some (.slice a0 m q0) ∧ Below wc.heap.size wc wx)
        (first | exact KEEP.out _ (Below.refl _ _).drew | exact KEEP.out _ (by assumption) | (go_split_ands; exact KEEP.out _ (Below.step1 (by assumption) ((Below.refl _ _).alloc (Nat.le_refl _) _))) | exact KEEP.out _ (Below.setCell (Below.setCell zB zA.size _) zA.size _) | exact KEEP.out _ (Below.setCell (Below.setCell zB (Nat.le_refl _) _) (Nat.le_refl _) _))
        (first
          | (go_at_call 66; go_split_ands; refine (TM.out _ (Below.step1 S3.out.bel ?_)).mono ?_; assumption; rintro e wA ⟨uA, usA, rfl, fA, sA, bA⟩; have zA := Below.step1 (by assumption) bA; have gA : w.heap.size ≤ wA.heap.size := Nat.le_trans S3.out.bel.size zA.size; have pA := fun wx (hb : Below wA.heap.size wA wx) => (Fam.base (B' := w.heap.size) fA (by first | exact S3.out.bel.size | (refine Nat.le_trans S3.out.bel.size ?_; simp))).below hb; (try have bx := Box.up (w := (wc.alloc (.cells #[.int .i64 0, .slice none 0 0] 27)).drew) (g := wc.heap.size) (Box.new wc 27 (.int .i64 0) (.slice none 0 0)) bA); (try have gx : w.heap.size ≤ wc.heap.size := S3.out.bel.size))
          | (go_at_call 57; refine (FT.out _ uA usA (pA _ ?_) sA).mono ?_; (first | exact Below.refl _ _ | exact (Below.refl _ _).alloc (Nat.le_refl _) _); rintro e wB ⟨vB, vsB, rfl, fB, sB, bB⟩; have qB : Below wA.heap.size wA wB := (by first | exact bB | exact Below.step1 ((Below.refl _ _).alloc (Nat.le_refl _) _) bB); have zB := Below.step1 zA qB; (try have bx3 := bx.up bB); (try have bx3 := Box.up (Box.new wA 27 (.int .i64 0) (.slice none 0 0)) bB); (try have y0 := bx3.c0); (try have y1 := bx3.c1); (try have y2 := bx3.fr 0); (try have y3 := bx3.fr 1); obtain ⟨vaB, vcB, rfl, _, _⟩ := Fam.head fB))
      all_goals
        go_wp2_with fail
        go_meet
        first
          | exact ⟨_, _, _, _, rfl, rfl, Lib.hid (OwnF.start (Nat.le_trans S3.out.bel.size zB.size) fB sB), Lib.hid (Below.step1 zB ((Below.refl _ _).alloc (Nat.le_refl _) _))⟩
          | exact ⟨_, _, _, _, rfl, rfl, Lib.hid (OwnF.stored bx3 fB sB gA), Lib.hid (Below.setCell (Below.setCell zB zA.size _) zA.size _)⟩
          | exact ⟨_, _, _, _, rfl, rfl, Lib.hid (OwnF.stored bx3 fB sB gx), Lib.hid (Below.setCell (Below.setCell zB (Nat.le_refl _) _) (Nat.le_refl _) _)⟩
    case rest =>
      rename World => w9
      obtain ⟨g, va, vc, VS, rfl, rfl, O9, B9⟩ := hcut
      have S9 := Lib.hid (S3.out.up B9.out)
      have e0 := O9.out.box.c0
      have e1 := O9.out.box.c1
      have r0 := S9.out.boxR.c0
      have r1 := S9.out.boxR.c1
      have f0 := S9.out.boxR.fr 0
      have f1 := S9.out.boxR.fr 1
      generalize fitL L = M at *
      generalize fitC k0 L = C at *
      generalize fitD L = cd at *
      have FIN := OwnF.stored (w0 := w) (c := C) S9.out.boxR O9.out.fam O9.out.sep (by omega)
      have BF : Below w.heap.size w ((w9.setCell ⟨w.heap.size + 1, 0, none⟩ (.int .i64 C)).setCell ⟨w.heap.size + 1, 1, none⟩ (.slice va M.length vc)) := (S9.out.bel.setCell (p := ⟨w.heap.size + 1, 0, none⟩) (by simp) _).setCell (p := ⟨w.heap.size + 1, 1, none⟩) (by simp) _
      have HFIN := Lib.hid FIN
      have HBF := Lib.hid BF
      clear FIN BF B9 S3 S9 O9
      go_wp2_with fail
      refine bodyPost_ret (results_box2_tmp rfl _ _ (w.heap.size + 1) _ _ _ rfl HFIN.out.box t2 (by kernel_rfl)) rfl ?_
      exact ⟨_, VS, rfl, HFIN.out.fam, HFIN.out.sep, HBF.out⟩
end Go.Proofs.Ytnfhfilconcajaa.Pl
end
