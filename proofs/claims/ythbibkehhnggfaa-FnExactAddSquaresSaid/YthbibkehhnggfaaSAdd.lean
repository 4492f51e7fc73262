/-
  spec.AddSquares and impl.AddSquares: the same answer. Written by tool/gen_sadd.py.
-/
import Derived.Test.YthbibkehhnggfaaSIsI
import Derived.Test.YthbibkehhnggfaaSRes
import Derived.Test.YthbibkehhnggfaaKSort
import Derived.Test.YthbibkehhnggfaaKSumT2
import Derived.Test.YthbibkehhnggfaaWSpecSum
import Derived.Test.YthbibkehhnggfaaKAsc
namespace Go.Proofs.Ythbibkehhnggfaa
open Go.RowKit
set_option linter.unusedVariables false
set_option maxRecDepth 100000

/-- The result's struct is written. -/
theorem finS {w w5 : World} {g gR : Nat} {V x : Value} {VS : Nat → Value} {L : List (List Int)} (hF : FamL w5 g V VS L) (hBe : Below w.heap.size w w5) (h0 : w.heap.size ≤ gR) (h1 : gR < g) (BR : Box1 w5 gR 29 x) :
    Box1 (w5.setCell ⟨gR, 0, none⟩ V) gR 29 V ∧ FamL (w5.setCell ⟨gR, 0, none⟩ V) w.heap.size V VS L ∧ Below w.heap.size w (w5.setCell ⟨gR, 0, none⟩ V) :=
  ⟨BR.set V, (Fam.same hF fun q hq hlt => heap_setCell_other _ _ _ _ (by simp; omega)).base (by omega), hBe.setCell (p := ⟨gR, 0, none⟩) h0 V⟩
theorem famNil (w : World) (g : Nat) : FamL w g (.slice none 0 0) (fun _ => undef) [] := ⟨World.ownsRow_nil _ _ _ _, fun i hi => absurd hi (Nat.not_lt_zero _)⟩
theorem sepNil : Sep ([] : List (List Int)).length (fun _ => undef) := fun i j hi => absurd hi (Nat.not_lt_zero _)

/-- The three structs of such a function: its arguments and its result. -/
structure Tri (w0 : World) (va vb : Value) (w : World) : Prop where
  bel : Below w0.heap.size w0 w
  bA : Box1 w w0.heap.size 29 va
  bB : Box1 w (w0.heap.size + 1) 29 vb
  bR : Box1 w (w0.heap.size + 1 + 1) 29 (.slice none 0 0)
theorem Tri.up {w0 w w' : World} {va vb : Value} (h : Tri w0 va vb w) (k : Below w.heap.size w w') : Tri w0 va vb w' := ⟨h.bel.step1 k, h.bA.up k, h.bB.up k, h.bR.up k⟩
theorem Tri.drewN {w0 w : World} {va vb : Value} (h : Tri w0 va vb w) (q : Nat) : Tri w0 va vb (w.drewN q) := ⟨below_drewN h.bel q, h.bA, h.bB, h.bR⟩
theorem Tri.size {w0 w : World} {va vb : Value} (h : Tri w0 va vb w) : w0.heap.size + 3 ≤ w.heap.size := by have := h.bR.lt; omega
theorem Tri.start (w : World) (va vb : Value) : Tri w va vb (((w.alloc (.cells #[va] 29)).alloc (.cells #[vb] 29)).alloc (.cells #[.slice none 0 0] 29)) := by
  refine ⟨(((Below.refl w.heap.size w).alloc (Nat.le_refl _) _).alloc (by simp) _).alloc (by simp; omega) _, ((Box1.new w _ _).alloc _).alloc _, ?_, ?_⟩
  · have := (Box1.new (w.alloc (.cells #[va] 29)) 29 vb).alloc (.cells #[.slice none 0 0] 29)
    simpa using this
  · have := Box1.new ((w.alloc (.cells #[va] 29)).alloc (.cells #[vb] 29)) 29 (.slice none 0 0)
    simpa using this

theorem isW_wf {xs : List Int} (h : isW xs) : ∀ z ∈ xs, (Lit.int .i64 z).wf = true := by
  intro z hz
  obtain ⟨i, hi, e⟩ := List.getElem_of_mem hz
  have h1 := h.le i hi
  unfold gOf at h1
  rw [List.getElem?_eq_getElem hi] at h1
  simp only [Option.getD_some] at h1
  rw [e] at h1
  exact (Bool.and_eq_true _ _).mpr ⟨decide_eq_true (by omega : (-9223372036854775808 : Int) ≤ z), decide_eq_true (by omega : z ≤ (9223372036854775807 : Int))⟩

set_option maxHeartbeats 2000000 in
theorem specAdd_bad1 (aa ab : Option Addr) (m n capa capb : Nat) (w : World) (A : Hid (∀ wx, Below w.heap.size w wx → Calls Try.prog 35 #[.agg #[.slice aa m capa]] wx (SaysB false wx))) :
    Calls Try.prog 19 #[.agg #[.slice aa m capa], .agg #[.slice ab n capb]] w (ResS [] 1 w) := by
  have t2 := Try.underlying29
  obtain ⟨w1, hw1⟩ : ∃ w1, w1 = (((w.alloc (.cells #[.slice aa m capa] 29)).alloc (.cells #[.slice ab n capb] 29)).alloc (.cells #[.slice none 0 0] 29)) := ⟨_, rfl⟩
  have T1 : Hid (Tri w (.slice aa m capa) (.slice ab n capb) w1) := Lib.hid (by rw [hw1]; exact Tri.start _ _ _)
  go_enter Try.func19, Try.ntmps19
  go_wp2_with fail
  rw [← hw1]
  clear hw1
  refine (A.out w1 T1.out.bel).mono ?_
  rintro e w2 ⟨rfl, b2⟩
  have T2 := Lib.hid (T1.out.up b2)
  clear b2 T1
  have dR := T2.out.bR.c
  have fR := T2.out.bR.fr 0
  go_wp2_with fail
  have FIN := finS (w := w) (famNil _ (w.heap.size + 1 + 1 + 1)) T2.out.bel (by omega) (by omega) T2.out.bR
  refine bodyPost_ret (results_box1_tmp rfl _ _ (w.heap.size + 1 + 1) _ _ rfl FIN.1 t2 (by kernel_rfl)) rfl ?_
  exact ⟨_, _, rfl, FIN.2.1, sepNil, FIN.2.2⟩

set_option maxHeartbeats 2000000 in
theorem specAdd_bad2 (aa ab : Option Addr) (m n capa capb : Nat) (w : World) (A : Hid (∀ wx, Below w.heap.size w wx → Calls Try.prog 35 #[.agg #[.slice aa m capa]] wx (SaysB true wx))) (B : Hid (∀ wx, Below w.heap.size w wx → Calls Try.prog 35 #[.agg #[.slice ab n capb]] wx (SaysB false wx))) :
    Calls Try.prog 19 #[.agg #[.slice aa m capa], .agg #[.slice ab n capb]] w (ResS [] 1 w) := by
  have t2 := Try.underlying29
  obtain ⟨w1, hw1⟩ : ∃ w1, w1 = (((w.alloc (.cells #[.slice aa m capa] 29)).alloc (.cells #[.slice ab n capb] 29)).alloc (.cells #[.slice none 0 0] 29)) := ⟨_, rfl⟩
  have T1 : Hid (Tri w (.slice aa m capa) (.slice ab n capb) w1) := Lib.hid (by rw [hw1]; exact Tri.start _ _ _)
  go_enter Try.func19, Try.ntmps19
  go_wp2_with fail
  rw [← hw1]
  clear hw1
  refine (A.out w1 T1.out.bel).mono ?_
  rintro e w2 ⟨rfl, b2⟩
  have T2 := Lib.hid (T1.out.up b2)
  clear b2 T1
  have d1 := T2.out.bB.c
  go_wp2_with fail
  clear d1
  refine (B.out w2 T2.out.bel).mono ?_
  rintro e w3 ⟨rfl, b3⟩
  have T3 := Lib.hid (T2.out.up b3)
  clear b3 T2
  have dR := T3.out.bR.c
  have fR := T3.out.bR.fr 0
  go_wp2_with fail
  have FIN := finS (w := w) (famNil _ (w.heap.size + 1 + 1 + 1)) T3.out.bel (by omega) (by omega) T3.out.bR
  refine bodyPost_ret (results_box1_tmp rfl _ _ (w.heap.size + 1 + 1) _ _ rfl FIN.1 t2 (by kernel_rfl)) rfl ?_
  exact ⟨_, _, rfl, FIN.2.1, sepNil, FIN.2.2⟩

set_option maxHeartbeats 2000000 in
theorem implAdd_bad1 (aa ab : Option Addr) (m n capa capb : Nat) (w : World) (A : Hid (∀ wx, Below w.heap.size w wx → Calls Try.prog 38 #[.agg #[.slice aa m capa]] wx (SaysB false wx))) :
    Calls Try.prog 21 #[.agg #[.slice aa m capa], .agg #[.slice ab n capb]] w (ResS [] 1 w) := by
  have t2 := Try.underlying29
  obtain ⟨w1, hw1⟩ : ∃ w1, w1 = (((w.alloc (.cells #[.slice aa m capa] 29)).alloc (.cells #[.slice ab n capb] 29)).alloc (.cells #[.slice none 0 0] 29)) := ⟨_, rfl⟩
  have T1 : Hid (Tri w (.slice aa m capa) (.slice ab n capb) w1) := Lib.hid (by rw [hw1]; exact Tri.start _ _ _)
  go_enter Try.func21, Try.ntmps21
  go_wp2_with fail
  rw [← hw1]
  clear hw1
  refine (A.out w1 T1.out.bel).mono ?_
  rintro e w2 ⟨rfl, b2⟩
  have T2 := Lib.hid (T1.out.up b2)
  clear b2 T1
  have dR := T2.out.bR.c
  have fR := T2.out.bR.fr 0
  go_wp2_with fail
  have FIN := finS (w := w) (famNil _ (w.heap.size + 1 + 1 + 1)) T2.out.bel (by omega) (by omega) T2.out.bR
  refine bodyPost_ret (results_box1_tmp rfl _ _ (w.heap.size + 1 + 1) _ _ rfl FIN.1 t2 (by kernel_rfl)) rfl ?_
  exact ⟨_, _, rfl, FIN.2.1, sepNil, FIN.2.2⟩

set_option maxHeartbeats 2000000 in
theorem implAdd_bad2 (aa ab : Option Addr) (m n capa capb : Nat) (w : World) (A : Hid (∀ wx, Below w.heap.size w wx → Calls Try.prog 38 #[.agg #[.slice aa m capa]] wx (SaysB true wx))) (B : Hid (∀ wx, Below w.heap.size w wx → Calls Try.prog 38 #[.agg #[.slice ab n capb]] wx (SaysB false wx))) :
    Calls Try.prog 21 #[.agg #[.slice aa m capa], .agg #[.slice ab n capb]] w (ResS [] 1 w) := by
  have t2 := Try.underlying29
  obtain ⟨w1, hw1⟩ : ∃ w1, w1 = (((w.alloc (.cells #[.slice aa m capa] 29)).alloc (.cells #[.slice ab n capb] 29)).alloc (.cells #[.slice none 0 0] 29)) := ⟨_, rfl⟩
  have T1 : Hid (Tri w (.slice aa m capa) (.slice ab n capb) w1) := Lib.hid (by rw [hw1]; exact Tri.start _ _ _)
  go_enter Try.func21, Try.ntmps21
  go_wp2_with fail
  rw [← hw1]
  clear hw1
  refine (A.out w1 T1.out.bel).mono ?_
  rintro e w2 ⟨rfl, b2⟩
  have T2 := Lib.hid (T1.out.up b2)
  clear b2 T1
  have d1 := T2.out.bB.c
  go_wp2_with fail
  clear d1
  refine (B.out w2 T2.out.bel).mono ?_
  rintro e w3 ⟨rfl, b3⟩
  have T3 := Lib.hid (T2.out.up b3)
  clear b3 T2
  have dR := T3.out.bR.c
  have fR := T3.out.bR.fr 0
  go_wp2_with fail
  have FIN := finS (w := w) (famNil _ (w.heap.size + 1 + 1 + 1)) T3.out.bel (by omega) (by omega) T3.out.bR
  refine bodyPost_ret (results_box1_tmp rfl _ _ (w.heap.size + 1 + 1) _ _ rfl FIN.1 t2 (by kernel_rfl)) rfl ?_
  exact ⟨_, _, rfl, FIN.2.1, sepNil, FIN.2.2⟩

set_option maxHeartbeats 2000000 in
theorem specAdd_range (aa ab : Option Addr) (m n capa capb : Nat) (w : World) (A : Hid (∀ wx, Below w.heap.size w wx → Calls Try.prog 35 #[.agg #[.slice aa m capa]] wx (SaysB true wx))) (B : Hid (∀ wx, Below w.heap.size w wx → Calls Try.prog 35 #[.agg #[.slice ab n capb]] wx (SaysB true wx))) (b1 o1 b2 o2 : Nat) (v1 v2 : Value) (x y : Int) (ea : aa = some ⟨b1, o1, none⟩) (eb : ab = some ⟨b2, o2, none⟩) (ca : w.cell? ⟨b1, o1, none⟩ = some v1) (cb : w.cell? ⟨b2, o2, none⟩ = some v2) (hx : DegIs w v1 x) (hy : DegIs w v2 y) (hm : 0 < m) (hn : 0 < n) (hne : (x != y) = true) :
    Calls Try.prog 19 #[.agg #[.slice aa m capa], .agg #[.slice ab n capb]] w (ResS [] 2 w) := by
  subst ea
  subst eb
  have CA := Lib.hid ca
  have CB := Lib.hid cb
  have HX := Lib.hid hx
  have HY := Lib.hid hy
  have hm' : (0 : Int) < (m : Int) := by omega
  have hn' : (0 : Int) < (n : Int) := by omega
  clear ca cb hx hy
  have t2 := Try.underlying29
  obtain ⟨w1, hw1⟩ : ∃ w1, w1 = (((w.alloc (.cells #[.slice (some ⟨b1, o1, none⟩) m capa] 29)).alloc (.cells #[.slice (some ⟨b2, o2, none⟩) n capb] 29)).alloc (.cells #[.slice none 0 0] 29)) := ⟨_, rfl⟩
  have T1 : Hid (Tri w (.slice (some ⟨b1, o1, none⟩) m capa) (.slice (some ⟨b2, o2, none⟩) n capb) w1) := Lib.hid (by rw [hw1]; exact Tri.start _ _ _)
  go_enter Try.func19, Try.ntmps19
  go_wp2_with fail
  rw [← hw1]
  clear hw1
  refine (A.out w1 T1.out.bel).mono ?_
  rintro e w2 ⟨rfl, b2⟩
  have T2 := Lib.hid (T1.out.up b2)
  clear b2 T1
  have d1 := T2.out.bB.c
  go_wp2_with fail
  clear d1
  refine (B.out w2 T2.out.bel).mono ?_
  rintro e w3 ⟨rfl, b3⟩
  have T3 := Lib.hid (T2.out.up b3)
  clear b3 T2
  have c1 : w3.cell? ⟨b1, o1, none⟩ = some v1 := (T3.out.bel.cell (p := ⟨b1, o1, none⟩) (World.block_lt_of_cell? w _ CA.out)).trans CA.out
  have c2 : w3.cell? ⟨b2, o2, none⟩ = some v2 := (T3.out.bel.cell (p := ⟨b2, o2, none⟩) (World.block_lt_of_cell? w _ CB.out)).trans CB.out
  have p1 : Hid (DegIs w3 v1 x) := Lib.hid (HX.out.below T3.out.bel)
  have p2 : Hid (DegIs w3 v2 y) := Lib.hid (HY.out.below T3.out.bel)
  have d0 := T3.out.bA.c
  have d1 := T3.out.bB.c
  go_wp2_with fail
  go_quiet ((go_at_call 36; exact Calls.quiet_of (l03Degree_is (by assumption) _)))
  have T4 := Lib.hid (T3.out.drewN nq)
  clear d0 d1 c1 c2
  have dR := T4.out.bR.c
  have fR := T4.out.bR.fr 0
  go_wp2_with fail
  have FIN := finS (w := w) (famNil _ (w.heap.size + 1 + 1 + 1)) T4.out.bel (by omega) (by omega) T4.out.bR
  refine bodyPost_ret (results_box1_tmp rfl _ _ (w.heap.size + 1 + 1) _ _ rfl FIN.1 t2 (by kernel_rfl)) rfl ?_
  exact ⟨_, _, rfl, FIN.2.1, sepNil, FIN.2.2⟩

set_option maxHeartbeats 2000000 in
theorem implAdd_range (aa ab : Option Addr) (m n capa capb : Nat) (w : World) (A : Hid (∀ wx, Below w.heap.size w wx → Calls Try.prog 38 #[.agg #[.slice aa m capa]] wx (SaysB true wx))) (B : Hid (∀ wx, Below w.heap.size w wx → Calls Try.prog 38 #[.agg #[.slice ab n capb]] wx (SaysB true wx))) (b1 o1 b2 o2 : Nat) (v1 v2 : Value) (x y : Int) (ea : aa = some ⟨b1, o1, none⟩) (eb : ab = some ⟨b2, o2, none⟩) (ca : w.cell? ⟨b1, o1, none⟩ = some v1) (cb : w.cell? ⟨b2, o2, none⟩ = some v2) (hx : DegIs w v1 x) (hy : DegIs w v2 y) (hm : 0 < m) (hn : 0 < n) (hne : (x != y) = true) :
    Calls Try.prog 21 #[.agg #[.slice aa m capa], .agg #[.slice ab n capb]] w (ResS [] 2 w) := by
  subst ea
  subst eb
  have CA := Lib.hid ca
  have CB := Lib.hid cb
  have HX := Lib.hid hx
  have HY := Lib.hid hy
  have hm' : (0 : Int) < (m : Int) := by omega
  have hn' : (0 : Int) < (n : Int) := by omega
  clear ca cb hx hy
  have t2 := Try.underlying29
  obtain ⟨w1, hw1⟩ : ∃ w1, w1 = (((w.alloc (.cells #[.slice (some ⟨b1, o1, none⟩) m capa] 29)).alloc (.cells #[.slice (some ⟨b2, o2, none⟩) n capb] 29)).alloc (.cells #[.slice none 0 0] 29)) := ⟨_, rfl⟩
  have T1 : Hid (Tri w (.slice (some ⟨b1, o1, none⟩) m capa) (.slice (some ⟨b2, o2, none⟩) n capb) w1) := Lib.hid (by rw [hw1]; exact Tri.start _ _ _)
  go_enter Try.func21, Try.ntmps21
  go_wp2_with fail
  rw [← hw1]
  clear hw1
  refine (A.out w1 T1.out.bel).mono ?_
  rintro e w2 ⟨rfl, b2⟩
  have T2 := Lib.hid (T1.out.up b2)
  clear b2 T1
  have d1 := T2.out.bB.c
  go_wp2_with fail
  clear d1
  refine (B.out w2 T2.out.bel).mono ?_
  rintro e w3 ⟨rfl, b3⟩
  have T3 := Lib.hid (T2.out.up b3)
  clear b3 T2
  have c1 : w3.cell? ⟨b1, o1, none⟩ = some v1 := (T3.out.bel.cell (p := ⟨b1, o1, none⟩) (World.block_lt_of_cell? w _ CA.out)).trans CA.out
  have c2 : w3.cell? ⟨b2, o2, none⟩ = some v2 := (T3.out.bel.cell (p := ⟨b2, o2, none⟩) (World.block_lt_of_cell? w _ CB.out)).trans CB.out
  have p1 : Hid (DegIs w3 v1 x) := Lib.hid (HX.out.below T3.out.bel)
  have p2 : Hid (DegIs w3 v2 y) := Lib.hid (HY.out.below T3.out.bel)
  have ZA : Hid (∀ wx, Calls Try.prog 39 #[.agg #[.slice (some ⟨b1, o1, none⟩) m capa]] wx fun e w' => e = .returned (.bool false) ∧ Below wx.heap.size wx w') := Lib.hid fun wx => by
    have := isZero_any (some ⟨b1, o1, none⟩) m capa wx
    rw [decide_eq_false (by omega)] at this
    exact this
  have ZB : Hid (∀ wx, Calls Try.prog 39 #[.agg #[.slice (some ⟨b2, o2, none⟩) n capb]] wx fun e w' => e = .returned (.bool false) ∧ Below wx.heap.size wx w') := Lib.hid fun wx => by
    have := isZero_any (some ⟨b2, o2, none⟩) n capb wx
    rw [decide_eq_false (by omega)] at this
    exact this
  have GA : Hid (∀ wx, Below w3.heap.size w3 wx → Calls Try.prog 40 #[.agg #[.slice (some ⟨b1, o1, none⟩) m capa]] wx fun e w' => e = .returned (.int .i64 x) ∧ Below wx.heap.size wx w') :=
    Lib.hid (fun wx hb => degree_any _ m capa x wx (fun h => by omega) (fun _ => ⟨b1, o1, v1, rfl, (hb.cell (p := ⟨b1, o1, none⟩) (World.block_lt_of_cell? w3 _ c1)).trans c1, p1.out.below hb⟩))
  have GB : Hid (∀ wx, Below w3.heap.size w3 wx → Calls Try.prog 40 #[.agg #[.slice (some ⟨b2, o2, none⟩) n capb]] wx fun e w' => e = .returned (.int .i64 y) ∧ Below wx.heap.size wx w') :=
    Lib.hid (fun wx hb => degree_any _ n capb y wx (fun h => by omega) (fun _ => ⟨b2, o2, v2, rfl, (hb.cell (p := ⟨b2, o2, none⟩) (World.block_lt_of_cell? w3 _ c2)).trans c2, p2.out.below hb⟩))
  clear c1 c2 p1 p2
  have KEEP : Hid (∀ wx, Below w3.heap.size w3 wx → (wx.cell? ⟨w.heap.size, 0, none⟩ = some (.slice (some ⟨b1, o1, none⟩) m capa) ∧ wx.cell? ⟨w.heap.size + 1, 0, none⟩ = some (.slice (some ⟨b2, o2, none⟩) n capb) ∧ Below w3.heap.size w3 wx)) :=
    Lib.hid (fun wx hb => ⟨(T3.out.bA.up hb).c, (T3.out.bB.up hb).c, hb⟩)
  have z0 : Below w3.heap.size w3 w3.drew := (Below.refl _ _).drew
  go_wp2_with fail
  go_region_held3 (fun wx => wx.cell? ⟨w.heap.size, 0, none⟩ = some (.slice (some ⟨b1, o1, none⟩) m capa) ∧ wx.cell? ⟨w.heap.size + 1, 0, none⟩ = some (.slice (some ⟨b2, o2, none⟩) n capb) ∧ Below w3.heap.size w3 wx)
    (first | exact KEEP.out _ (Below.refl _ _).drew | exact KEEP.out _ (by assumption))
    (first | (go_at_call 39; refine (ZA.out _).mono ?_; rintro e wq ⟨rfl, bq⟩; have zq : Below w3.heap.size w3 wq := Below.step1 (by assumption) bq) | (go_at_call 39; refine (ZB.out _).mono ?_; rintro e wq ⟨rfl, bq⟩; have zq : Below w3.heap.size w3 wq := Below.step1 (by assumption) bq) | (go_at_call 40; refine (GA.out _ (by assumption)).mono ?_; rintro e wq ⟨rfl, bq⟩; have zq : Below w3.heap.size w3 wq := Below.step1 (by assumption) bq) | (go_at_call 40; refine (GB.out _ (by assumption)).mono ?_; rintro e wq ⟨rfl, bq⟩; have zq : Below w3.heap.size w3 wq := Below.step1 (by assumption) bq))
  all_goals
    have T4 := Lib.hid (T3.out.up (by assumption : Below w3.heap.size w3 _))
    have dR := T4.out.bR.c
    have fR := T4.out.bR.fr 0
    go_wp2_with fail
    have FIN := finS (w := w) (famNil _ (w.heap.size + 1 + 1 + 1)) T4.out.bel (by omega) (by omega) T4.out.bR
    refine bodyPost_ret (results_box1_tmp rfl _ _ (w.heap.size + 1 + 1) _ _ rfl FIN.1 t2 (by kernel_rfl)) rfl ?_
    exact ⟨_, _, rfl, FIN.2.1, sepNil, FIN.2.2⟩
end Go.Proofs.Ythbibkehhnggfaa
