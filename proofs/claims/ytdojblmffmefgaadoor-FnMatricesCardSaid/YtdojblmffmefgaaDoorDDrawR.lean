/-
  The draws of matrices for FnRanks: spec.DrawKernelOf, spec.DrawSolveRows, spec.DrawInverseMatrix.
  The draws of matrices for FnRanks: spec.DrawHasMask, spec.DrawSolveRows, spec.l02Square, spec.DrawInverseMatrix.
-/
import Derived.Test.YtdojblmffmefgaaDoorDDrawC
import Derived.Test.YtdojblmffmefgaaDoorMFew
namespace Go.Proofs.YtdojblmffmefgaaDoor
open Go.RowKit
set_option linter.unusedVariables false
set_option maxRecDepth 100000

/-- Storing into the result's box. -/
theorem fin_one {w : World} {g1 : Nat} {C1 : Int} {v1 : Value} (x1 : Box w g1 26 (.int .i64 0) (.slice none 0 0)) :
    ∃ wz, wz = ((w.setCell ⟨g1, 0, none⟩ (.int .i64 C1)).setCell ⟨g1, 1, none⟩ v1) ∧
    Box wz g1 26 (.int .i64 C1) v1 ∧ (∀ B n v xs, w.ownsRow B 2 1 v n xs → wz.ownsRow B 2 1 v n xs) ∧ ∀ w0 B, Below B w0 w → B ≤ g1 → Below B w0 wz :=
  ⟨_, rfl, (x1.set0 (.int .i64 C1)).set1 v1, fun B n v xs o => own_setBox (x1.set0 (.int .i64 C1)) (own_setBox x1 o (by decide)) (by decide), fun w0 B b h1 => (b.setCell (p := ⟨g1, 0, none⟩) h1 _).setCell (p := ⟨g1, 1, none⟩) h1 _⟩

/-- A drawn matrix. -/
def OneRes (w : World) (e : Ending) (w' : World) : Prop :=
  ∃ (C1 : Int) (L1 : List Int) (u1 : Value), e = .returned (.agg #[.int .i64 C1, u1]) ∧ L1.length ≤ 400 ∧ w'.ownsRow w.heap.size 2 1 u1 L1.length (L1.map (Value.int .i64)) ∧ Below w.heap.size w w'
/-- A drawn matrix and a number. -/
def OneVRes (w : World) (e : Ending) (w' : World) : Prop :=
  ∃ (C1 : Int) (L1 : List Int) (u1 : Value) (z : Int), e = .returned (.tuple #[.agg #[.int .i64 C1, u1], .int .i64 z]) ∧ L1.length ≤ 400 ∧ w'.ownsRow w.heap.size 2 1 u1 L1.length (L1.map (Value.int .i64)) ∧ Below w.heap.size w w'

set_option maxHeartbeats 1000000 in
theorem DrawIs_any (a : Option Addr) (m cap : Nat) (w : World) (hc : Code w w.heap.size a m) (hm : m ≤ 4096) :
    Calls Tryd.prog 16 #[.slice a m cap] w (OneRes w) := by
  have t2 := Tryd.underlying26
  have W2 : ∃ w2, w2 = (w.alloc (.cells #[.int .i64 0, .slice none 0 0] 26)) := ⟨_, rfl⟩
  obtain ⟨w2, hw2⟩ := W2
  have B2 : Hid (Below w.heap.size w w2) := Lib.hid (by rw [hw2]; exact (Below.refl w.heap.size w).alloc (Nat.le_refl _) _)
  have R1 : Hid (Box w2 w.heap.size 26 (.int .i64 0) (.slice none 0 0)) := Lib.hid (by rw [hw2]; exact Box.new w _ _ _)
  have Z2 : Hid (w2.heap.size = w.heap.size + 1) := Lib.hid (by rw [hw2]; simp)
  have FR := Lib.hid (l01From_any a m cap w2 (code_mono (hc.below B2.out) (by have := Z2.out; omega)) hm)
  clear hc
  go_enter Tryd.func16, Tryd.ntmps16
  go_wp2_with fail
  rw [← hw2]
  clear hw2
  refine FR.out.mono ?_
  rintro e w3 ⟨rfl, b3, s3⟩
  have T3 : Hid (Tw w2 w2.heap.size w3) := Lib.hid ⟨s3, b3⟩
  clear b3 s3 FR
  generalize hg : w2.heap.size = g at *
  have Z2 : Hid (g = w.heap.size + 1) := Z2
  clear hg
  go_wp2_with fail
  refine (l02Spoil_any g g w3 T3.out.src).mono ?_
  rintro e w4 ⟨C1, L1, u1, rfl, _, hl1, o4, s4, k4⟩
  have T4 := Lib.hid (T3.out.grown s4 k4)
  obtain ⟨ub, uc, rfl⟩ := o4.shape
  have O4 := Lib.hid (own_base o4 (show w.heap.size ≤ _ by have := T3.out.src.lt; have := Z2.out; omega))
  clear s4 k4 o4 T3
  have X1 := Lib.hid (R1.out.below T4.out.bel (by have := Z2.out; omega))
  have r0 := X1.out.c0
  have r1 := X1.out.c1
  have f0 := X1.out.fr 0
  have f1 := X1.out.fr 1
  obtain ⟨wz, hwz, Y1, OO, BB⟩ := fin_one (C1 := C1) (v1 := .slice ub L1.length uc) X1.out
  have Y1 := Lib.hid Y1
  have OO := Lib.hid OO
  have BB := Lib.hid BB
  have BW := Lib.hid (B2.out.trans (T4.out.bel.mono (by have := Z2.out; omega)))
  go_wp2_with fail
  rw [← hwz]
  clear hwz
  refine bodyPost_ret (results_cell_row rfl _ _ w.heap.size 26 _ (0, 0) _ rfl Y1.out t2 rfl (by kernel_rfl)) rfl ?_
  exact ⟨_, L1, _, rfl, by omega, OO.out _ _ _ _ O4.out, BB.out _ _ BW.out (Nat.le_refl _)⟩

set_option maxHeartbeats 1000000 in
theorem DrawKer_any (a : Option Addr) (m cap : Nat) (w : World) (hc : Code w w.heap.size a m) (hm : m ≤ 4096) :
    Calls Tryd.prog 39 #[.slice a m cap] w (OneRes w) := by
  have t2 := Tryd.underlying26
  have W2 : ∃ w2, w2 = (w.alloc (.cells #[.int .i64 0, .slice none 0 0] 26)) := ⟨_, rfl⟩
  obtain ⟨w2, hw2⟩ := W2
  have B2 : Hid (Below w.heap.size w w2) := Lib.hid (by rw [hw2]; exact (Below.refl w.heap.size w).alloc (Nat.le_refl _) _)
  have R1 : Hid (Box w2 w.heap.size 26 (.int .i64 0) (.slice none 0 0)) := Lib.hid (by rw [hw2]; exact Box.new w _ _ _)
  have Z2 : Hid (w2.heap.size = w.heap.size + 1) := Lib.hid (by rw [hw2]; simp)
  have FR := Lib.hid (DrawIs_any a m cap w2 (code_mono (hc.below B2.out) (by have := Z2.out; omega)) hm)
  clear hc
  go_enter Tryd.func39, Tryd.ntmps39
  go_wp2_with fail
  rw [← hw2]
  clear hw2
  refine FR.out.mono ?_
  rintro e w4 ⟨C1, L1, u1, rfl, hl1, o4, b4⟩
  obtain ⟨ub, uc, rfl⟩ := o4.shape
  have O4 := Lib.hid (own_base o4 (show w.heap.size ≤ _ by have := Z2.out; omega))
  have X1 := Lib.hid (R1.out.up b4)
  have r0 := X1.out.c0
  have r1 := X1.out.c1
  have f0 := X1.out.fr 0
  have f1 := X1.out.fr 1
  obtain ⟨wz, hwz, Y1, OO, BB⟩ := fin_one (C1 := C1) (v1 := .slice ub L1.length uc) X1.out
  have Y1 := Lib.hid Y1
  have OO := Lib.hid OO
  have BB := Lib.hid BB
  have BW := Lib.hid (B2.out.trans (b4.mono (by have := Z2.out; omega)))
  clear b4 o4
  go_wp2_with fail
  rw [← hwz]
  clear hwz
  refine bodyPost_ret (results_cell_row rfl _ _ w.heap.size 26 _ (0, 0) _ rfl Y1.out t2 rfl (by kernel_rfl)) rfl ?_
  exact ⟨_, L1, _, rfl, by omega, OO.out _ _ _ _ O4.out, BB.out _ _ BW.out (Nat.le_refl _)⟩

set_option linter.unusedVariables false
set_option maxRecDepth 100000

/-- Some number, and nothing has changed. -/
def SomeRes (w : World) (e : Ending) (w' : World) : Prop := ∃ z : Int, e = .returned (.int .i64 z) ∧ w = w'
/-- Some product of a mask. -/
theorem l02Times_some (x : Int) (s : Value) (n : Nat) (G : Nat → Int) (w : World) (h : RdI w s n G) :
    Calls Tryd.prog 82 #[.int .i64 x, s] w (SomeRes w) := by
  obtain ⟨a, cap, rfl, hm, hc⟩ := h
  unfold maxLen at hm
  have HC := Lib.hid hc
  clear hc
  go_enter Tryd.func82, Tryd.ntmps82
  go_wp2
  go_loop [5, 6] (fun t i => ∃ (j : Nat) (z : Int), j ≤ n ∧ i = .int .i64 j ∧ t = .int .i64 z) (fun _ i => n - (intOf i).toNat)
  case atStart => exact ⟨0, 0, by omega, rfl, rfl⟩
  case round =>
    obtain ⟨j, z, hj, rfl, rfl⟩ := hrel
    by_cases hlt : j < n
    · have hlt' : (j : Int) < (n : Int) := by omega
      obtain ⟨b, off, rfl, hc⟩ := HC.out.resolve_left (by omega)
      have c1 := hc j hlt
      clear hc
      generalize G j = y at c1
      cases hb : (bits .and .i64 (x / 2 ^ min j 64) 1 == 1) with
      | true =>
        go_wp2
        go_round
        case rel => exact ⟨j + 1, _, by omega, by go_num, rfl⟩
        case measure => simp [intOf]; omega
      | false =>
        go_wp2
        go_round
        case rel => exact ⟨j + 1, _, by omega, by go_num, rfl⟩
        case measure => simp [intOf]; omega
    · obtain rfl : j = n := by omega
      go_wp2
      go_ret
      exact ⟨_, rfl, rfl⟩

set_option maxHeartbeats 4000000 in
theorem DrawHas_any (a : Option Addr) (m cap : Nat) (w : World) (hc : Code w w.heap.size a m) (hm : m ≤ 4096) :
    Calls Tryd.prog 96 #[.slice a m cap] w (OneVRes w) := by
  have t2 := Tryd.underlying26
  have W2 : ∃ w2, w2 = (w.alloc (.cells #[.int .i64 0, .slice none 0 0] 26)) := ⟨_, rfl⟩
  obtain ⟨w2, hw2⟩ := W2
  have B2 : Hid (Below w.heap.size w w2) := Lib.hid (by rw [hw2]; exact (Below.refl w.heap.size w).alloc (Nat.le_refl _) _)
  have R1 : Hid (Box w2 w.heap.size 26 (.int .i64 0) (.slice none 0 0)) := Lib.hid (by rw [hw2]; exact Box.new w _ _ _)
  have Z2 : Hid (w2.heap.size = w.heap.size + 1) := Lib.hid (by rw [hw2]; simp)
  have FR := Lib.hid (l01From_any a m cap w2 (code_mono (hc.below B2.out) (by have := Z2.out; omega)) hm)
  clear hc
  go_enter Tryd.func96, Tryd.ntmps96
  go_wp2_with fail
  rw [← hw2]
  clear hw2
  refine FR.out.mono ?_
  rintro e w3 ⟨rfl, b3, s3⟩
  have T3 : Hid (Tw w2 w2.heap.size w3) := Lib.hid ⟨s3, b3⟩
  clear b3 s3 FR
  generalize hg : w2.heap.size = g at *
  have Z2 : Hid (g = w.heap.size + 1) := Z2
  clear hg
  go_wp2_with fail
  refine (l02Spoil_any g g w3 T3.out.src).mono ?_
  rintro e w4 ⟨C1, L1, u1, rfl, _, hl1, o4, s4, k4⟩
  have T4 := Lib.hid (T3.out.grown s4 k4)
  obtain ⟨va1, vc1, rfl⟩ := o4.shape
  have T5 := Lib.hid (T4.out.up ((Below.refl _ _).alloc (Nat.le_refl _) (.cells #[.int .i64 C1, .slice va1 L1.length vc1] 26)))
  have A5 : Hid (At g w4.heap.size C1 (.slice va1 L1.length vc1) L1 (w4.alloc (.cells #[.int .i64 C1, .slice va1 L1.length vc1] 26))) := Lib.hid ⟨Box.new _ _ _ _, own_below (own_base o4 (by have := T3.out.src.lt; omega)) ((Below.refl _ _).alloc (Nat.le_refl _) _), T4.out.src.lt.2⟩
  clear s4 k4 o4 T3 T4
  go_wp2_with fail
  generalize (w4.alloc (.cells #[.int .i64 C1, .slice va1 L1.length vc1] 26)) = w5 at *
  generalize w4.heap.size = gA at *
  have TZ : TA w2 g gA C1 (.slice va1 L1.length vc1) L1 w5 := ⟨T5.out, A5.out⟩
  have TD0 := TZ.up (Below.refl _ _).drew
  have KEEP : Hid (∀ wx, TA w2 g gA C1 (.slice va1 L1.length vc1) L1 wx → (wx.cell? ⟨gA, 1, none⟩ = some (.slice va1 L1.length vc1) ∧ TA w2 g gA C1 (.slice va1 L1.length vc1) L1 wx)) := Lib.hid (fun wx h => ⟨h.a.box.c1, h⟩)
  go_region_held3 (fun wx => wx.cell? ⟨gA, 1, none⟩ = some (.slice va1 L1.length vc1) ∧ TA w2 g gA C1 (.slice va1 L1.length vc1) L1 wx)
    (first | exact KEEP.out _ (by assumption))
    (first
      | (go_at_call 74; go_split_ands; refine (next_g g g 65536 _ (TA.t (by assumption)).src (by omega) (by omega)).mono ?_; rintro e wA ⟨y, rfl, ⟨y0, y1⟩, sA, kA⟩; have tA : TA w2 g gA C1 (.slice va1 L1.length vc1) L1 wA := TA.grown (by assumption) sA kA)
      | (go_at_call 82; refine (l02Times_some y _ L1.length _ wA tA.a.rd).mono ?_; rintro e wB ⟨z, rfl, rfl⟩))
  have T6 := Lib.hid tA.t
  have A6 := Lib.hid tA.a
  clear KEEP TD0 TZ T5 A5 sA kA tA
  go_wp2_with fail
  refine (next_g g g 3 _ T6.out.src (by omega) (by omega)).mono ?_
  rintro e w7 ⟨x, rfl, ⟨x0, x1⟩, s7, k7⟩
  have T7 := Lib.hid (T6.out.grown s7 k7)
  have A7 := Lib.hid (A6.out.grown k7)
  clear s7 k7 T6 A6
  by_cases hx : x = 0
  · subst hx
    go_wp2_with fail
    refine (next_g g g 8 _ T7.out.src (by omega) (by omega)).mono ?_
    rintro e w8 ⟨x8, rfl, ⟨x80, x81⟩, s8, k8⟩
    have T8 := Lib.hid (T7.out.grown s8 k8)
    have A8 := Lib.hid (A7.out.grown k8)
    clear s8 k8 T7 A7
    obtain ⟨r8, rfl⟩ := Int.eq_ofNat_of_zero_le x80
    have NX := Lib.hid (next_g g g 24 w8.drew ((T8.out.up (Below.refl _ _).drew).src) (by omega) (by omega))
    have TD := Lib.hid (T8.out.up (Below.refl _ _).drew)
    have AD := Lib.hid (A8.out.up (Below.refl _ _).drew)
    have c0 := A8.out.box.c0
    have c1 := A8.out.box.c1
    go_wp2_with fail
    go_region_law (first | (go_simp; go_at_call 74; refine NX.out.mono ?_; rintro e w9 ⟨y9, rfl, ⟨y0, y1⟩, s9, k9⟩; have T9 := Lib.hid (TD.out.grown s9 k9); have A9 := Lib.hid (AD.out.grown k9); have q0 := A9.out.box.c0; have q1 := A9.out.box.c1; have X1 := Lib.hid (R1.out.below T9.out.bel (by have := Z2.out; omega)); have r0 := X1.out.c0; have r1 := X1.out.c1; have f0 := X1.out.fr 0; have f1 := X1.out.fr 1; have NA : ¬ gA = w.heap.size := (by have := A9.out.gt; have := Z2.out; omega)))
    all_goals
      obtain ⟨wz, hwz, Y1, OO, BB⟩ := fin_one (C1 := C1) (v1 := .slice va1 L1.length vc1) X1.out
      rw [← hwz]
      have Y1 := Lib.hid Y1
      have OO := Lib.hid OO
      have BB := Lib.hid BB
      have A9o := Lib.hid A9.out.own
      have BW := Lib.hid (B2.out.trans (T9.out.bel.mono (by have := Z2.out; omega)))
      have HL : Hid (L1.length ≤ 400) := Lib.hid (by omega)
      clear hwz q0 q1 r0 r1 f0 f1 s9 k9
      go_wp2
      refine bodyPost_ret (results_box_tmp rfl _ _ w.heap.size _ _ _ rfl Y1.out t2 (by kernel_rfl)) rfl ?_
      exact ⟨_, L1, _, _, rfl, HL.out, own_base (OO.out _ _ _ _ A9o.out) (by have := Z2.out; omega), BB.out _ _ BW.out (Nat.le_refl _)⟩
  · have hx' : (x == 0) = false := by rw [beq_eq_false_iff_ne]; exact hx
    have NX := Lib.hid (next_g g g 24 w7.drew ((T7.out.up (Below.refl _ _).drew).src) (by omega) (by omega))
    have TD := Lib.hid (T7.out.up (Below.refl _ _).drew)
    have AD := Lib.hid (A7.out.up (Below.refl _ _).drew)
    have c0 := A7.out.box.c0
    have c1 := A7.out.box.c1
    go_wp2_with fail
    go_region_law (first | (go_simp; go_at_call 74; refine NX.out.mono ?_; rintro e w9 ⟨y9, rfl, ⟨y0, y1⟩, s9, k9⟩; have T9 := Lib.hid (TD.out.grown s9 k9); have A9 := Lib.hid (AD.out.grown k9); have q0 := A9.out.box.c0; have q1 := A9.out.box.c1; have X1 := Lib.hid (R1.out.below T9.out.bel (by have := Z2.out; omega)); have r0 := X1.out.c0; have r1 := X1.out.c1; have f0 := X1.out.fr 0; have f1 := X1.out.fr 1; have NA : ¬ gA = w.heap.size := (by have := A9.out.gt; have := Z2.out; omega)))
    all_goals
      obtain ⟨wz, hwz, Y1, OO, BB⟩ := fin_one (C1 := C1) (v1 := .slice va1 L1.length vc1) X1.out
      rw [← hwz]
      have Y1 := Lib.hid Y1
      have OO := Lib.hid OO
      have BB := Lib.hid BB
      have A9o := Lib.hid A9.out.own
      have BW := Lib.hid (B2.out.trans (T9.out.bel.mono (by have := Z2.out; omega)))
      have HL : Hid (L1.length ≤ 400) := Lib.hid (by omega)
      clear hwz q0 q1 r0 r1 f0 f1 s9 k9
      go_wp2
      refine bodyPost_ret (results_box_tmp rfl _ _ w.heap.size _ _ _ rfl Y1.out t2 (by kernel_rfl)) rfl ?_
      exact ⟨_, L1, _, _, rfl, HL.out, own_base (OO.out _ _ _ _ A9o.out) (by have := Z2.out; omega), BB.out _ _ BW.out (Nat.le_refl _)⟩

set_option maxHeartbeats 1000000 in
theorem DrawSol_any (a : Option Addr) (m cap : Nat) (w : World) (hc : Code w w.heap.size a m) (hm : m ≤ 4096) :
    Calls Tryd.prog 44 #[.slice a m cap] w (OneVRes w) := by
  have t2 := Tryd.underlying26
  have W2 : ∃ w2, w2 = (w.alloc (.cells #[.int .i64 0, .slice none 0 0] 26)) := ⟨_, rfl⟩
  obtain ⟨w2, hw2⟩ := W2
  have B2 : Hid (Below w.heap.size w w2) := Lib.hid (by rw [hw2]; exact (Below.refl w.heap.size w).alloc (Nat.le_refl _) _)
  have R1 : Hid (Box w2 w.heap.size 26 (.int .i64 0) (.slice none 0 0)) := Lib.hid (by rw [hw2]; exact Box.new w _ _ _)
  have Z2 : Hid (w2.heap.size = w.heap.size + 1) := Lib.hid (by rw [hw2]; simp)
  have FR := Lib.hid (DrawHas_any a m cap w2 (code_mono (hc.below B2.out) (by have := Z2.out; omega)) hm)
  clear hc
  go_enter Tryd.func44, Tryd.ntmps44
  go_wp2_with fail
  rw [← hw2]
  clear hw2
  refine FR.out.mono ?_
  rintro e w4 ⟨C1, L1, u1, z, rfl, hl1, o4, b4⟩
  obtain ⟨ub, uc, rfl⟩ := o4.shape
  have b5 : Below w4.heap.size w4 (w4.alloc (.cells #[.int .i64 C1, .slice ub L1.length uc] 26)) := (Below.refl _ _).alloc (Nat.le_refl _) _
  have O4 := Lib.hid (own_below (own_base o4 (show w.heap.size ≤ _ by have := Z2.out; omega)) b5)
  have X1 := Lib.hid ((R1.out.up b4).up b5)
  have r0 := X1.out.c0
  have r1 := X1.out.c1
  have f0 := X1.out.fr 0
  have f1 := X1.out.fr 1
  have NE : ¬ w4.heap.size = w.heap.size := by have := b4.size; have := Z2.out; omega
  obtain ⟨wz, hwz, Y1, OO, BB⟩ := fin_one (C1 := C1) (v1 := .slice ub L1.length uc) X1.out
  have Y1 := Lib.hid Y1
  have OO := Lib.hid OO
  have BB := Lib.hid BB
  have BW := Lib.hid ((B2.out.trans (b4.mono (by have := Z2.out; omega))).trans (b5.mono (by have := b4.size; have := Z2.out; omega)))
  clear b4 o4 b5
  go_wp2_with fail
  rw [← hwz]
  clear hwz
  refine bodyPost_ret (results_box_tmp rfl _ _ w.heap.size _ _ _ rfl Y1.out t2 (by kernel_rfl)) rfl ?_
  exact ⟨_, L1, _, _, rfl, by omega, OO.out _ _ _ _ O4.out, BB.out _ _ BW.out (Nat.le_refl _)⟩

set_option maxHeartbeats 4000000 in
theorem l02Square_any (g B : Nat) (w : World) (hs : Src w g B) :
    Calls Tryd.prog 100 #[.pointer (some ⟨g, 0, none⟩)] w (WithRes B g 100 (fun _ => True) w) := by
  have t2 := Tryd.underlying26
  have D1 := Lib.hid (Dr.new hs)
  clear hs
  go_enter Tryd.func100, Tryd.ntmps100
  go_wp2_with fail
  generalize (w.alloc (.cells #[.int .i64 0, .slice none 0 0] 26)) = w1 at *
  refine (next_g g B 8 w1 D1.out.src (by omega) (by omega)).mono ?_
  rintro e w2 ⟨x, rfl, ⟨x0, x1⟩, s1, k1⟩
  have D2 := Lib.hid (D1.out.grown s1 k1)
  clear s1 k1 D1
  obtain ⟨r, rfl⟩ := Int.eq_ofNat_of_zero_le x0
  go_wp2_with fail
  refine (l02With_eq g B r r w2 D2.out.src (by omega) (by omega)).mono ?_
  rintro e w3 ⟨C, L, u, rfl, rfl, hl, o3, s3, k3⟩
  have D3 := Lib.hid (D2.out.grown s3 k3)
  have O3 := Lib.hid (own_base o3 D2.out.gr.size)
  obtain ⟨ua, uc, rfl⟩ := o3.shape
  have M4 := Lib.hid (D3.out.box (C := (r : Int)) O3.out)
  have HLr := Lib.hid hl
  clear s3 k3 o3 D2 O3 D3 hl
  go_wp2_with fail
  generalize w3.heap.size = gO at *
  generalize (w3.alloc (.cells #[.int .i64 (r : Int), .slice ua L.length uc] 26)) = w4 at *
  go_loopw [5] (fun t wr => ∃ (k : Nat) (L2 : List Int) (v2 : Value), t = .int .i64 k ∧ k ≤ r ∧ Hid (L2.length = r) ∧ Hid (Mk w g B w.heap.size gO r v2 L2 wr)) (fun t _ => r - (intOf t).toNat)
  case atStart => exact ⟨0, L, _, rfl, Nat.zero_le _, HLr, M4⟩
  case round =>
    clear M4 HLr
    obtain ⟨k, L2, v2, rfl, hk, HL, M⟩ := hrel
    have o0 := M.out.own
    obtain ⟨va, vc, rfl⟩ := o0.shape
    clear o0
    by_cases hlt : k < r
    · have hlt' : (k : Int) < (r : Int) := by omega
      have N := Lib.hid (next_g g B 4 wr M.out.src (by omega) (by omega))
      go_wp2_with fail
      refine N.out.mono ?_
      rintro e w5 ⟨y, rfl, ⟨y0, y1⟩, s5, k5⟩
      have MM := Lib.hid (M.out.grown s5 k5)
      clear s5 k5 N M
      by_cases hy : 0 < y
      · have hlen : k < L2.length := by rw [HL.out]; exact hlt
        have hlen' : (k : Int) < (L2.length : Int) := by omega
        have O := MM.out.own
        rcases O.2 with ⟨h0, _⟩ | ⟨b, cap2, cur, h0, _⟩
        · injection h0 with _ e2 _; omega
        · injection h0 with e1 _ e3
          subst e1 e3
          have x0 := O.cellAt k (by omega)
          have f2 := O.frozenAt k
          have e1 : (L2.map (Value.int .i64))[k]? = some (.int .i64 (L2.getD k 0)) := by simp [List.getD_eq_getElem?_getD, hlen]
          rw [e1] at x0
          clear e1 O
          have SR := Lib.hid (fun z : Int => (MM.out.setRow rfl k z).up (Below.refl _ _).drew)
          have d1 := MM.out.bO.c1
          have HL3 : Hid (∀ z : Int, (L2.set k z).length = r) := Lib.hid (fun z => by rw [List.length_set]; exact HL.out)
          generalize L2.getD k 0 = y2 at *
          clear HL
          go_wp2
          go_region
          clear x0 f2 d1
          go_wp2
          go_roundw
          case rel => exact ⟨k + 1, L2.set k _, _, by go_num, by omega, HL3.out _ |> Lib.hid, Lib.hid (SR.out _)⟩
          case measure => simp [intOf]; omega
      · have hy' : ¬ (0 : Int) < y := hy
        have HL2 : Hid (L2.length ≤ 100) := Lib.hid (by rw [HL.out]; omega)
        clear HL
        have d0 := MM.out.bO.c0
        have d1 := MM.out.bO.c1
        have cR0 := MM.out.bR.c0
        have cR1 := MM.out.bR.c1
        have fR0 := MM.out.bR.fr 0
        have fR1 := MM.out.bR.fr 1
        obtain ⟨F1, F2, F3, F4⟩ := MM.out.fin
        have F1 := Lib.hid F1
        have F2 := Lib.hid F2
        have F3 := Lib.hid F3
        have F4 := Lib.hid F4
        go_wp2
        refine bodyPost_ret (results_cell_row rfl _ _ w.heap.size 26 _ (0, 0) _ rfl F1.out t2 rfl (by kernel_rfl)) rfl ?_
        exact ⟨_, L2, _, rfl, trivial, HL2.out, F2.out, F3.out, F4.out⟩
    · have hlt' : ¬ (k : Int) < (r : Int) := by omega
      have HL2 : Hid (L2.length ≤ 100) := Lib.hid (by rw [HL.out]; omega)
      have MM := M
      clear HL
      have d0 := MM.out.bO.c0
      have d1 := MM.out.bO.c1
      have cR0 := MM.out.bR.c0
      have cR1 := MM.out.bR.c1
      have fR0 := MM.out.bR.fr 0
      have fR1 := MM.out.bR.fr 1
      obtain ⟨F1, F2, F3, F4⟩ := MM.out.fin
      have F1 := Lib.hid F1
      have F2 := Lib.hid F2
      have F3 := Lib.hid F3
      have F4 := Lib.hid F4
      go_wp2
      refine bodyPost_ret (results_cell_row rfl _ _ w.heap.size 26 _ (0, 0) _ rfl F1.out t2 rfl (by kernel_rfl)) rfl ?_
      exact ⟨_, L2, _, rfl, trivial, HL2.out, F2.out, F3.out, F4.out⟩

set_option maxHeartbeats 1000000 in
theorem DrawInv_any (a : Option Addr) (m cap : Nat) (w : World) (hc : Code w w.heap.size a m) (hm : m ≤ 4096) :
    Calls Tryd.prog 48 #[.slice a m cap] w (OneRes w) := by
  have t2 := Tryd.underlying26
  have W2 : ∃ w2, w2 = (w.alloc (.cells #[.int .i64 0, .slice none 0 0] 26)) := ⟨_, rfl⟩
  obtain ⟨w2, hw2⟩ := W2
  have B2 : Hid (Below w.heap.size w w2) := Lib.hid (by rw [hw2]; exact (Below.refl w.heap.size w).alloc (Nat.le_refl _) _)
  have R1 : Hid (Box w2 w.heap.size 26 (.int .i64 0) (.slice none 0 0)) := Lib.hid (by rw [hw2]; exact Box.new w _ _ _)
  have Z2 : Hid (w2.heap.size = w.heap.size + 1) := Lib.hid (by rw [hw2]; simp)
  have FR := Lib.hid (l01From_any a m cap w2 (code_mono (hc.below B2.out) (by have := Z2.out; omega)) hm)
  clear hc
  go_enter Tryd.func48, Tryd.ntmps48
  go_wp2_with fail
  rw [← hw2]
  clear hw2
  refine FR.out.mono ?_
  rintro e w3 ⟨rfl, b3, s3⟩
  have T3 : Hid (Tw w2 w2.heap.size w3) := Lib.hid ⟨s3, b3⟩
  clear b3 s3 FR
  generalize hg : w2.heap.size = g at *
  have Z2 : Hid (g = w.heap.size + 1) := Z2
  clear hg
  go_wp2_with fail
  refine (next_g g g 8 w3 T3.out.src (by omega) (by omega)).mono ?_
  rintro e w4 ⟨x, rfl, ⟨x0, x1⟩, s4, k4⟩
  have T4 := Lib.hid (T3.out.grown s4 k4)
  clear s4 k4 T3
  by_cases hx : x = 0
  · subst hx
    go_wp2_with fail
    refine (l02Spoil_any g g w4 T4.out.src).mono ?_
    rintro e w5 ⟨C1, L1, u1, rfl, _, hl1, o5, s5, k5⟩
    have T5 := Lib.hid (T4.out.grown s5 k5)
    obtain ⟨ub, uc, rfl⟩ := o5.shape
    have O5 := Lib.hid (own_base o5 (show w.heap.size ≤ _ by have := T4.out.src.lt; have := Z2.out; omega))
    clear s5 k5 o5 T4
    have X1 := Lib.hid (R1.out.below T5.out.bel (by have := Z2.out; omega))
    have r0 := X1.out.c0
    have r1 := X1.out.c1
    have f0 := X1.out.fr 0
    have f1 := X1.out.fr 1
    obtain ⟨wz, hwz, Y1, OO, BB⟩ := fin_one (C1 := C1) (v1 := .slice ub L1.length uc) X1.out
    have Y1 := Lib.hid Y1
    have OO := Lib.hid OO
    have BB := Lib.hid BB
    have BW := Lib.hid (B2.out.trans (T5.out.bel.mono (by have := Z2.out; omega)))
    go_wp2_with fail
    rw [← hwz]
    clear hwz
    refine bodyPost_ret (results_cell_row rfl _ _ w.heap.size 26 _ (0, 0) _ rfl Y1.out t2 rfl (by kernel_rfl)) rfl ?_
    exact ⟨_, L1, _, rfl, by omega, OO.out _ _ _ _ O5.out, BB.out _ _ BW.out (Nat.le_refl _)⟩
  · have hx' : (x == 0) = false := by rw [beq_eq_false_iff_ne]; exact hx
    go_wp2_with fail
    refine (l02Square_any g g w4 T4.out.src).mono ?_
    rintro e w5 ⟨C1, L1, u1, rfl, _, hl1, o5, s5, k5⟩
    have T5 := Lib.hid (T4.out.grown s5 k5)
    obtain ⟨ub, uc, rfl⟩ := o5.shape
    have O5 := Lib.hid (own_base o5 (show w.heap.size ≤ _ by have := T4.out.src.lt; have := Z2.out; omega))
    clear s5 k5 o5 T4
    have X1 := Lib.hid (R1.out.below T5.out.bel (by have := Z2.out; omega))
    have r0 := X1.out.c0
    have r1 := X1.out.c1
    have f0 := X1.out.fr 0
    have f1 := X1.out.fr 1
    obtain ⟨wz, hwz, Y1, OO, BB⟩ := fin_one (C1 := C1) (v1 := .slice ub L1.length uc) X1.out
    have Y1 := Lib.hid Y1
    have OO := Lib.hid OO
    have BB := Lib.hid BB
    have BW := Lib.hid (B2.out.trans (T5.out.bel.mono (by have := Z2.out; omega)))
    go_wp2_with fail
    rw [← hwz]
    clear hwz
    refine bodyPost_ret (results_cell_row rfl _ _ w.heap.size 26 _ (0, 0) _ rfl Y1.out t2 rfl (by kernel_rfl)) rfl ?_
    exact ⟨_, L1, _, rfl, by omega, OO.out _ _ _ _ O5.out, BB.out _ _ BW.out (Nat.le_refl _)⟩
end Go.Proofs.YtdojblmffmefgaaDoor
