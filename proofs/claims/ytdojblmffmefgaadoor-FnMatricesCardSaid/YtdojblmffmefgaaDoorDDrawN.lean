/-
  The draw of TimesRow.
-/
import Derived.Test.YtdojblmffmefgaaDoorDDrawM
namespace Go.Proofs.YtdojblmffmefgaaDoor
open Go.RowKit
set_option linter.unusedVariables false
set_option maxRecDepth 100000

set_option maxHeartbeats 600000 in
theorem DrawTimes_any (a : Option Addr) (m cap : Nat) (w : World) (hc : Code w w.heap.size a m) (hm : m ≤ 4096) :
    Calls Tryd.prog 26 #[.slice a m cap] w (VOneRes w) := by
  have t2 := Tryd.underlying26
  have W2 : ∃ w2, w2 = (w.alloc (.cells #[.int .i64 0, .slice none 0 0] 26)) := ⟨_, rfl⟩
  obtain ⟨w2, hw2⟩ := W2
  have B2 : Hid (Below w.heap.size w w2) := Lib.hid (by rw [hw2]; exact (Below.refl w.heap.size w).alloc (Nat.le_refl _) _)
  have R1 : Hid (Box w2 w.heap.size 26 (.int .i64 0) (.slice none 0 0)) := Lib.hid (by rw [hw2]; exact Box.new w _ _ _)
  have Z2 : Hid (w2.heap.size = w.heap.size + 1) := Lib.hid (by rw [hw2]; simp)
  have FR := Lib.hid (l01From_any a m cap w2 (code_mono (hc.below B2.out) (by have := Z2.out; omega)) hm)
  clear hc
  go_enter Tryd.func26, Tryd.ntmps26
  go_wp2_with fail
  rw [← hw2]
  clear hw2
  refine FR.out.mono ?_
  rintro e w3 ⟨rfl, b3, s3⟩
  have T3 : Hid (Tw w2 w2.heap.size w3) := Lib.hid ⟨s3, b3⟩
  clear b3 s3 FR
  generalize hg : w2.heap.size = g at *
  have Z2 : Hid (g = w.heap.size + 1) := Z2
  clear hg
  go_wp2_with fail
  refine (l02Spoil_any g g w3 T3.out.src).mono ?_
  rintro e w4 ⟨C1, L1, u1, rfl, _, hl1, o4, s4, k4⟩
  have T4 := Lib.hid (T3.out.grown s4 k4)
  obtain ⟨va1, vc1, rfl⟩ := o4.shape
  have T5 := Lib.hid (T4.out.up ((Below.refl _ _).alloc (Nat.le_refl _) (.cells #[.int .i64 C1, .slice va1 L1.length vc1] 26)))
  have A5 : Hid (At g w4.heap.size C1 (.slice va1 L1.length vc1) L1 (w4.alloc (.cells #[.int .i64 C1, .slice va1 L1.length vc1] 26))) := Lib.hid ⟨Box.new _ _ _ _, own_below (own_base o4 (by have := T3.out.src.lt; omega)) ((Below.refl _ _).alloc (Nat.le_refl _) _), T4.out.src.lt.2⟩
  clear s4 k4 o4 T3 T4
  have c0 := A5.out.box.c0
  have c1 := A5.out.box.c1
  go_wp2_with fail
  have HN := Lib.hid (shl_min L1.length)
  have TD := Lib.hid (T5.out.up (Below.refl _ _).drew)
  have AD := Lib.hid (A5.out.up (Below.refl _ _).drew)
  go_region_law (first | (go_simp; go_at_call 74; refine (next_g g g _ _ TD.out.src (by exact Eq.mp (by simp) HN.out.1) (by exact Eq.mp (by simp) HN.out.2)).mono ?_; rintro e w6 ⟨y6, rfl, ⟨y60, y61⟩, s6, k6⟩; have T6 := Lib.hid (TD.out.grown s6 k6); have A6 := Lib.hid (AD.out.grown k6); have c06 := A6.out.box.c0; have c16 := A6.out.box.c1) | (go_simp; go_at_call 74; refine (next_g g g _ _ T6.out.src (by omega) (by omega)).mono ?_; rintro e w9 ⟨y9, rfl, ⟨y90, y91⟩, s9, k9⟩; have T9 := Lib.hid (T6.out.grown s9 k9); have A9 := Lib.hid (A6.out.grown k9); have q0 := A9.out.box.c0; have q1 := A9.out.box.c1; have X1 := Lib.hid (R1.out.below T9.out.bel (by have := Z2.out; omega)); have r0 := X1.out.c0; have r1 := X1.out.c1; have f0 := X1.out.fr 0; have f1 := X1.out.fr 1; have NA : ¬ w4.heap.size = w.heap.size := (by have := A9.out.gt; have := Z2.out; omega)))
  all_goals
    obtain ⟨wz, hwz, Y1, OO, BB⟩ := fin_one (C1 := C1) (v1 := .slice va1 L1.length vc1) X1.out
    rw [← hwz]
    have Y1 := Lib.hid Y1
    have OO := Lib.hid OO
    have BB := Lib.hid BB
    have A9o := Lib.hid A9.out.own
    have BW := Lib.hid (B2.out.trans (T9.out.bel.mono (by have := Z2.out; omega)))
    have HL : Hid (L1.length ≤ 400) := Lib.hid (by omega)
    clear hwz q0 q1 r0 r1 f0 f1 s9 k9
    go_wp2
    all_goals
      refine bodyPost_ret (results_tmp_box rfl _ _ w.heap.size _ _ _ rfl Y1.out t2 (by kernel_rfl)) rfl ?_
      exact ⟨_, _, L1, _, rfl, HL.out, own_base (OO.out _ _ _ _ A9o.out) (by have := Z2.out; omega), BB.out _ _ BW.out (Nat.le_refl _)⟩
end Go.Proofs.YtdojblmffmefgaaDoor
