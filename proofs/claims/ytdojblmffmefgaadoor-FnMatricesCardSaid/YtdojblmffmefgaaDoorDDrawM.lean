/-
  The draws for FnMatrices: spec.DrawMatrixOfLists, spec.DrawTimesRow, spec.DrawMultiplyMatrices.
-/
import Derived.Test.YtdojblmffmefgaaDoorDDrawR
import Derived.Test.YtdojblmffmefgaaDoorDLists
namespace Go.Proofs.YtdojblmffmefgaaDoor
open Go.RowKit
set_option linter.unusedVariables false
set_option maxRecDepth 100000

/-- A number and a struct as results. -/
theorem results_tmp_box {fn : Func} {p u : Tmp} {t : TypeId} (h : fn.results = #[.tmp u, .cell p t]) (tmps : Array Value) (w : World) (g : Nat) (x y : Value) (fs : Array Field)
    (hp : tmps.getD p undef = .pointer (some ⟨g, 0, none⟩)) (hg : Box w g t x y)
    (hu : Tryd.prog.underlying t = some (.struct fs)) (hi : (Tryd.prog.info? t).map (·.size) = some 2) :
    (results fn tmps).run Tryd.prog w = .ok (.tuple #[tmps.getD u undef, .agg #[x, y]]) w := by
  have r1 := run_loadVar_row (P := Tryd.prog) w g t t #[x, y] (0, 0) (.struct fs) hg hu rfl hi
  have e : (results fn tmps).run Tryd.prog w = ((asAddr (tmps.getD p undef)).run Tryd.prog w).andThen fun a w₁ => ((loadVar t a).run Tryd.prog w₁).andThen fun v w₂ => .ok (.tuple #[tmps.getD u undef, v]) w₂ := by
    simp only [results, h]
    simp [Sem.run_bind, Result.andThen]
  rw [e, hp]
  show ((loadVar t ⟨g, 0, none⟩).run Tryd.prog w).andThen _ = _
  rw [r1]
  rfl

theorem shl_min (n : Nat) : 1 ≤ IntKind.i64.wrap (IntKind.i64.wrap (2 ^ min (IntKind.u64.wrap (if 30 < (n : Int) then 30 else (n : Int))).toNat 64) + 1) ∧ IntKind.i64.wrap (IntKind.i64.wrap (2 ^ min (IntKind.u64.wrap (if 30 < (n : Int) then 30 else (n : Int))).toNat 64) + 1) ≤ 2000000000000000 := by
  obtain ⟨k, hk, e⟩ : ∃ k : Nat, k ≤ 30 ∧ (if 30 < (n : Int) then 30 else (n : Int)) = (k : Int) := by
    by_cases h : 30 < (n : Int)
    · exact ⟨30, by omega, by rw [if_pos h]; rfl⟩
    · exact ⟨n, by omega, by rw [if_neg h]⟩
  have e2 : (IntKind.u64.wrap (k : Int)).toNat = k := by rw [IntKind.wrap_u64]; omega
  have hp : (2 : Nat) ^ k ≤ 2 ^ 30 := Nat.pow_le_pow_right (by decide) hk
  have hp1 : 1 ≤ (2 : Nat) ^ k := Nat.one_le_two_pow
  have e3 : (2 : Int) ^ k = ((2 ^ k : Nat) : Int) := by simp
  rw [e, e2, Nat.min_eq_left (by omega), e3]
  generalize (2 : Nat) ^ k = p at *
  rw [IntWalk.i64_in (p : Int) (by omega), IntWalk.i64_in _ (by omega)]
  omega
/-- A number and a drawn matrix. -/
def VOneRes (w : World) (e : Ending) (w' : World) : Prop :=
  ∃ (z C1 : Int) (L1 : List Int) (u1 : Value), e = .returned (.tuple #[.int .i64 z, .agg #[.int .i64 C1, u1]]) ∧ L1.length ≤ 400 ∧ w'.ownsRow w.heap.size 2 1 u1 L1.length (L1.map (Value.int .i64)) ∧ Below w.heap.size w w'

set_option maxHeartbeats 4000000 in
theorem DrawMul_any (a : Option Addr) (m cap : Nat) (w : World) (hc : Code w w.heap.size a m) (hm : m ≤ 4096) :
    Calls Tryd.prog 29 #[.slice a m cap] w (TwoRes w) := by
  have t2 := Tryd.underlying26
  have W2 : ∃ w2, w2 = ((w.alloc (.cells #[.int .i64 0, .slice none 0 0] 26)).alloc (.cells #[.int .i64 0, .slice none 0 0] 26)) := ⟨_, rfl⟩
  obtain ⟨w2, hw2⟩ := W2
  have B2 : Hid (Below w.heap.size w w2) := Lib.hid (by rw [hw2]; exact ((Below.refl w.heap.size w).alloc (Nat.le_refl _) _).alloc (by simp) _)
  have R1 : Hid (Box w2 w.heap.size 26 (.int .i64 0) (.slice none 0 0)) := Lib.hid (by rw [hw2]; exact (Box.new w _ _ _).alloc _)
  have R2 : Hid (Box w2 (w.heap.size + 1) 26 (.int .i64 0) (.slice none 0 0)) := Lib.hid (by rw [hw2]; have := Box.new (w.alloc (.cells #[.int .i64 0, .slice none 0 0] 26)) 26 (.int .i64 0) (.slice none 0 0); simpa using this)
  have Z2 : Hid (w2.heap.size = w.heap.size + 2) := Lib.hid (by rw [hw2]; simp)
  have FR := Lib.hid (l01From_any a m cap w2 (code_mono (hc.below B2.out) (by have := Z2.out; omega)) hm)
  clear hc
  go_enter Tryd.func29, Tryd.ntmps29
  go_wp2_with fail
  rw [← hw2]
  clear hw2
  refine FR.out.mono ?_
  rintro e w3 ⟨rfl, b3, s3⟩
  have T3 : Hid (Tw w2 w2.heap.size w3) := Lib.hid ⟨s3, b3⟩
  clear b3 s3 FR
  generalize hg : w2.heap.size = g at *
  have Z2 : Hid (g = w.heap.size + 2) := Z2
  clear hg
  go_wp2_with fail
  refine (l02Spoil_any g g w3 T3.out.src).mono ?_
  rintro e w4 ⟨C1, L1, u1, rfl, _, hl1, o4, s4, k4⟩
  have T4 := Lib.hid (T3.out.grown s4 k4)
  obtain ⟨va1, vc1, rfl⟩ := o4.shape
  have T5 := Lib.hid (T4.out.up ((Below.refl _ _).alloc (Nat.le_refl _) (.cells #[.int .i64 C1, .slice va1 L1.length vc1] 26)))
  have A5 : Hid (At g w4.heap.size C1 (.slice va1 L1.length vc1) L1 (w4.alloc (.cells #[.int .i64 C1, .slice va1 L1.length vc1] 26))) := Lib.hid ⟨Box.new _ _ _ _, own_below (own_base o4 (by have := T3.out.src.lt; omega)) ((Below.refl _ _).alloc (Nat.le_refl _) _), T4.out.src.lt.2⟩
  clear s4 k4 o4 T3 T4
  go_wp2_with fail
  generalize (w4.alloc (.cells #[.int .i64 C1, .slice va1 L1.length vc1] 26)) = w5 at *
  generalize w4.heap.size = gA at *
  refine (specIs_any C1 _ L1.length _ w5 A5.out.rd).mono ?_
  rintro e w6 ⟨rfl, b6⟩
  have T6 := Lib.hid (T5.out.up b6)
  have A6 := Lib.hid (A5.out.up b6)
  clear b6 T5 A5
  cases his : isMat C1 L1.length (fun i => L1[i]?.getD 0) with
  | false =>
    have SP := Lib.hid (l02Spoil_any g g w6.drew (T6.out.up (Below.refl _ _).drew).src)
    have TD := Lib.hid (T6.out.up (Below.refl _ _).drew)
    have AD := Lib.hid (A6.out.up (Below.refl _ _).drew)
    have c0 := A6.out.box.c0
    have c1 := A6.out.box.c1
    go_wp2_with fail
    go_region_law (first | (go_simp; go_at_call 67; refine SP.out.mono ?_; rintro e w9 ⟨C2, L2, u2, rfl, _, hl2, o9, s9, k9⟩; have T9 := Lib.hid (TD.out.grown s9 k9); have A9 := Lib.hid (AD.out.grown k9); have LOX := TD; have q0 := A9.out.box.c0; have q1 := A9.out.box.c1; have X1 := Lib.hid (R1.out.below T9.out.bel (by have := Z2.out; omega)); have X2 := Lib.hid (R2.out.below T9.out.bel (by have := Z2.out; omega)); have r0 := X1.out.c0; have r1 := X1.out.c1; have r2 := X2.out.c0; have r3 := X2.out.c1; have f0 := X1.out.fr 0; have f1 := X1.out.fr 1; have f2 := X2.out.fr 0; have f3 := X2.out.fr 1; have NA : ¬ gA = w.heap.size := (by have := A9.out.gt; have := Z2.out; omega); have NA1 : ¬ gA = w.heap.size + 1 := (by have := A9.out.gt; have := Z2.out; omega); obtain ⟨ub, uc, rfl⟩ := o9.shape))
    all_goals
      obtain ⟨wz, hwz, Y1, Y2, OO, BB⟩ := fin_two (C1 := C1) (v1 := .slice va1 L1.length vc1) (C2 := C2) (v2 := .slice ub L2.length uc) X1.out X2.out (by omega)
      rw [← hwz]
      have Y1 := Lib.hid Y1
      have Y2 := Lib.hid Y2
      have OO := Lib.hid OO
      have BB := Lib.hid BB
      have HL : Hid (L1.length ≤ 400 ∧ L2.length ≤ 400) := Lib.hid (by omega)
      have A9o := Lib.hid A9.out.own
      have O9 := Lib.hid o9
      have LO : Hid (w.heap.size ≤ _) := Lib.hid (Nat.le_trans (show w.heap.size ≤ g by have := Z2.out; omega) (Nat.le_of_lt LOX.out.src.lt.2))
      have BW := Lib.hid (B2.out.trans (T9.out.bel.mono (by have := Z2.out; omega)))
      clear hwz q0 q1 r0 r1 r2 r3 f0 f1 f2 f3 o9 s9 k9
      go_wp2
      refine bodyPost_ret (results_two rfl _ _ w.heap.size (w.heap.size + 1) _ _ _ _ _ rfl rfl Y1.out Y2.out t2 (by kernel_rfl)) rfl ?_
      exact ⟨_, L1, _, _, L2, _, rfl, HL.out.1, HL.out.2, own_base (OO.out _ _ _ _ A9o.out) (by have := Z2.out; omega), own_base (OO.out _ _ _ _ O9.out) LO.out, BB.out _ _ BW.out (Nat.le_refl _) (by omega)⟩
  | true =>
    obtain ⟨c, _, rfl, hk, _, _, _, _, _⟩ := mat_rd his
    clear his
    go_wp2_with fail
    refine (next_g g g 10 w6 T6.out.src (by omega) (by omega)).mono ?_
    rintro e w7 ⟨x, rfl, ⟨x0, x1⟩, s7, k7⟩
    have T7 := Lib.hid (T6.out.grown s7 k7)
    have A7 := Lib.hid (A6.out.grown k7)
    clear s7 k7 T6 A6
    by_cases hx : 0 < x
    · have NX := Lib.hid (next_g g g 12 w7.drew ((T7.out.up (Below.refl _ _).drew).src) (by omega) (by omega))
      have TD := Lib.hid (T7.out.up (Below.refl _ _).drew)
      have AD := Lib.hid (A7.out.up (Below.refl _ _).drew)
      have c0 := A7.out.box.c0
      have c1 := A7.out.box.c1
      obtain ⟨C1, hC1⟩ : ∃ C1 : Int, C1 = (c : Int) := ⟨_, rfl⟩
      go_wp2_with fail
      go_region_law (first | (go_simp; go_at_call 74; refine NX.out.mono ?_; rintro e w8 ⟨y8, rfl, ⟨y80, y81⟩, s8, k8⟩; have T8 := Lib.hid (TD.out.grown s8 k8); have A8 := Lib.hid (AD.out.grown k8); have c08 := A8.out.box.c0; have c18 := A8.out.box.c1; obtain ⟨r8, rfl⟩ := Int.eq_ofNat_of_zero_le y80) | (go_simp; go_at_call 83; refine (l02With_any g g c r8 w8 T8.out.src (by omega) (by omega)).mono ?_; rintro e w9 ⟨C2, L2, u2, rfl, rfl, hl2, o9, s9, k9⟩; have T9 := Lib.hid (T8.out.grown s9 k9); have A9 := Lib.hid (A8.out.grown k9); have LOX := T8; have q0 := A9.out.box.c0; have q1 := A9.out.box.c1; have X1 := Lib.hid (R1.out.below T9.out.bel (by have := Z2.out; omega)); have X2 := Lib.hid (R2.out.below T9.out.bel (by have := Z2.out; omega)); have r0 := X1.out.c0; have r1 := X1.out.c1; have r2 := X2.out.c0; have r3 := X2.out.c1; have f0 := X1.out.fr 0; have f1 := X1.out.fr 1; have f2 := X2.out.fr 0; have f3 := X2.out.fr 1; have NA : ¬ gA = w.heap.size := (by have := A9.out.gt; have := Z2.out; omega); have NA1 : ¬ gA = w.heap.size + 1 := (by have := A9.out.gt; have := Z2.out; omega); obtain ⟨ub, uc, rfl⟩ := o9.shape))
      all_goals
        obtain ⟨wz, hwz, Y1, Y2, OO, BB⟩ := fin_two (C1 := (c : Int)) (v1 := .slice va1 L1.length vc1) (C2 := (r8 : Int)) (v2 := .slice ub L2.length uc) X1.out X2.out (by omega)
        rw [← hwz]
        have Y1 := Lib.hid Y1
        have Y2 := Lib.hid Y2
        have OO := Lib.hid OO
        have BB := Lib.hid BB
        have HL : Hid (L1.length ≤ 400 ∧ L2.length ≤ 400) := Lib.hid (by omega)
        have A9o := Lib.hid A9.out.own
        have O9 := Lib.hid o9
        have LO : Hid (w.heap.size ≤ _) := Lib.hid (Nat.le_trans (show w.heap.size ≤ g by have := Z2.out; omega) (Nat.le_of_lt LOX.out.src.lt.2))
        have BW := Lib.hid (B2.out.trans (T9.out.bel.mono (by have := Z2.out; omega)))
        clear hwz q0 q1 r0 r1 r2 r3 f0 f1 f2 f3 o9 s9 k9
        go_wp2
        refine bodyPost_ret (results_two rfl _ _ w.heap.size (w.heap.size + 1) _ _ _ _ _ rfl rfl Y1.out Y2.out t2 (by kernel_rfl)) rfl ?_
        exact ⟨_, L1, _, _, L2, _, rfl, HL.out.1, HL.out.2, own_base (OO.out _ _ _ _ A9o.out) (by have := Z2.out; omega), own_base (OO.out _ _ _ _ O9.out) LO.out, BB.out _ _ BW.out (Nat.le_refl _) (by omega)⟩
    · have hx' : ¬ (0 : Int) < x := hx
      have SP := Lib.hid (l02Spoil_any g g w7.drew (T7.out.up (Below.refl _ _).drew).src)
      have TD := Lib.hid (T7.out.up (Below.refl _ _).drew)
      have AD := Lib.hid (A7.out.up (Below.refl _ _).drew)
      have c0 := A7.out.box.c0
      have c1 := A7.out.box.c1
      go_wp2_with fail
      go_region_law (first | (go_simp; go_at_call 67; refine SP.out.mono ?_; rintro e w9 ⟨C2, L2, u2, rfl, _, hl2, o9, s9, k9⟩; have T9 := Lib.hid (TD.out.grown s9 k9); have A9 := Lib.hid (AD.out.grown k9); have LOX := TD; have q0 := A9.out.box.c0; have q1 := A9.out.box.c1; have X1 := Lib.hid (R1.out.below T9.out.bel (by have := Z2.out; omega)); have X2 := Lib.hid (R2.out.below T9.out.bel (by have := Z2.out; omega)); have r0 := X1.out.c0; have r1 := X1.out.c1; have r2 := X2.out.c0; have r3 := X2.out.c1; have f0 := X1.out.fr 0; have f1 := X1.out.fr 1; have f2 := X2.out.fr 0; have f3 := X2.out.fr 1; have NA : ¬ gA = w.heap.size := (by have := A9.out.gt; have := Z2.out; omega); have NA1 : ¬ gA = w.heap.size + 1 := (by have := A9.out.gt; have := Z2.out; omega); obtain ⟨ub, uc, rfl⟩ := o9.shape))
      all_goals
        obtain ⟨wz, hwz, Y1, Y2, OO, BB⟩ := fin_two (C1 := (c : Int)) (v1 := .slice va1 L1.length vc1) (C2 := C2) (v2 := .slice ub L2.length uc) X1.out X2.out (by omega)
        rw [← hwz]
        have Y1 := Lib.hid Y1
        have Y2 := Lib.hid Y2
        have OO := Lib.hid OO
        have BB := Lib.hid BB
        have HL : Hid (L1.length ≤ 400 ∧ L2.length ≤ 400) := Lib.hid (by omega)
        have A9o := Lib.hid A9.out.own
        have O9 := Lib.hid o9
        have LO : Hid (w.heap.size ≤ _) := Lib.hid (Nat.le_trans (show w.heap.size ≤ g by have := Z2.out; omega) (Nat.le_of_lt LOX.out.src.lt.2))
        have BW := Lib.hid (B2.out.trans (T9.out.bel.mono (by have := Z2.out; omega)))
        clear hwz q0 q1 r0 r1 r2 r3 f0 f1 f2 f3 o9 s9 k9
        go_wp2
        refine bodyPost_ret (results_two rfl _ _ w.heap.size (w.heap.size + 1) _ _ _ _ _ rfl rfl Y1.out Y2.out t2 (by kernel_rfl)) rfl ?_
        exact ⟨_, L1, _, _, L2, _, rfl, HL.out.1, HL.out.2, own_base (OO.out _ _ _ _ A9o.out) (by have := Z2.out; omega), own_base (OO.out _ _ _ _ O9.out) LO.out, BB.out _ _ BW.out (Nat.le_refl _) (by omega)⟩

end Go.Proofs.YtdojblmffmefgaaDoor
