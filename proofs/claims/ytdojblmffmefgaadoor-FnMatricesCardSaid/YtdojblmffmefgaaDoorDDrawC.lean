/-
  The draws of matrices: spec.l02Two, spec.DrawSumOfSpaces.
-/
import Derived.Test.YtdojblmffmefgaaDoorDDrawB
import Derived.Test.YtdojblmffmefgaaDoorDRed
import Derived.Deep.DeepCutAuto
import Derived.Deep.RegionHeld3
namespace Go.Proofs.YtdojblmffmefgaaDoor
open Go.RowKit
set_option linter.unusedVariables false
set_option maxRecDepth 100000

/-- Two structs of two cells as results. -/
theorem results_two {fn : Func} {p q : Tmp} {t : TypeId} (h : fn.results = #[.cell p t, .cell q t]) (tmps : Array Value) (w : World) (g1 g2 : Nat) (x1 y1 x2 y2 : Value) (fs : Array Field)
    (hp : tmps.getD p undef = .pointer (some ⟨g1, 0, none⟩)) (hq : tmps.getD q undef = .pointer (some ⟨g2, 0, none⟩)) (b1 : Box w g1 t x1 y1) (b2 : Box w g2 t x2 y2)
    (hu : Tryd.prog.underlying t = some (.struct fs)) (hi : (Tryd.prog.info? t).map (·.size) = some 2) :
    (results fn tmps).run Tryd.prog w = .ok (.tuple #[.agg #[x1, y1], .agg #[x2, y2]]) w := by
  have r1 := run_loadVar_row (P := Tryd.prog) w g1 t t #[x1, y1] (0, 0) (.struct fs) b1 hu rfl hi
  have r2 := run_loadVar_row (P := Tryd.prog) w g2 t t #[x2, y2] (0, 0) (.struct fs) b2 hu rfl hi
  have e : (results fn tmps).run Tryd.prog w = ((asAddr (tmps.getD p undef)).run Tryd.prog w).andThen fun a w₁ => ((loadVar t a).run Tryd.prog w₁).andThen fun v w₂ => ((asAddr (tmps.getD q undef)).run Tryd.prog w₂).andThen fun b w₃ => ((loadVar t b).run Tryd.prog w₃).andThen fun u w₄ => .ok (.tuple #[v, u]) w₄ := by
    simp only [results, h]
    simp [Sem.run_bind, Result.andThen]
  rw [e, hp, hq]
  show ((loadVar t ⟨g1, 0, none⟩).run Tryd.prog w).andThen _ = _
  rw [r1]
  show ((loadVar t ⟨g2, 0, none⟩).run Tryd.prog w).andThen _ = _
  rw [r2]
  rfl

/-- A matrix in its box, both made behind block g. -/
structure At (g gA : Nat) (C : Int) (v : Value) (L : List Int) (w : World) : Prop where
  box : Box w gA 26 (.int .i64 C) v
  own : w.ownsRow (g + 1) 2 1 v L.length (L.map (Value.int .i64))
  gt : g < gA
section
variable {w0 w w' : World} {g gA gB : Nat} {C : Int} {v v' : Value} {L : List Int}
theorem At.grown (h : At g gA C v L w) (k : w.grownBy w' (some g)) : At g gA C v L w' :=
  ⟨h.box.grownG k (by have := h.gt; omega), h.own.kept k (by
    cases hv : v.ownBlock with
    | none => exact .inl rfl
    | some q => exact .inr (fun e => by have := (h.own.lt q hv).1; injection e with e; omega)), h.gt⟩
theorem At.up (h : At g gA C v L w) (k : Below w.heap.size w w') : At g gA C v L w' := h.grown (grown_of_below k _)
theorem At.rd (h : At g gA C v L w) : RdI w v L.length (fun i => L[i]?.getD 0) := rd_of_own h.own rfl
/-- The source, and all that lay there before. -/
structure Tw (w0 : World) (g : Nat) (w : World) : Prop where
  src : Src w g g
  bel : Below g w0 w
theorem Tw.grown (h : Tw w0 g w) (s : Src w' g g) (k : w.grownBy w' (some g)) : Tw w0 g w' :=
  ⟨s, h.bel.trans ⟨k.os, k.tape, k.output, k.size, fun i hi => k.block i (by have := h.src.lt; omega) (fun e => by injection e with e; omega)⟩⟩
theorem Tw.up (h : Tw w0 g w) (k : Below w.heap.size w w') : Tw w0 g w' := h.grown (h.src.news k) (grown_of_below k _)
end

/-- Both at once. -/
structure TA (w0 : World) (g gA : Nat) (C : Int) (v : Value) (L : List Int) (w : World) : Prop where
  t : Tw w0 g w
  a : At g gA C v L w
section
variable {w0 w w' : World} {g gA gB : Nat} {C C2 : Int} {v u : Value} {L : List Int}
theorem TA.grown (h : TA w0 g gA C v L w) (s : Src w' g g) (k : w.grownBy w' (some g)) : TA w0 g gA C v L w' := ⟨h.t.grown s k, h.a.grown k⟩
theorem TA.up (h : TA w0 g gA C v L w) (k : Below w.heap.size w w') : TA w0 g gA C v L w' := ⟨h.t.up k, h.a.up k⟩
theorem TA.set {x y : Value} (h : TA w0 g gA C v L w) (b : Box w gB 26 x y) (i : Nat) (hg : g < gB) (hne : gA ≠ gB) (z : Value) : TA w0 g gA C v L (w.setCell ⟨gB, i, none⟩ z) :=
  ⟨⟨h.t.src.other _ _ (by simp; omega) (by simp; omega), h.t.bel.setCell (p := ⟨gB, i, none⟩) (by simp; omega) _⟩, ⟨h.a.box.other _ _ hne, own_setBox b h.a.own (by decide), h.a.gt⟩⟩
end
theorem TA.app {w0 w w' : World} {g gA gB : Nat} {C C2 : Int} {v u u' : Value} {L L2 : List Int} {r : Int} (h : TA w0 g gA C v L w) (b : At g gB C2 u L2 w) (ap : v.ownBlock = none ∨ v.ownBlock ≠ u.ownBlock) (NAB : gA ≠ gB)
    (ho : w'.ownsRow (g + 1) 2 1 u' (L2.length + 1) ((L2 ++ [r]).map (Value.int .i64))) (k : w.grownBy w' u.ownBlock) : TA w0 g gA C v L (w'.setCell ⟨gB, 1, none⟩ u') ∧ At g gB C2 u' (L2 ++ [r]) (w'.setCell ⟨gB, 1, none⟩ u') := by
  have bA := h.a.box.grown k (h.a.box.ne_row b.own (by decide))
  have bB := b.box.grown k (b.box.ne_row b.own (by decide))
  have hl := h.t.src.lt
  have hb : Below g w w' := ⟨k.os, k.tape, k.output, k.size, fun i hi => k.block i (by omega) (fun e => by have := (b.own.lt i e.symm).1; omega)⟩
  refine ⟨⟨⟨(h.t.src.grownRow k b.own (by omega)).other _ _ (by have := b.gt; simp; omega) (by have := b.gt; simp; omega), (h.t.bel.trans hb).setCell (p := ⟨gB, 1, none⟩) (by have := b.gt; simp; omega) _⟩, ⟨bA.other _ _ NAB, own_setBox bB (h.a.own.kept k ap) (by decide), h.a.gt⟩⟩, ⟨bB.set1 _, ?_, b.gt⟩⟩
  rw [List.length_append]
  exact own_setBox bB ho (by decide)
/-- A second matrix, in a box that a region made. -/
def MadeB (w0 : World) (g gA : Nat) (C : Int) (v : Value) (L : List Int) (s6 : Value) (wx : World) : Prop :=
  ∃ (gB : Nat) (L2 : List Int) (vb : Option Addr) (vc : Nat), s6 = .pointer (some ⟨gB, 0, none⟩) ∧ L2.length ≤ 300 ∧ gA ≠ gB ∧ (v.ownBlock = none ∨ v.ownBlock ≠ (Value.slice vb L2.length vc).ownBlock) ∧ Hid (TA w0 g gA C v L wx) ∧ Hid (At g gB C (.slice vb L2.length vc) L2 wx)

/-- Storing both into the results' boxes. -/
theorem fin_two {w : World} {g1 g2 : Nat} {C1 C2 : Int} {v1 v2 : Value} (x1 : Box w g1 26 (.int .i64 0) (.slice none 0 0)) (x2 : Box w g2 26 (.int .i64 0) (.slice none 0 0)) (hne : g1 ≠ g2) :
    ∃ wz, wz = ((((w.setCell ⟨g1, 0, none⟩ (.int .i64 C1)).setCell ⟨g1, 1, none⟩ v1).setCell ⟨g2, 0, none⟩ (.int .i64 C2)).setCell ⟨g2, 1, none⟩ v2) ∧
    Box wz g1 26 (.int .i64 C1) v1 ∧ Box wz g2 26 (.int .i64 C2) v2 ∧ (∀ B n v xs, w.ownsRow B 2 1 v n xs → wz.ownsRow B 2 1 v n xs) ∧ ∀ w0 B, Below B w0 w → B ≤ g1 → B ≤ g2 → Below B w0 wz := by
  have a1 := (x1.set0 (.int .i64 C1)).set1 v1
  have a2 := (x2.other ⟨g1, 0, none⟩ (.int .i64 C1) (Ne.symm hne)).other ⟨g1, 1, none⟩ v1 (Ne.symm hne)
  have c1 := (a1.other ⟨g2, 0, none⟩ (.int .i64 C2) hne).other ⟨g2, 1, none⟩ v2 hne
  have c2 := (a2.set0 (.int .i64 C2)).set1 v2
  refine ⟨_, rfl, c1, c2, fun B n v xs o => ?_, fun w0 B b h1 h2 => (((b.setCell (p := ⟨g1, 0, none⟩) h1 _).setCell (p := ⟨g1, 1, none⟩) h1 _).setCell (p := ⟨g2, 0, none⟩) h2 _).setCell (p := ⟨g2, 1, none⟩) h2 _⟩
  exact own_setBox (a2.set0 (.int .i64 C2)) (own_setBox a2 (own_setBox (x1.set0 (.int .i64 C1)) (own_setBox x1 o (by decide)) (by decide)) (by decide)) (by decide)

theorem code_mono {w : World} {B B' : Nat} {a : Option Addr} {m : Nat} (h : Code w B a m) (hb : B ≤ B') : Code w B' a m := by
  rcases h with h | ⟨b, off, e, hl, hc⟩
  · exact .inl h
  · exact .inr ⟨b, off, e, by omega, hc⟩

/-- Two drawn matrices. -/
def TwoRes (w : World) (e : Ending) (w' : World) : Prop :=
  ∃ (C1 : Int) (L1 : List Int) (u1 : Value) (C2 : Int) (L2 : List Int) (u2 : Value), e = .returned (.tuple #[.agg #[.int .i64 C1, u1], .agg #[.int .i64 C2, u2]]) ∧ L1.length ≤ 400 ∧ L2.length ≤ 400 ∧
    w'.ownsRow w.heap.size 2 1 u1 L1.length (L1.map (Value.int .i64)) ∧ w'.ownsRow w.heap.size 2 1 u2 L2.length (L2.map (Value.int .i64)) ∧ Below w.heap.size w w'

set_option maxHeartbeats 4000000 in
theorem l02Two_any (a : Option Addr) (m cap : Nat) (w : World) (hc : Code w w.heap.size a m) (hm : m ≤ 4096) :
    Calls Tryd.prog 102 #[.slice a m cap] w (TwoRes w) := by
  have t2 := Tryd.underlying26
  have W2 : ∃ w2, w2 = ((w.alloc (.cells #[.int .i64 0, .slice none 0 0] 26)).alloc (.cells #[.int .i64 0, .slice none 0 0] 26)) := ⟨_, rfl⟩
  obtain ⟨w2, hw2⟩ := W2
  have B2 : Hid (Below w.heap.size w w2) := Lib.hid (by rw [hw2]; exact ((Below.refl w.heap.size w).alloc (Nat.le_refl _) _).alloc (by simp) _)
  have R1 : Hid (Box w2 w.heap.size 26 (.int .i64 0) (.slice none 0 0)) := Lib.hid (by rw [hw2]; exact (Box.new w _ _ _).alloc _)
  have R2 : Hid (Box w2 (w.heap.size + 1) 26 (.int .i64 0) (.slice none 0 0)) := Lib.hid (by rw [hw2]; have := Box.new (w.alloc (.cells #[.int .i64 0, .slice none 0 0] 26)) 26 (.int .i64 0) (.slice none 0 0); simpa using this)
  have Z2 : Hid (w2.heap.size = w.heap.size + 2) := Lib.hid (by rw [hw2]; simp)
  have FR := Lib.hid (l01From_any a m cap w2 (code_mono (hc.below B2.out) (by have := Z2.out; omega)) hm)
  clear hc
  go_enter Tryd.func102, Tryd.ntmps102
  go_wp2_with fail
  rw [← hw2]
  clear hw2
  refine FR.out.mono ?_
  rintro e w3 ⟨rfl, b3, s3⟩
  have T3 : Hid (Tw w2 w2.heap.size w3) := Lib.hid ⟨s3, b3⟩
  clear b3 s3 FR
  generalize hg : w2.heap.size = g at *
  have Z2 : Hid (g = w.heap.size + 2) := Z2
  clear hg
  go_wp2_with fail
  refine (l02Spoil_any g g w3 T3.out.src).mono ?_
  rintro e w4 ⟨C1, L1, u1, rfl, _, hl1, o4, s4, k4⟩
  have T4 := Lib.hid (T3.out.grown s4 k4)
  obtain ⟨va1, vc1, rfl⟩ := o4.shape
  have T5 := Lib.hid (T4.out.up ((Below.refl _ _).alloc (Nat.le_refl _) (.cells #[.int .i64 C1, .slice va1 L1.length vc1] 26)))
  have A5 : Hid (At g w4.heap.size C1 (.slice va1 L1.length vc1) L1 (w4.alloc (.cells #[.int .i64 C1, .slice va1 L1.length vc1] 26))) := Lib.hid ⟨Box.new _ _ _ _, own_below (own_base o4 (by have := T3.out.src.lt; omega)) ((Below.refl _ _).alloc (Nat.le_refl _) _), T4.out.src.lt.2⟩
  clear s4 k4 o4 T3 T4
  go_wp2_with fail
  generalize (w4.alloc (.cells #[.int .i64 C1, .slice va1 L1.length vc1] 26)) = w5 at *
  generalize w4.heap.size = gA at *
  refine (next_g g g 10 w5 T5.out.src (by omega) (by omega)).mono ?_
  rintro e w6 ⟨x, rfl, ⟨x0, x1⟩, s6, k6⟩
  have T6 := Lib.hid (T5.out.grown s6 k6)
  have A6 := Lib.hid (A5.out.grown k6)
  clear s6 k6 T5 A5
  have c0 := A6.out.box.c0
  have c1 := A6.out.box.c1
  by_cases hx : x = 0
  · subst hx
    go_wp2_with fail
    have SP := Lib.hid (l02Spoil_any g g w6.drew (T6.out.up (Below.refl _ _).drew).src)
    have TD := Lib.hid (T6.out.up (Below.refl _ _).drew)
    have AD := Lib.hid (A6.out.up (Below.refl _ _).drew)
    go_region_law (first | (go_simp; go_at_call 67; refine SP.out.mono ?_; rintro e w9 ⟨C2, L2, u2, rfl, _, hl2, o9, s9, k9⟩; have T9 := Lib.hid (TD.out.grown s9 k9); have A9 := Lib.hid (AD.out.grown k9); have q0 := A9.out.box.c0; have q1 := A9.out.box.c1; have X1 := Lib.hid (R1.out.below T9.out.bel (by have := Z2.out; omega)); have X2 := Lib.hid (R2.out.below T9.out.bel (by have := Z2.out; omega)); have r0 := X1.out.c0; have r1 := X1.out.c1; have r2 := X2.out.c0; have r3 := X2.out.c1; have f0 := X1.out.fr 0; have f1 := X1.out.fr 1; have f2 := X2.out.fr 0; have f3 := X2.out.fr 1; have NA : ¬ gA = w.heap.size := (by have := A9.out.gt; have := Z2.out; omega); have NA1 : ¬ gA = w.heap.size + 1 := (by have := A9.out.gt; have := Z2.out; omega); obtain ⟨ub, uc, rfl⟩ := o9.shape))
    all_goals
      obtain ⟨wz, hwz, Y1, Y2, OO, BB⟩ := fin_two (C1 := C1) (v1 := .slice va1 L1.length vc1) (C2 := C2) (v2 := .slice ub L2.length uc) X1.out X2.out (by omega)
      rw [← hwz]
      have Y1 := Lib.hid Y1
      have Y2 := Lib.hid Y2
      have OO := Lib.hid OO
      have BB := Lib.hid BB
      have HL : Hid (L1.length ≤ 400 ∧ L2.length ≤ 400) := Lib.hid (by omega)
      have A9o := Lib.hid A9.out.own
      have O9 := Lib.hid o9
      have LO : Hid (w.heap.size ≤ _) := Lib.hid (Nat.le_trans (show w.heap.size ≤ g by have := Z2.out; omega) (Nat.le_of_lt TD.out.src.lt.2))
      have BW := Lib.hid (B2.out.trans (T9.out.bel.mono (by have := Z2.out; omega)))
      clear hwz q0 q1 r0 r1 r2 r3 f0 f1 f2 f3 o9 s9 k9
      go_wp2
      refine bodyPost_ret (results_two rfl _ _ w.heap.size (w.heap.size + 1) _ _ _ _ _ rfl rfl Y1.out Y2.out t2 (by kernel_rfl)) rfl ?_
      exact ⟨_, L1, _, _, L2, _, rfl, HL.out.1, HL.out.2, own_base (OO.out _ _ _ _ A9o.out) (by have := Z2.out; omega), own_base (OO.out _ _ _ _ O9.out) LO.out, BB.out _ _ BW.out (Nat.le_refl _) (by omega)⟩
  · have hx' : (x == 0) = false := by rw [beq_eq_false_iff_ne]; exact hx
    go_wp2_with fail
    refine (specIs_any C1 _ L1.length _ w6 A6.out.rd).mono ?_
    rintro e w7 ⟨rfl, b7⟩
    have T7 := Lib.hid (T6.out.up b7)
    have A7 := Lib.hid (A6.out.up b7)
    clear b7 T6 A6 c0 c1
    have c0 := A7.out.box.c0
    have c1 := A7.out.box.c1
    cases his : isMat C1 L1.length (fun i => L1[i]?.getD 0) with
    | false =>
      go_wp2_with fail
      have SP := Lib.hid (l02Spoil_any g g w7.drew (T7.out.up (Below.refl _ _).drew).src)
      have TD := Lib.hid (T7.out.up (Below.refl _ _).drew)
      have AD := Lib.hid (A7.out.up (Below.refl _ _).drew)
      go_region_law (first | (go_simp; go_at_call 67; refine SP.out.mono ?_; rintro e w9 ⟨C2, L2, u2, rfl, _, hl2, o9, s9, k9⟩; have T9 := Lib.hid (TD.out.grown s9 k9); have A9 := Lib.hid (AD.out.grown k9); have q0 := A9.out.box.c0; have q1 := A9.out.box.c1; have X1 := Lib.hid (R1.out.below T9.out.bel (by have := Z2.out; omega)); have X2 := Lib.hid (R2.out.below T9.out.bel (by have := Z2.out; omega)); have r0 := X1.out.c0; have r1 := X1.out.c1; have r2 := X2.out.c0; have r3 := X2.out.c1; have f0 := X1.out.fr 0; have f1 := X1.out.fr 1; have f2 := X2.out.fr 0; have f3 := X2.out.fr 1; have NA : ¬ gA = w.heap.size := (by have := A9.out.gt; have := Z2.out; omega); have NA1 : ¬ gA = w.heap.size + 1 := (by have := A9.out.gt; have := Z2.out; omega); obtain ⟨ub, uc, rfl⟩ := o9.shape))
      all_goals
        obtain ⟨wz, hwz, Y1, Y2, OO, BB⟩ := fin_two (C1 := C1) (v1 := .slice va1 L1.length vc1) (C2 := C2) (v2 := .slice ub L2.length uc) X1.out X2.out (by omega)
        rw [← hwz]
        have Y1 := Lib.hid Y1
        have Y2 := Lib.hid Y2
        have OO := Lib.hid OO
        have BB := Lib.hid BB
        have HL : Hid (L1.length ≤ 400 ∧ L2.length ≤ 400) := Lib.hid (by omega)
        have A9o := Lib.hid A9.out.own
        have O9 := Lib.hid o9
        have LO : Hid (w.heap.size ≤ _) := Lib.hid (Nat.le_trans (show w.heap.size ≤ g by have := Z2.out; omega) (Nat.le_of_lt TD.out.src.lt.2))
        have BW := Lib.hid (B2.out.trans (T9.out.bel.mono (by have := Z2.out; omega)))
        clear hwz q0 q1 r0 r1 r2 r3 f0 f1 f2 f3 o9 s9 k9
        go_wp2
        refine bodyPost_ret (results_two rfl _ _ w.heap.size (w.heap.size + 1) _ _ _ _ _ rfl rfl Y1.out Y2.out t2 (by kernel_rfl)) rfl ?_
        exact ⟨_, L1, _, _, L2, _, rfl, HL.out.1, HL.out.2, own_base (OO.out _ _ _ _ A9o.out) (by have := Z2.out; omega), own_base (OO.out _ _ _ _ O9.out) LO.out, BB.out _ _ BW.out (Nat.le_refl _) (by omega)⟩
    | true =>
      obtain ⟨c, _, rfl, hk, _, _, _, _, _⟩ := mat_rd his
      clear his
      have TZ : TA w2 g gA (c : Int) (.slice va1 L1.length vc1) L1 w7 := ⟨T7.out, A7.out⟩
      have HG := Lib.hid A7.out.gt
      have KEEP : Hid (∀ wx, TA w2 g gA (c : Int) (.slice va1 L1.length vc1) L1 wx → (wx.cell? ⟨gA, 0, none⟩ = some (.int .i64 (c : Int)) ∧ TA w2 g gA (c : Int) (.slice va1 L1.length vc1) L1 wx)) := Lib.hid (fun wx h => ⟨h.a.box.c0, h⟩)
      have TD := TZ.up (Below.refl _ _).drew
      have BN := Box.new w7 26 (.int .i64 0) (.slice none 0 0)
      have GA7 := A7.out.box.lt
      have SG7 := T7.out.src.lt
      go_upto_region 5 with fail
      go_cut [6] (fun s6 wx => MadeB w2 g gA (c : Int) (.slice va1 L1.length vc1) L1 s6 wx)
      case first =>
        go_region_held3 (fun wx => wx.cell? ⟨gA, 0, none⟩ = some (.int .i64 (c : Int)) ∧ TA w2 g gA (c : Int) (.slice va1 L1.length vc1) L1 wx)
          (first | exact KEEP.out _ (by assumption) | (go_split_ands; exact KEEP.out _ (TA.up (by assumption) ((Below.refl _ _).alloc (Nat.le_refl _) _))) | exact KEEP.out _ ((TZ.up ((Below.refl _ _).alloc (Nat.le_refl _) _)).up (Below.refl _ _).drew) | exact KEEP.out _ ((tB.set bx2 0 (by omega) (by omega) _).set (bx2.set0 _) 1 (by omega) (by omega) _))
          (first
            | (go_at_call 74; go_split_ands; refine (next_g g g 9 _ (TA.t (by assumption)).src (by omega) (by omega)).mono ?_; rintro e wA ⟨y, rfl, ⟨y0, y1⟩, sA, kA⟩; have tA : TA w2 g gA (c : Int) (.slice va1 L1.length vc1) L1 wA := TA.grown (by assumption) sA kA; have zA := tA.t.src.lt; have xA := tA.a.box.lt; obtain ⟨r, rfl⟩ := Int.eq_ofNat_of_zero_le y0; (try have bx := Box.grownG (w := (w7.alloc (.cells #[.int .i64 0, .slice none 0 0] 26)).drew) BN kA (by omega)))
            | (go_at_call 83; go_split_ands; refine (l02With_any g g r c _ (TA.t (by assumption)).src (by omega) hk).mono ?_; rintro e wB ⟨C2, L2, u2, rfl, rfl, hl2, oB, sB, kB⟩; have tB : TA w2 g gA (c : Int) (.slice va1 L1.length vc1) L1 wB := TA.grown (by assumption) sB kB; have zB := tB.t.src.lt; (try have bx2 := bx.grownG kB (by omega)); (try have bx2 := Box.grownG (w := wA.alloc (.cells #[.int .i64 0, .slice none 0 0] 26)) (Box.new wA _ _ _) kB (by omega)); (try have y0 := bx2.c0); (try have y1 := bx2.c1); (try have y2 := bx2.fr 0); (try have y3 := bx2.fr 1); obtain ⟨ub, uc, rfl⟩ := oB.shape))
        all_goals
          go_wp2_with fail
          go_meet
          first
            | exact ⟨_, L2, ub, uc, rfl, by omega, by have := tB.a.box.lt; omega, own_apart tA.a.own oB, Lib.hid (tB.up ((Below.refl _ _).alloc (Nat.le_refl _) _)), Lib.hid ⟨Box.new _ _ _ _, own_below (own_base oB (by omega)) ((Below.refl _ _).alloc (Nat.le_refl _) _), zB.2⟩⟩
            | exact ⟨_, L2, ub, uc, rfl, by omega, by omega, own_apart (own_below tA.a.own ((Below.refl _ _).alloc (Nat.le_refl _) _)) oB, Lib.hid ((tB.set bx2 0 (by omega) (by omega) _).set (bx2.set0 _) 1 (by omega) (by omega) _), Lib.hid ⟨(bx2.set0 _).set1 _, own_setBox (bx2.set0 _) (own_setBox bx2 (own_base oB (by simp; omega)) (by decide)) (by decide), by omega⟩⟩
            | exact ⟨_, L2, ub, uc, rfl, by omega, by omega, own_apart tA.a.own oB, Lib.hid ((tB.set bx2 0 (by omega) (by omega) _).set (bx2.set0 _) 1 (by omega) (by omega) _), Lib.hid ⟨(bx2.set0 _).set1 _, own_setBox (bx2.set0 _) (own_setBox bx2 (own_base oB (by omega)) (by decide)) (by decide), by omega⟩⟩
      case rest =>
        obtain ⟨gB, L2, ub, uc, rfl, hl2, NAB, ap, TC, BC⟩ := hcut
        clear KEEP TD BN TZ T7 A7 c0 c1
        have p0 := TC.out.a.box.c0
        have p1 := TC.out.a.box.c1
        have b0 := BC.out.box.c0
        have b1 := BC.out.box.c1
        clear p0 b0 b1
        by_cases h1 : 0 < L1.length
        · have h1' : (0 : Int) < (L1.length : Int) := by omega
          have N := Lib.hid (next_g g g 2 wc TC.out.t.src (by omega) (by omega))
          go_wp2_with fail
          refine N.out.mono ?_
          rintro e w10 ⟨y, rfl, ⟨y0, y1⟩, s10, k10⟩
          have T10 := Lib.hid (TC.out.grown s10 k10)
          have B10 := Lib.hid (BC.out.grown k10)
          clear s10 k10 N TC BC p1
          by_cases hy : y = 0
          · subst hy
            have O := T10.out.a.own
            rcases O.2 with ⟨h0, _⟩ | ⟨b, cap2, cur, h0, _⟩
            · injection h0 with _ e2 _; omega
            · injection h0 with e1 _ e3
              subst e1 e3
              have x0 := O.cellAt 0 (by omega)
              have e1 : (L1.map (Value.int .i64))[0]? = some (.int .i64 (L1.getD 0 0)) := by simp [List.getD_eq_getElem?_getD, h1]
              rw [e1] at x0
              clear e1 O
              generalize L1.getD 0 0 = z0 at *
              have TD := Lib.hid ((T10.out.up (Below.refl _ _).drew).up ((Below.refl _ _).alloc (Nat.le_refl _) (.cells #[.int .i64 z0] 2)))
              have BD := Lib.hid ((B10.out.up (Below.refl _ _).drew).up ((Below.refl _ _).alloc (Nat.le_refl _) (.cells #[.int .i64 z0] 2)))
              have p1 := T10.out.a.box.c1
              have b1 := B10.out.box.c1
              have SG := Lib.hid (Nat.succ_le_of_lt TD.out.t.src.lt.2)
              have b1a := (B10.out.up ((Below.refl _ _).alloc (Nat.le_refl _) (.cells #[.int .i64 z0] 2))).box.c1
              have HL2 : Hid (L2.length + 1 ≤ 400) := Lib.hid (by omega)
              go_wp2_with fail
              go_region_law (first | (refine step_append1 (by rfl) _ _ (by rfl) (g + 1) (.slice ub L2.length uc) L2.length L2 (by rfl) BD.out.own _ _ 1 (by rfl) (World.cell?_alloc_new _ _ _ _) (by omega) SG.out ?_; intro va' vc' w12 ho hg; have x1 := (BD.out.box.grown hg (BD.out.box.ne_row BD.out.own (by decide))).c1; have x2 := (BD.out.box.grown hg (BD.out.box.ne_row BD.out.own (by decide))).fr 1))
              all_goals
                obtain ⟨T12, B12⟩ := TD.out.app BD.out ap NAB ho hg
                have T12 := Lib.hid T12
                have B12 := Lib.hid B12
                clear ho hg x1 x2 p1 b1 x0
                generalize (w12.setCell ⟨gB, 1, none⟩ (.slice va' (L2.length + 1) vc')) = w13 at *
                have X1 := Lib.hid (R1.out.below T12.out.t.bel (by have := Z2.out; omega))
                have X2 := Lib.hid (R2.out.below T12.out.t.bel (by have := Z2.out; omega))
                have r0 := X1.out.c0
                have r1 := X1.out.c1
                have r2 := X2.out.c0
                have r3 := X2.out.c1
                have f0 := X1.out.fr 0
                have f1 := X1.out.fr 1
                have f2 := X2.out.fr 0
                have f3 := X2.out.fr 1
                have p0 := T12.out.a.box.c0
                have p1 := T12.out.a.box.c1
                have b0 := B12.out.box.c0
                have b1 := B12.out.box.c1
                have NA : ¬ gA = w.heap.size := by have := T12.out.a.gt; have := Z2.out; omega
                have NA1 : ¬ gA = w.heap.size + 1 := by have := T12.out.a.gt; have := Z2.out; omega
                have NB : ¬ gB = w.heap.size := by have := B12.out.gt; have := Z2.out; omega
                have NB1 : ¬ gB = w.heap.size + 1 := by have := B12.out.gt; have := Z2.out; omega
                obtain ⟨wz, hwz, Y1, Y2, OO, BB⟩ := fin_two (C1 := (c : Int)) (v1 := .slice (some ⟨b, 0, none⟩) L1.length vc1) (C2 := (c : Int)) (v2 := .slice va' (L2.length + 1) vc') X1.out X2.out (by omega)
                have Y1 := Lib.hid (Y1.up (Below.refl wz.heap.size wz).drew)
                have Y2 := Lib.hid (Y2.up (Below.refl wz.heap.size wz).drew)
                have OO := Lib.hid OO
                have BB := Lib.hid BB
                have HL : Hid (L1.length ≤ 400 ∧ (L2 ++ [z0]).length ≤ 400) := Lib.hid (by first | omega | (simp; omega))
                have OA := Lib.hid T12.out.a.own
                have OB := Lib.hid B12.out.own
                have BW := Lib.hid (B2.out.trans (T12.out.t.bel.mono (by have := Z2.out; omega)))
                go_wp2_with fail
                go_region
                rw [← hwz]
                clear hwz
                go_wp2
                refine bodyPost_ret (results_two rfl _ _ w.heap.size (w.heap.size + 1) _ _ _ _ _ rfl rfl Y1.out Y2.out t2 (by kernel_rfl)) rfl ?_
                exact ⟨_, L1, _, _, (L2 ++ [z0]), _, rfl, HL.out.1, HL.out.2, own_below (own_base (OO.out _ _ _ _ OA.out) (by have := Z2.out; omega)) (Below.refl _ _).drew, own_below (own_base (OO.out _ _ _ _ OB.out) (by have := Z2.out; omega)) (Below.refl _ _).drew, (BB.out _ _ BW.out (Nat.le_refl _) (by omega)).drew⟩
          · have hy' : (y == 0) = false := by rw [beq_eq_false_iff_ne]; exact hy
            have X1 := Lib.hid (R1.out.below T10.out.t.bel (by have := Z2.out; omega))
            have X2 := Lib.hid (R2.out.below T10.out.t.bel (by have := Z2.out; omega))
            have r0 := X1.out.c0
            have r1 := X1.out.c1
            have r2 := X2.out.c0
            have r3 := X2.out.c1
            have f0 := X1.out.fr 0
            have f1 := X1.out.fr 1
            have f2 := X2.out.fr 0
            have f3 := X2.out.fr 1
            have p0 := T10.out.a.box.c0
            have p1 := T10.out.a.box.c1
            have b0 := B10.out.box.c0
            have b1 := B10.out.box.c1
            have NA : ¬ gA = w.heap.size := by have := T10.out.a.gt; have := Z2.out; omega
            have NA1 : ¬ gA = w.heap.size + 1 := by have := T10.out.a.gt; have := Z2.out; omega
            have NB : ¬ gB = w.heap.size := by have := B10.out.gt; have := Z2.out; omega
            have NB1 : ¬ gB = w.heap.size + 1 := by have := B10.out.gt; have := Z2.out; omega
            obtain ⟨wz, hwz, Y1, Y2, OO, BB⟩ := fin_two (C1 := (c : Int)) (v1 := .slice va1 L1.length vc1) (C2 := (c : Int)) (v2 := .slice ub L2.length uc) X1.out X2.out (by omega)
            have Y1 := Lib.hid (Y1.up (Below.refl wz.heap.size wz).drew)
            have Y2 := Lib.hid (Y2.up (Below.refl wz.heap.size wz).drew)
            have OO := Lib.hid OO
            have BB := Lib.hid BB
            have HL : Hid (L1.length ≤ 400 ∧ L2.length ≤ 400) := Lib.hid (by first | omega | (simp; omega))
            have OA := Lib.hid T10.out.a.own
            have OB := Lib.hid B10.out.own
            have BW := Lib.hid (B2.out.trans (T10.out.t.bel.mono (by have := Z2.out; omega)))
            go_wp2_with fail
            go_region
            rw [← hwz]
            clear hwz
            go_wp2
            refine bodyPost_ret (results_two rfl _ _ w.heap.size (w.heap.size + 1) _ _ _ _ _ rfl rfl Y1.out Y2.out t2 (by kernel_rfl)) rfl ?_
            exact ⟨_, L1, _, _, L2, _, rfl, HL.out.1, HL.out.2, own_below (own_base (OO.out _ _ _ _ OA.out) (by have := Z2.out; omega)) (Below.refl _ _).drew, own_below (own_base (OO.out _ _ _ _ OB.out) (by have := Z2.out; omega)) (Below.refl _ _).drew, (BB.out _ _ BW.out (Nat.le_refl _) (by omega)).drew⟩
        · have h1' : ¬ (0 : Int) < (L1.length : Int) := by omega
          have X1 := Lib.hid (R1.out.below TC.out.t.bel (by have := Z2.out; omega))
          have X2 := Lib.hid (R2.out.below TC.out.t.bel (by have := Z2.out; omega))
          have r0 := X1.out.c0
          have r1 := X1.out.c1
          have r2 := X2.out.c0
          have r3 := X2.out.c1
          have f0 := X1.out.fr 0
          have f1 := X1.out.fr 1
          have f2 := X2.out.fr 0
          have f3 := X2.out.fr 1
          have p0 := TC.out.a.box.c0
          have p1 := TC.out.a.box.c1
          have b0 := BC.out.box.c0
          have b1 := BC.out.box.c1
          have NA : ¬ gA = w.heap.size := by have := TC.out.a.gt; have := Z2.out; omega
          have NA1 : ¬ gA = w.heap.size + 1 := by have := TC.out.a.gt; have := Z2.out; omega
          have NB : ¬ gB = w.heap.size := by have := BC.out.gt; have := Z2.out; omega
          have NB1 : ¬ gB = w.heap.size + 1 := by have := BC.out.gt; have := Z2.out; omega
          obtain ⟨wz, hwz, Y1, Y2, OO, BB⟩ := fin_two (C1 := (c : Int)) (v1 := .slice va1 L1.length vc1) (C2 := (c : Int)) (v2 := .slice ub L2.length uc) X1.out X2.out (by omega)
          have Y1 := Lib.hid (Y1.up (Below.refl wz.heap.size wz).drew)
          have Y2 := Lib.hid (Y2.up (Below.refl wz.heap.size wz).drew)
          have OO := Lib.hid OO
          have BB := Lib.hid BB
          have HL : Hid (L1.length ≤ 400 ∧ L2.length ≤ 400) := Lib.hid (by first | omega | (simp; omega))
          have OA := Lib.hid TC.out.a.own
          have OB := Lib.hid BC.out.own
          have BW := Lib.hid (B2.out.trans (TC.out.t.bel.mono (by have := Z2.out; omega)))
          go_wp2_with fail
          go_region
          rw [← hwz]
          clear hwz
          go_wp2
          refine bodyPost_ret (results_two rfl _ _ w.heap.size (w.heap.size + 1) _ _ _ _ _ rfl rfl Y1.out Y2.out t2 (by kernel_rfl)) rfl ?_
          exact ⟨_, L1, _, _, L2, _, rfl, HL.out.1, HL.out.2, own_below (own_base (OO.out _ _ _ _ OA.out) (by have := Z2.out; omega)) (Below.refl _ _).drew, own_below (own_base (OO.out _ _ _ _ OB.out) (by have := Z2.out; omega)) (Below.refl _ _).drew, (BB.out _ _ BW.out (Nat.le_refl _) (by omega)).drew⟩


set_option maxHeartbeats 1000000 in
theorem DrawSum_any (a : Option Addr) (m cap : Nat) (w : World) (hc : Code w w.heap.size a m) (hm : m ≤ 4096) :
    Calls Tryd.prog 51 #[.slice a m cap] w (TwoRes w) := by
  have t2 := Tryd.underlying26
  have W2 : ∃ w2, w2 = ((w.alloc (.cells #[.int .i64 0, .slice none 0 0] 26)).alloc (.cells #[.int .i64 0, .slice none 0 0] 26)) := ⟨_, rfl⟩
  obtain ⟨w2, hw2⟩ := W2
  have B2 : Hid (Below w.heap.size w w2) := Lib.hid (by rw [hw2]; exact ((Below.refl w.heap.size w).alloc (Nat.le_refl _) _).alloc (by simp) _)
  have R1 : Hid (Box w2 w.heap.size 26 (.int .i64 0) (.slice none 0 0)) := Lib.hid (by rw [hw2]; exact (Box.new w _ _ _).alloc _)
  have R2 : Hid (Box w2 (w.heap.size + 1) 26 (.int .i64 0) (.slice none 0 0)) := Lib.hid (by rw [hw2]; have := Box.new (w.alloc (.cells #[.int .i64 0, .slice none 0 0] 26)) 26 (.int .i64 0) (.slice none 0 0); simpa using this)
  have Z2 : Hid (w2.heap.size = w.heap.size + 2) := Lib.hid (by rw [hw2]; simp)
  have FR := Lib.hid (l02Two_any a m cap w2 (code_mono (hc.below B2.out) (by have := Z2.out; omega)) hm)
  clear hc
  go_enter Tryd.func51, Tryd.ntmps51
  go_wp2_with fail
  rw [← hw2]
  clear hw2
  refine FR.out.mono ?_
  rintro e w3 ⟨C1, L1, u1, C2, L2, u2, rfl, hl1, hl2, o1, o2, b3⟩
  obtain ⟨v1, q1, rfl⟩ := o1.shape
  obtain ⟨v2, q2, rfl⟩ := o2.shape
  have B4 : Below w3.heap.size w3 ((w3.alloc (.cells #[.int .i64 C1, .slice v1 L1.length q1] 26)).alloc (.cells #[.int .i64 C2, .slice v2 L2.length q2] 26)) := ((Below.refl _ _).alloc (Nat.le_refl _) _).alloc (by simp) _
  have O1 := Lib.hid (own_below o1 B4)
  have O2 := Lib.hid (own_below o2 B4)
  have X1 := Lib.hid ((R1.out.up b3).up B4)
  have X2 := Lib.hid ((R2.out.up b3).up B4)
  have XA : Box ((w3.alloc (.cells #[.int .i64 C1, .slice v1 L1.length q1] 26)).alloc (.cells #[.int .i64 C2, .slice v2 L2.length q2] 26)) w3.heap.size 26 (.int .i64 C1) (.slice v1 L1.length q1) := (Box.new _ _ _ _).alloc _
  have XB : Box ((w3.alloc (.cells #[.int .i64 C1, .slice v1 L1.length q1] 26)).alloc (.cells #[.int .i64 C2, .slice v2 L2.length q2] 26)) (w3.heap.size + 1) 26 (.int .i64 C2) (.slice v2 L2.length q2) := by
    have := Box.new (w3.alloc (.cells #[.int .i64 C1, .slice v1 L1.length q1] 26)) 26 (.int .i64 C2) (.slice v2 L2.length q2)
    simpa using this
  have BW := Lib.hid ((B2.out.trans (b3.mono (by have := Z2.out; omega))).trans (B4.mono (by have := Z2.out; have := b3.size; omega)))
  have N1 : ¬ w3.heap.size = w.heap.size := by have := Z2.out; have := b3.size; omega
  have N2 : ¬ w3.heap.size = w.heap.size + 1 := by have := Z2.out; have := b3.size; omega
  have N3 : ¬ w3.heap.size + 1 = w.heap.size := by have := Z2.out; have := b3.size; omega
  have N4 : ¬ w3.heap.size + 1 = w.heap.size + 1 := by have := Z2.out; have := b3.size; omega
  clear b3 o1 o2 B4
  go_wp2_with fail
  have W4 : ∃ w4, w4 = ((w3.alloc (.cells #[.int .i64 C1, .slice v1 L1.length q1] 26)).alloc (.cells #[.int .i64 C2, .slice v2 L2.length q2] 26)) := ⟨_, rfl⟩
  obtain ⟨w4, hw4⟩ := W4
  rw [← hw4] at O1 O2 X1 X2 XA XB BW ⊢
  clear hw4
  generalize w3.heap.size = g3 at *
  have p0 := XA.c0
  have p1 := XA.c1
  have b0 := XB.c0
  have b1 := XB.c1
  have r0 := X1.out.c0
  have r1 := X1.out.c1
  have r2 := X2.out.c0
  have r3 := X2.out.c1
  have f0 := X1.out.fr 0
  have f1 := X1.out.fr 1
  have f2 := X2.out.fr 0
  have f3 := X2.out.fr 1
  obtain ⟨wz, hwz, Y1, Y2, OO, BB⟩ := fin_two (C1 := C1) (v1 := .slice v1 L1.length q1) (C2 := C2) (v2 := .slice v2 L2.length q2) X1.out X2.out (by omega)
  have Y1 := Lib.hid (Y1.up (Below.refl wz.heap.size wz).drew)
  have Y2 := Lib.hid (Y2.up (Below.refl wz.heap.size wz).drew)
  have OO := Lib.hid OO
  have BB := Lib.hid BB
  have HL : Hid (L1.length ≤ 400 ∧ L2.length ≤ 400) := Lib.hid (by omega)
  go_region
  rw [← hwz]
  clear hwz
  go_wp2
  refine bodyPost_ret (results_two rfl _ _ w.heap.size (w.heap.size + 1) _ _ _ _ _ rfl rfl Y1.out Y2.out t2 (by kernel_rfl)) rfl ?_
  exact ⟨_, L1, _, _, L2, _, rfl, HL.out.1, HL.out.2, own_below (own_base (OO.out _ _ _ _ O1.out) (by have := Z2.out; omega)) (Below.refl _ _).drew, own_below (own_base (OO.out _ _ _ _ O2.out) (by have := Z2.out; omega)) (Below.refl _ _).drew, (BB.out _ _ BW.out (Nat.le_refl _) (by omega)).drew⟩
end Go.Proofs.YtdojblmffmefgaaDoor
