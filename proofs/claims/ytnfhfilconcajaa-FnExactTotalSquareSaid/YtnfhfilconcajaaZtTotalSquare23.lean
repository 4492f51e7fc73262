/-
  Joined: YDeg, YLaw2.
-/
import Derived.Test.YtnfhfilconcajaaZtTotalSquare22
import Derived.Deep.DeepCutAuto
import Derived.Deep.RegionWith
import Derived.Deep.RegionHeld3
import Derived.BigRegion
section
namespace Go.Proofs.Ytnfhfilconcajaa.Pl
open Go.RowKit
set_option linter.unusedVariables false
set_option maxRecDepth 100000

/-- A call that answers two numbers and leaves what there was. -/
def SaysN (x c : Int) (w : World) (e : Ending) (w' : World) : Prop := e = .returned (.tuple #[.int .i64 x, .int .i64 c]) ∧ Below w.heap.size w w'

/-- The first term of an element other than 0. -/
theorem headP {k : Int} {va : Value} {w : World} {m : Nat} {X : Nat → List Int} (hok : okPl k X m) (hm : 0 < m) (h : RdSS w va m X) :
    ∃ b o v cap, va = .slice (some ⟨b, o, none⟩) m cap ∧ w.cell? ⟨b, o, none⟩ = some v ∧ DegIs w v (sumL (X 0)) := by
  obtain ⟨_, _, VS, hc, hr⟩ := h
  obtain ⟨b, o, ⟨cap, e⟩, hc⟩ := hc.resolve_left (by omega)
  have := hc 0 hm
  rw [Nat.add_zero] at this
  exact ⟨b, o, VS 0, cap, e, this, degIs_exp (hr 0 hm) (by have := (hok.2.2 0 hm).1; have := hok.1.2; omega) (isX_iff.1 (hok.2.2 0 hm).2.1).1⟩

/-- The degree of terms, or 0. -/
theorem l08Degree_none (a : Option Addr) (cap : Nat) (w : World) :
    Calls Try.prog 56 #[.slice a 0 cap] w fun e w' => e = .returned (.int .i64 0) ∧ w' = w := by
  go_enter Try.func56, Try.ntmps56
  go_wp2
  go_ret
  exact ⟨rfl, rfl⟩
theorem l08Degree_some (b o m cap : Nat) (v : Value) (x : Int) (w : World) (hm : 0 < m) (hc : w.cell? ⟨b, o, none⟩ = some v) (D : Hid (DegIs w v x)) :
    Calls Try.prog 56 #[.slice (some ⟨b, o, none⟩) m cap] w fun e w' => e = .returned (.int .i64 x) ∧ ∃ q, w' = w.drewN q := by
  have hz : ((m : Int) == 0) = false := by rw [beq_eq_false_iff_ne]; omega
  have hp : (0 : Int) < (m : Int) := by omega
  clear hm
  go_enter Try.func56, Try.ntmps56
  go_wp2_with fail
  refine (l03Degree_is D 0).mono ?_
  rintro e w3 ⟨rfl, q, rfl⟩
  go_wp2_with fail
  go_ret
  exact ⟨rfl, q, rfl⟩

theorem specDegP_bad (k : Int) (a : Option Addr) (m cap : Nat) (w : World) (A : Hid (∀ wx, Below w.heap.size w wx → Calls Try.prog 49 #[.agg #[.int .i64 k, .slice a m cap]] wx (SaysB false wx))) :
    Calls Try.prog 23 #[.agg #[.int .i64 k, .slice a m cap]] w (SaysN 0 1 w) := by
  have t2 := Try.underlying27
  have B0 : Hid (Below w.heap.size w (w.alloc (.cells #[.int .i64 k, .slice a m cap] 27))) := Lib.hid ((Below.refl w.heap.size w).alloc (Nat.le_refl _) _)
  go_enter Try.func23, Try.ntmps23
  go_wp2_with fail
  refine (A.out _ B0.out).mono ?_
  rintro e w2 ⟨rfl, b2⟩
  have B2 := Lib.hid (B0.out.step1 b2)
  clear b2
  go_wp2_with fail
  go_ret2
  exact ⟨rfl, B2.out⟩
theorem implDegP_bad (k : Int) (a : Option Addr) (m cap : Nat) (w : World) (A : Hid (∀ wx, Below w.heap.size w wx → Calls Try.prog 15 #[.agg #[.int .i64 k, .slice a m cap]] wx (SaysB false wx))) :
    Calls Try.prog 24 #[.agg #[.int .i64 k, .slice a m cap]] w (SaysN 0 1 w) := by
  have t2 := Try.underlying27
  have B0 : Hid (Below w.heap.size w (w.alloc (.cells #[.int .i64 k, .slice a m cap] 27))) := Lib.hid ((Below.refl w.heap.size w).alloc (Nat.le_refl _) _)
  go_enter Try.func24, Try.ntmps24
  go_wp2_with fail
  refine (A.out _ B0.out).mono ?_
  rintro e w2 ⟨rfl, b2⟩
  have B2 := Lib.hid (B0.out.step1 b2)
  clear b2
  go_wp2_with fail
  go_ret2
  exact ⟨rfl, B2.out⟩

theorem specDegP_zero (k : Int) (a : Option Addr) (cap : Nat) (w : World) (A : Hid (∀ wx, Below w.heap.size w wx → Calls Try.prog 49 #[.agg #[.int .i64 k, .slice a 0 cap]] wx (SaysB true wx))) :
    Calls Try.prog 23 #[.agg #[.int .i64 k, .slice a 0 cap]] w (SaysN 0 5 w) := by
  have t2 := Try.underlying27
  have B0 : Hid (Below w.heap.size w (w.alloc (.cells #[.int .i64 k, .slice a 0 cap] 27))) := Lib.hid ((Below.refl w.heap.size w).alloc (Nat.le_refl _) _)
  have BX : Hid (Box (w.alloc (.cells #[.int .i64 k, .slice a 0 cap] 27)) w.heap.size 27 (.int .i64 k) (.slice a 0 cap)) := Lib.hid (Box.new _ _ _ _)
  go_enter Try.func23, Try.ntmps23
  go_wp2_with fail
  refine (A.out _ B0.out).mono ?_
  rintro e w2 ⟨rfl, b2⟩
  have B2 := Lib.hid (B0.out.step1 b2)
  have c1 := (BX.out.up b2).c0
  have c1b := (BX.out.up b2).c1
  clear b2
  go_wp2_with fail
  go_ret2
  exact ⟨rfl, B2.out⟩
theorem implDegP_zero (k : Int) (a : Option Addr) (cap : Nat) (w : World) (A : Hid (∀ wx, Below w.heap.size w wx → Calls Try.prog 15 #[.agg #[.int .i64 k, .slice a 0 cap]] wx (SaysB true wx))) :
    Calls Try.prog 24 #[.agg #[.int .i64 k, .slice a 0 cap]] w (SaysN 0 5 w) := by
  have t2 := Try.underlying27
  have B0 : Hid (Below w.heap.size w (w.alloc (.cells #[.int .i64 k, .slice a 0 cap] 27))) := Lib.hid ((Below.refl w.heap.size w).alloc (Nat.le_refl _) _)
  have BX : Hid (Box (w.alloc (.cells #[.int .i64 k, .slice a 0 cap] 27)) w.heap.size 27 (.int .i64 k) (.slice a 0 cap)) := Lib.hid (Box.new _ _ _ _)
  go_enter Try.func24, Try.ntmps24
  go_wp2_with fail
  refine (A.out _ B0.out).mono ?_
  rintro e w2 ⟨rfl, b2⟩
  have B2 := Lib.hid (B0.out.step1 b2)
  have c1 := (BX.out.up b2).c0
  have c1b := (BX.out.up b2).c1
  clear b2
  go_wp2_with fail
  refine (isZeroP_any k a 0 cap w2).mono ?_
  rintro e w3 ⟨rfl, b3⟩
  have B3 := Lib.hid (B2.out.step1 b3)
  clear b3
  go_wp2_with fail
  go_ret2
  exact ⟨rfl, B3.out⟩

theorem specDegP_ok (k : Int) (b o m cap : Nat) (v : Value) (x : Int) (w : World) (hm : 0 < m) (hc : w.cell? ⟨b, o, none⟩ = some v) (hd : DegIs w v x) (A : Hid (∀ wx, Below w.heap.size w wx → Calls Try.prog 49 #[.agg #[.int .i64 k, .slice (some ⟨b, o, none⟩) m cap]] wx (SaysB true wx))) :
    Calls Try.prog 23 #[.agg #[.int .i64 k, .slice (some ⟨b, o, none⟩) m cap]] w (SaysN x 0 w) := by
  have t2 := Try.underlying27
  have B0 : Hid (Below w.heap.size w (w.alloc (.cells #[.int .i64 k, .slice (some ⟨b, o, none⟩) m cap] 27))) := Lib.hid ((Below.refl w.heap.size w).alloc (Nat.le_refl _) _)
  have BX : Hid (Box (w.alloc (.cells #[.int .i64 k, .slice (some ⟨b, o, none⟩) m cap] 27)) w.heap.size 27 (.int .i64 k) (.slice (some ⟨b, o, none⟩) m cap)) := Lib.hid (Box.new _ _ _ _)
  have hz : ((m : Int) == 0) = false := by rw [beq_eq_false_iff_ne]; omega
  have hp : (0 : Int) < (m : Int) := by omega
  have HM := Lib.hid hm
  have HC := Lib.hid hc
  have HD := Lib.hid hd
  clear hc hd hm
  go_enter Try.func23, Try.ntmps23
  go_wp2_with fail
  refine (A.out _ B0.out).mono ?_
  rintro e w2 ⟨rfl, b2⟩
  have B2 := Lib.hid (B0.out.step1 b2)
  have c1 := (BX.out.up b2).c0
  have c1b := (BX.out.up b2).c1
  have c2 : w2.cell? ⟨b, o, none⟩ = some v := (B2.out.cell (p := ⟨b, o, none⟩) (World.block_lt_of_cell? w _ HC.out)).trans HC.out
  have D2 := Lib.hid (HD.out.below B2.out)
  clear b2
  go_wp2_with fail
  refine (l08Degree_some b o m cap v x w2 HM.out c2 D2).mono ?_
  rintro e w3 ⟨rfl, q, rfl⟩
  go_wp2_with fail
  go_ret2
  exact ⟨rfl, below_drewN B2.out q⟩
theorem implDegP_ok (k : Int) (b o m cap : Nat) (v : Value) (x : Int) (w : World) (hm : 0 < m) (hc : w.cell? ⟨b, o, none⟩ = some v) (hd : DegIs w v x) (A : Hid (∀ wx, Below w.heap.size w wx → Calls Try.prog 15 #[.agg #[.int .i64 k, .slice (some ⟨b, o, none⟩) m cap]] wx (SaysB true wx))) :
    Calls Try.prog 24 #[.agg #[.int .i64 k, .slice (some ⟨b, o, none⟩) m cap]] w (SaysN x 0 w) := by
  have t2 := Try.underlying27
  have B0 : Hid (Below w.heap.size w (w.alloc (.cells #[.int .i64 k, .slice (some ⟨b, o, none⟩) m cap] 27))) := Lib.hid ((Below.refl w.heap.size w).alloc (Nat.le_refl _) _)
  have BX : Hid (Box (w.alloc (.cells #[.int .i64 k, .slice (some ⟨b, o, none⟩) m cap] 27)) w.heap.size 27 (.int .i64 k) (.slice (some ⟨b, o, none⟩) m cap)) := Lib.hid (Box.new _ _ _ _)
  have HC := Lib.hid hc
  have HD := Lib.hid hd
  have HM := Lib.hid hm
  have Z : Hid (∀ wx, Calls Try.prog 59 #[.agg #[.int .i64 k, .slice (some ⟨b, o, none⟩) m cap]] wx fun e w' => e = .returned (.bool false) ∧ Below wx.heap.size wx w') := Lib.hid fun wx => by
    have := isZeroP_any k (some ⟨b, o, none⟩) m cap wx
    rw [decide_eq_false (by omega)] at this
    exact this
  clear hc hd hm
  go_enter Try.func24, Try.ntmps24
  go_wp2_with fail
  refine (A.out _ B0.out).mono ?_
  rintro e w2 ⟨rfl, b2⟩
  have B2 := Lib.hid (B0.out.step1 b2)
  have X2 := Lib.hid (BX.out.up b2)
  have c1 := X2.out.c0
  have c1b := X2.out.c1
  clear b2
  go_wp2_with fail
  refine (Z.out w2).mono ?_
  rintro e w3 ⟨rfl, b3⟩
  have B3 := Lib.hid (B2.out.step1 b3)
  have c1 := (X2.out.up b3).c0
  have c1b := (X2.out.up b3).c1
  clear b3 X2
  go_wp2_with fail
  refine (degreeP_any k _ m cap x w3 (fun h => by have := HM.out; omega) (fun _ => ⟨b, o, v, rfl, (B3.out.cell (p := ⟨b, o, none⟩) (World.block_lt_of_cell? w _ HC.out)).trans HC.out, HD.out.below B3.out⟩)).mono ?_
  rintro e w4 ⟨rfl, b4⟩
  have B4 := Lib.hid (B3.out.step1 b4)
  clear b4
  go_wp2_with fail
  go_ret2
  exact ⟨rfl, B4.out⟩

theorem DegP_both (k : Int) (X : Nat → List Int) (m : Nat) : ∃ x c : Int,
    (∀ V w, RdSS w V m X → Calls Try.prog 23 #[.agg #[.int .i64 k, V]] w (SaysN x c w)) ∧
    (∀ V w, RdSS w V m X → Calls Try.prog 24 #[.agg #[.int .i64 k, V]] w (SaysN x c w)) := by
  by_cases hok : okPl k X m
  · by_cases hm : m = 0
    · subst hm
      refine ⟨0, 5, fun V w h => ?_, fun V w h => ?_⟩
      · obtain ⟨a, cap, rfl⟩ := h.head
        exact specDegP_zero k a cap w (Lib.hid fun wx hx => (isP_yes k X 0 hok).1 _ wx (h.below hx))
      · obtain ⟨a, cap, rfl⟩ := h.head
        exact implDegP_zero k a cap w (Lib.hid fun wx hx => (isP_yes k X 0 hok).2 _ wx (h.below hx))
    · refine ⟨sumL (X 0), 0, fun V w h => ?_, fun V w h => ?_⟩
      · obtain ⟨b, o, v, cap, rfl, c, d⟩ := headP hok (by omega) h
        exact specDegP_ok k b o m cap v _ w (by omega) c d (Lib.hid fun wx hx => (isP_yes k X m hok).1 _ wx (h.below hx))
      · obtain ⟨b, o, v, cap, rfl, c, d⟩ := headP hok (by omega) h
        exact implDegP_ok k b o m cap v _ w (by omega) c d (Lib.hid fun wx hx => (isP_yes k X m hok).2 _ wx (h.below hx))
  · refine ⟨0, 1, fun V w h => ?_, fun V w h => ?_⟩
    · obtain ⟨a, cap, rfl⟩ := h.head
      exact specDegP_bad k a m cap w (Lib.hid fun wx hx => (isP_no k X m hok).1 _ wx (h.below hx))
    · obtain ⟨a, cap, rfl⟩ := h.head
      exact implDegP_bad k a m cap w (Lib.hid fun wx hx => (isP_no k X m hok).2 _ wx (h.below hx))
end Go.Proofs.Ytnfhfilconcajaa.Pl
end
section
namespace Go.Proofs.Ytnfhfilconcajaa.Pl
open Go.RowKit
set_option linter.unusedVariables false
set_option maxRecDepth 100000

section
variable {w w' : World} {g : Nat} {m : Nat} {VS : Nat → Value}
/-- A box's block is no row's. -/
theorem _root_.Go.Proofs.Ytnfhfilconcajaa.Box.ne_own {t : TypeId} {x y v : Value} {B n : Nat} {e : TypeId} {xs : List Value} (h : Box w g t x y) (o : w.ownsRow B e 1 v n xs) (he : e ≠ t) : ∀ q, v.ownBlock = some q → q ≠ g := by
  intro q hq eq
  subst eq
  rcases o.2 with ⟨rfl, _⟩ | ⟨q', cap', cur, rfl, _, hG, _⟩
  · cases hq
  · simp only [Value.ownBlock, Option.some.injEq] at hq
    subst hq
    unfold Box at h
    rw [hG] at h
    simp only [Option.some.injEq, Obj.cells.injEq] at h
    exact he h.2.1
theorem _root_.Go.Proofs.Ytnfhfilconcajaa.Box.restK {t : TypeId} {x y : Value} {n B B' : Nat} {V' : Value} {VB : Nat → Value} {Y : Nat → List Int} (h : Box w g t x y) (ht : 2 ≠ t) (k : Fam w B V' n VB Y) (r : MRestK n VB w w') : Box w' g t x y :=
  (r.2 g h.lt fun i hi e => h.ne_own (k.inn i hi) ht g e rfl).trans h
end

/-- The argument in its box. -/
structure Sq1 (w0 : World) (c0 : Int) (V0 : Value) (w : World) : Prop where
  bel : Below w0.heap.size w0 w
  boxA : Box w w0.heap.size 24 (.int .i64 c0) V0
/-- The two arguments in their boxes. -/
structure Sq2 (w0 : World) (c0 : Int) (V0 : Value) (c1 : Int) (V1 : Value) (w : World) : Prop where
  bel : Below w0.heap.size w0 w
  boxA : Box w w0.heap.size 24 (.int .i64 c0) V0
  boxB : Box w (w0.heap.size + 1) 24 (.int .i64 c1) V1
/-- A struct that the law holds: its box and the family. -/
structure OwnF (w0 : World) (g : Nat) (c : Int) (V : Value) (m : Nat) (VS : Nat → Value) (X : Nat → List Int) (w : World) : Prop where
  fam : Fam w w0.heap.size V m VS X
  sep : Sep m VS
  box : Box w g 27 (.int .i64 c) V
  ge : w0.heap.size ≤ g

section
variable {w0 w w' : World} {c0 c1 c : Int} {V0 V1 V : Value} {g m : Nat} {VS : Nat → Value} {X : Nat → List Int}
theorem Sq1.start (w : World) (c0 : Int) (V0 : Value) : Sq1 w c0 V0 (w.alloc (.cells #[.int .i64 c0, V0] 24)) := ⟨(Below.refl w.heap.size w).alloc (Nat.le_refl _) _, Box.new w _ _ _⟩
theorem Sq1.up (h : Sq1 w0 c0 V0 w) (k : Below w.heap.size w w') : Sq1 w0 c0 V0 w' := ⟨h.bel.step1 k, h.boxA.up k⟩
theorem Sq1.alloc (h : Sq1 w0 c0 V0 w) (o : Obj) : Sq1 w0 c0 V0 (w.alloc o) := h.up ((Below.refl _ _).alloc (Nat.le_refl _) _)
theorem Sq2.start (w : World) (c0 : Int) (V0 : Value) (c1 : Int) (V1 : Value) : Sq2 w c0 V0 c1 V1 ((w.alloc (.cells #[.int .i64 c0, V0] 24)).alloc (.cells #[.int .i64 c1, V1] 24)) := by
  refine ⟨((Below.refl w.heap.size w).alloc (Nat.le_refl _) _).alloc (by simp) _, (Box.new w _ _ _).alloc _, ?_⟩
  have := Box.new (w.alloc (.cells #[.int .i64 c0, V0] 24)) 24 (.int .i64 c1) V1
  simpa using this
theorem Sq2.up (h : Sq2 w0 c0 V0 c1 V1 w) (k : Below w.heap.size w w') : Sq2 w0 c0 V0 c1 V1 w' := ⟨h.bel.step1 k, h.boxA.up k, h.boxB.up k⟩
theorem Sq2.alloc (h : Sq2 w0 c0 V0 c1 V1 w) (o : Obj) : Sq2 w0 c0 V0 c1 V1 (w.alloc o) := h.up ((Below.refl _ _).alloc (Nat.le_refl _) _)
theorem OwnF.up (h : OwnF w0 g c V m VS X w) (k : Below w.heap.size w w') : OwnF w0 g c V m VS X w' := ⟨h.fam.below k, h.sep, h.box.up k, h.ge⟩
theorem OwnF.alloc (h : OwnF w0 g c V m VS X w) (o : Obj) : OwnF w0 g c V m VS X (w.alloc o) := h.up ((Below.refl _ _).alloc (Nat.le_refl _) _)
theorem OwnF.start (hw : w0.heap.size ≤ w.heap.size) (h : Fam w w0.heap.size V m VS X) (hs : Sep m VS) : OwnF w0 w.heap.size c V m VS X (w.alloc (.cells #[.int .i64 c, V] 27)) :=
  ⟨h.below ((Below.refl _ _).alloc (Nat.le_refl _) _), hs, Box.new _ _ _ _, hw⟩
theorem OwnF.stored {x y : Value} (h : Box w g 27 x y) (o : Fam w w0.heap.size V m VS X) (hs : Sep m VS) (hg : w0.heap.size ≤ g) : OwnF w0 g c V m VS X ((w.setCell ⟨g, 0, none⟩ (.int .i64 c)).setCell ⟨g, 1, none⟩ V) := by
  have hne : ∀ i, i < m → ∀ q, (VS i).ownBlock = some q → q ≠ g := fun i hi => h.ne_own (o.inn i hi) (by decide)
  have hno := h.ne_own o.out (by decide)
  have o1 : Fam (w.setCell ⟨g, 0, none⟩ (.int .i64 c)) w0.heap.size V m VS X := ⟨own_sameblock o.out fun q hq => heap_setCell_other _ _ _ _ (hno q hq), fun i hi => own_sameblock (o.inn i hi) fun q hq => heap_setCell_other _ _ _ _ (hne i hi q hq)⟩
  have o2 : Fam ((w.setCell ⟨g, 0, none⟩ (.int .i64 c)).setCell ⟨g, 1, none⟩ V) w0.heap.size V m VS X := ⟨own_sameblock o1.out fun q hq => heap_setCell_other _ _ _ _ (hno q hq), fun i hi => own_sameblock (o1.inn i hi) fun q hq => heap_setCell_other _ _ _ _ (hne i hi q hq)⟩
  exact ⟨o2, hs, (h.set0 _).set1 V, hg⟩
theorem OwnF.rest {g' n : Nat} {c' : Int} {V' : Value} {VB : Nat → Value} {Y : Nat → List Int} (h : OwnF w0 g c V m VS X w) (k : OwnF w0 g' c' V' n VB Y w) (r : MRestK n VB w w') (ap : FApart m VS n VB) : OwnF w0 g c V m VS X w' :=
  ⟨h.fam.rest k.fam r ap, h.sep, h.box.restK (B' := 0) (by decide) k.fam r, h.ge⟩
theorem Sq1.rest {g' n : Nat} {c' : Int} {V' : Value} {VB : Nat → Value} {Y : Nat → List Int} (h : Sq1 w0 c0 V0 w) (k : OwnF w0 g' c' V' n VB Y w) (r : MRestK n VB w w') (b : Below w0.heap.size w w') : Sq1 w0 c0 V0 w' :=
  ⟨h.bel.trans b, h.boxA.restK (B' := 0) (by decide) k.fam r⟩
theorem Sq2.rest {g' n : Nat} {c' : Int} {V' : Value} {VB : Nat → Value} {Y : Nat → List Int} (h : Sq2 w0 c0 V0 c1 V1 w) (k : OwnF w0 g' c' V' n VB Y w) (r : MRestK n VB w w') (b : Below w0.heap.size w w') : Sq2 w0 c0 V0 c1 V1 w' :=
  ⟨h.bel.trans b, h.boxA.restK (B' := 0) (by decide) k.fam r, h.boxB.restK (B' := 0) (by decide) k.fam r⟩

/-- What is kept of a struct that a region made: the block of its box, its lists, its code. -/
def MadeS (w0 wS : World) (cd C : Int) (L : List (List Int)) (s6 s7 : Value) (wx : World) : Prop :=
  ∃ (g : Nat) (va : Option Addr) (vc : Nat) (VS : Nat → Value), s6 = .pointer (some ⟨g, 0, none⟩) ∧ s7 = .int .i64 cd ∧ Hid (OwnF w0 g C (.slice va L.length vc) L.length VS (rowsOf L) wx) ∧ Hid (Below wS.heap.size wS wx)
end
end Go.Proofs.Ytnfhfilconcajaa.Pl
end
