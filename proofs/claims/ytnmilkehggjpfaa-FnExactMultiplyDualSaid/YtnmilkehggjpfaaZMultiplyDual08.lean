/-
  Joined: EAdd, EMul.
-/
import Derived.Test.YtnmilkehggjpfaaZMultiplyDual07
import Derived.Test.YtnmilkehggjpfaaZBMil37
import Derived.Test.YtnmilkehggjpfaaZBMil06
import Derived.Test.YtnmilkehggjpfaaZBMil25
import Derived.Test.YtnmilkehggjpfaaZMultiplyDual06
import Derived.Test.YtnmilkehggjpfaaZBMil38
section
namespace Go.Proofs.Ytnmilkehggjpfaa.Dl
open Go.RowKit Go.Proofs.Ytnmilkehggjpfaa.Ml
set_option linter.unusedVariables false
set_option maxRecDepth 100000

theorem rowsL_ofD (zs : List (List Int)) : rowsL (rowsOf zs) zs.length = zs := by
  apply List.ext_getElem
  · simp [rowsL]
  · intro i h1 h2
    simp [rowsL, rowsOf, h2]

/-- The result's struct is written. -/
theorem finD {w w5 : World} {g gR : Nat} {V x : Value} {VS : Nat → Value} {L : List (List Int)} (hF : FamL w5 g V VS L) (hBe : Below w.heap.size w w5) (h0 : w.heap.size ≤ gR) (h1 : gR < g) (BR : Box1 w5 gR 27 x) :
    Box1 (w5.setCell ⟨gR, 0, none⟩ V) gR 27 V ∧ FamL (w5.setCell ⟨gR, 0, none⟩ V) w.heap.size V VS L ∧ Below w.heap.size w (w5.setCell ⟨gR, 0, none⟩ V) :=
  ⟨BR.set V, (Fam.same hF fun q hq hlt => heap_setCell_other _ _ _ _ (by simp; omega)).base (by omega), hBe.setCell (p := ⟨gR, 0, none⟩) h0 V⟩

/-- The three structs of such a function: its arguments and its result. -/
structure Tri (w0 : World) (va vb : Value) (w : World) : Prop where
  bel : Below w0.heap.size w0 w
  bA : Box1 w w0.heap.size 27 va
  bB : Box1 w (w0.heap.size + 1) 27 vb
  bR : Box1 w (w0.heap.size + 1 + 1) 27 (.slice none 0 0)
theorem Tri.up {w0 w w' : World} {va vb : Value} (h : Tri w0 va vb w) (k : Below w.heap.size w w') : Tri w0 va vb w' := ⟨h.bel.step1 k, h.bA.up k, h.bB.up k, h.bR.up k⟩
theorem Tri.size {w0 w : World} {va vb : Value} (h : Tri w0 va vb w) : w0.heap.size + 3 ≤ w.heap.size := by have := h.bR.lt; omega
theorem Tri.start (w : World) (va vb : Value) : Tri w va vb (((w.alloc (.cells #[va] 27)).alloc (.cells #[vb] 27)).alloc (.cells #[.slice none 0 0] 27)) := by
  refine ⟨(((Below.refl w.heap.size w).alloc (Nat.le_refl _) _).alloc (by simp) _).alloc (by simp; omega) _, ((Box1.new w _ _).alloc _).alloc _, ?_, ?_⟩
  · have := (Box1.new (w.alloc (.cells #[va] 27)) 27 vb).alloc (.cells #[.slice none 0 0] 27)
    simpa using this
  · have := Box1.new ((w.alloc (.cells #[va] 27)).alloc (.cells #[vb] 27)) 27 (.slice none 0 0)
    simpa using this
/-- Two boxed arguments. -/
structure Two (w0 : World) (va vb : Value) (w : World) : Prop where
  bel : Below w0.heap.size w0 w
  bA : Box1 w w0.heap.size 27 va
  bB : Box1 w (w0.heap.size + 1) 27 vb
theorem Two.up {w0 w w' : World} {va vb : Value} (h : Two w0 va vb w) (k : Below w.heap.size w w') : Two w0 va vb w' := ⟨h.bel.step1 k, h.bA.up k, h.bB.up k⟩
theorem Two.start (w : World) (va vb : Value) : Two w va vb ((w.alloc (.cells #[va] 27)).alloc (.cells #[vb] 27)) := by
  refine ⟨((Below.refl w.heap.size w).alloc (Nat.le_refl _) _).alloc (by simp) _, (Box1.new w _ _).alloc _, ?_⟩
  have := Box1.new (w.alloc (.cells #[va] 27)) 27 vb
  simpa using this
/-- A call that answers a code and leaves what there was. -/
def SaysC (c : Int) (w : World) (e : Ending) (w' : World) : Prop := e = .returned (.int .i64 c) ∧ Below w.heap.size w w'

theorem l06Two_bad1 (aa ab : Option Addr) (m n capa capb : Nat) (w : World) (A : Hid (∀ wx, Below w.heap.size w wx → Calls Try.prog 51 #[.agg #[.slice aa m capa]] wx (SaysB false wx))) :
    Calls Try.prog 55 #[.agg #[.slice aa m capa], .agg #[.slice ab n capb]] w (SaysC 1 w) := by
  have t2 := Try.underlying27
  obtain ⟨w1, hw1⟩ : ∃ w1, w1 = ((w.alloc (.cells #[.slice aa m capa] 27)).alloc (.cells #[.slice ab n capb] 27)) := ⟨_, rfl⟩
  have T1 : Hid (Two w (.slice aa m capa) (.slice ab n capb) w1) := Lib.hid (by rw [hw1]; exact Two.start _ _ _)
  go_enter Try.func55, Try.ntmps55
  go_wp2_with fail
  rw [← hw1]
  clear hw1
  refine (A.out w1 T1.out.bel).mono ?_
  rintro e w2 ⟨rfl, b2⟩
  have T2 := Lib.hid (T1.out.up b2)
  clear b2 T1
  go_wp2_with fail
  go_ret
  exact ⟨rfl, T2.out.bel⟩
theorem l06Two_bad2 (aa ab : Option Addr) (m n capa capb : Nat) (w : World) (A : Hid (∀ wx, Below w.heap.size w wx → Calls Try.prog 51 #[.agg #[.slice aa m capa]] wx (SaysB true wx))) (B : Hid (∀ wx, Below w.heap.size w wx → Calls Try.prog 51 #[.agg #[.slice ab n capb]] wx (SaysB false wx))) :
    Calls Try.prog 55 #[.agg #[.slice aa m capa], .agg #[.slice ab n capb]] w (SaysC 1 w) := by
  have t2 := Try.underlying27
  obtain ⟨w1, hw1⟩ : ∃ w1, w1 = ((w.alloc (.cells #[.slice aa m capa] 27)).alloc (.cells #[.slice ab n capb] 27)) := ⟨_, rfl⟩
  have T1 : Hid (Two w (.slice aa m capa) (.slice ab n capb) w1) := Lib.hid (by rw [hw1]; exact Two.start _ _ _)
  go_enter Try.func55, Try.ntmps55
  go_wp2_with fail
  rw [← hw1]
  clear hw1
  refine (A.out w1 T1.out.bel).mono ?_
  rintro e w2 ⟨rfl, b2⟩
  have T2 := Lib.hid (T1.out.up b2)
  clear b2 T1
  have d1 := T2.out.bB.c
  go_wp2_with fail
  refine (B.out w2 T2.out.bel).mono ?_
  rintro e w3 ⟨rfl, b3⟩
  have T3 := Lib.hid (T2.out.up b3)
  clear b3 T2 d1
  go_wp2_with fail
  go_ret
  exact ⟨rfl, T3.out.bel⟩

/-- Both are dual elements: only the degrees are left. -/
theorem l06Two_ok (aa ab : Option Addr) (m n capa capb : Nat) (c : Int) (w : World) (A : Hid (∀ wx, Below w.heap.size w wx → Calls Try.prog 51 #[.agg #[.slice aa m capa]] wx (SaysB true wx))) (B : Hid (∀ wx, Below w.heap.size w wx → Calls Try.prog 51 #[.agg #[.slice ab n capb]] wx (SaysB true wx)))
    (D : (m = 0 ∧ c = 0) ∨ (0 < m ∧ n = 0 ∧ c = 0) ∨ (0 < m ∧ 0 < n ∧ ∃ b1 o1 b2 o2 v1 v2 x y, aa = some ⟨b1, o1, none⟩ ∧ ab = some ⟨b2, o2, none⟩ ∧ w.cell? ⟨b1, o1, none⟩ = some v1 ∧ w.cell? ⟨b2, o2, none⟩ = some v2 ∧ DegE w v1 x ∧ DegE w v2 y ∧ ((x = y ∧ c = 0) ∨ (x ≠ y ∧ c = 2)))) :
    Calls Try.prog 55 #[.agg #[.slice aa m capa], .agg #[.slice ab n capb]] w (SaysC c w) := by
  have t2 := Try.underlying27
  obtain ⟨w1, hw1⟩ : ∃ w1, w1 = ((w.alloc (.cells #[.slice aa m capa] 27)).alloc (.cells #[.slice ab n capb] 27)) := ⟨_, rfl⟩
  have T1 : Hid (Two w (.slice aa m capa) (.slice ab n capb) w1) := Lib.hid (by rw [hw1]; exact Two.start _ _ _)
  have D := Lib.hid D
  go_enter Try.func55, Try.ntmps55
  go_wp2_with fail
  rw [← hw1]
  clear hw1
  refine (A.out w1 T1.out.bel).mono ?_
  rintro e w2 ⟨rfl, b2⟩
  have T2 := Lib.hid (T1.out.up b2)
  clear b2 T1
  have d1 := T2.out.bB.c
  go_wp2_with fail
  refine (B.out w2 T2.out.bel).mono ?_
  rintro e w3 ⟨rfl, b3⟩
  have T3 := Lib.hid (T2.out.up b3)
  clear b3 T2 d1
  rcases D.out with ⟨rfl, rfl⟩ | ⟨hm, rfl, rfl⟩ | ⟨hm, hn, b1, o1, b2, o2, v1, v2, x, y, rfl, rfl, ca, cb, hx, hy, hxy⟩
  · clear D
    have d0 := T3.out.bA.c
    have d1 := T3.out.bB.c
    go_wp2_with fail
    go_quiet (fail)
    go_wp2_with fail
    go_ret
    exact ⟨rfl, below_drewN T3.out.bel _⟩
  · clear D
    have hm' : (0 : Int) < (m : Int) := by omega
    have d0 := T3.out.bA.c
    have d1 := T3.out.bB.c
    go_wp2_with fail
    go_quiet (fail)
    go_wp2_with fail
    go_ret
    exact ⟨rfl, below_drewN T3.out.bel _⟩
  · clear D
    have hm' : (0 : Int) < (m : Int) := by omega
    have hn' : (0 : Int) < (n : Int) := by omega
    have d0 := T3.out.bA.c
    have d1 := T3.out.bB.c
    have c1 : w3.cell? ⟨b1, o1, none⟩ = some v1 := (T3.out.bel.cell (p := ⟨b1, o1, none⟩) (World.block_lt_of_cell? w _ ca)).trans ca
    have c2 : w3.cell? ⟨b2, o2, none⟩ = some v2 := (T3.out.bel.cell (p := ⟨b2, o2, none⟩) (World.block_lt_of_cell? w _ cb)).trans cb
    have p1 : Hid (DegE w3 v1 x) := Lib.hid (hx.below T3.out.bel)
    have p2 : Hid (DegE w3 v2 y) := Lib.hid (hy.below T3.out.bel)
    clear ca cb hx hy
    rcases hxy with ⟨rfl, rfl⟩ | ⟨hne, rfl⟩
    · have hb : (x != x) = false := bne_self_eq_false _
      go_wp2_with fail
      go_quiet ((go_at_call 68; exact Calls.quiet_of (l01Degree_is (by assumption) _)))
      clear c1 c2
      go_wp2_with fail
      go_ret
      exact ⟨rfl, below_drewN T3.out.bel _⟩
    · have hb : (x != y) = true := by rw [bne_iff_ne]; exact hne
      clear hne
      go_wp2_with fail
      go_quiet ((go_at_call 68; exact Calls.quiet_of (l01Degree_is (by assumption) _)))
      clear c1 c2
      go_wp2_with fail
      go_ret
      exact ⟨rfl, below_drewN T3.out.bel _⟩

theorem l06Fit_yes (a : Option Addr) (n cap : Nat) (w : World) (h : n ≤ 2000) :
    Calls Try.prog 56 #[.slice a n cap] w fun e w' => e = .returned (.tuple #[.agg #[.slice a n cap], .int .i64 0]) ∧ Below w.heap.size w w' := by
  have t2 := Try.underlying27
  have h1 : ¬ (2000 : Int) < (n : Int) := by omega
  have E : Box1 (w.alloc (.cells #[.slice a n cap] 27)) w.heap.size 27 (.slice a n cap) := Box1.new w _ _
  have E := Lib.hid E
  have B0 : Hid (Below w.heap.size w (w.alloc (.cells #[.slice a n cap] 27))) := Lib.hid ((Below.refl _ w).alloc (Nat.le_refl _) _)
  clear h
  go_enter Try.func56, Try.ntmps56
  go_wp2_with fail
  refine bodyPost_ret (results_box1_tmp rfl _ _ w.heap.size _ _ rfl E.out t2 (by kernel_rfl)) rfl ?_
  exact ⟨rfl, B0.out⟩

theorem specAddD_no (aa ab : Option Addr) (m n capa capb : Nat) (c : Int) (w : World) (hc : (c != 0) = true) (A : Hid (∀ wx, Below w.heap.size w wx → Calls Try.prog 55 #[.agg #[.slice aa m capa], .agg #[.slice ab n capb]] wx (SaysC c wx))) :
    Calls Try.prog 16 #[.agg #[.slice aa m capa], .agg #[.slice ab n capb]] w (ResS [] c w) := by
  have t2 := Try.underlying27
  obtain ⟨w1, hw1⟩ : ∃ w1, w1 = (((w.alloc (.cells #[.slice aa m capa] 27)).alloc (.cells #[.slice ab n capb] 27)).alloc (.cells #[.slice none 0 0] 27)) := ⟨_, rfl⟩
  have T1 : Hid (Tri w (.slice aa m capa) (.slice ab n capb) w1) := Lib.hid (by rw [hw1]; exact Tri.start _ _ _)
  go_enter Try.func16, Try.ntmps16
  go_wp2_with fail
  rw [← hw1]
  clear hw1
  have d0 := T1.out.bA.c
  have d1 := T1.out.bB.c
  go_wp2_with fail
  refine (A.out w1 T1.out.bel).mono ?_
  rintro e w2 ⟨rfl, b2⟩
  have T2 := Lib.hid (T1.out.up b2)
  clear b2 T1 d0 d1
  have dR := T2.out.bR.c
  have fR := T2.out.bR.fr 0
  go_wp2_with fail
  have FIN := finD (w := w) (famNil _ (w.heap.size + 1 + 1 + 1)) T2.out.bel (by omega) (by omega) T2.out.bR
  refine bodyPost_ret (results_box1_tmp rfl _ _ (w.heap.size + 1 + 1) _ _ rfl FIN.1 t2 (by kernel_rfl)) rfl ?_
  exact ⟨_, _, rfl, FIN.2.1, sepNil, FIN.2.2⟩

set_option maxHeartbeats 1000000 in
theorem specAddD_ok (aa ab : Option Addr) (m n capa capb : Nat) (w : World) (A : Hid (∀ wx, Below w.heap.size w wx → Calls Try.prog 55 #[.agg #[.slice aa m capa], .agg #[.slice ab n capb]] wx (SaysC 0 wx)))
    (L : List (List Int)) (hL : L.length ≤ 200) (h20 : ∀ i, (rowsOf L i).length ≤ 20) (S : Hid (∀ wx, Below w.heap.size w wx → Calls Try.prog 58 #[.slice aa m capa, .slice ab n capb] wx fun e w' => ∃ V VS, e = .returned V ∧ FamL w' wx.heap.size V VS L ∧ Sep L.length VS ∧ Below wx.heap.size wx w')) :
    Calls Try.prog 16 #[.agg #[.slice aa m capa], .agg #[.slice ab n capb]] w (ResS L 0 w) := by
  have t2 := Try.underlying27
  obtain ⟨w1, hw1⟩ : ∃ w1, w1 = (((w.alloc (.cells #[.slice aa m capa] 27)).alloc (.cells #[.slice ab n capb] 27)).alloc (.cells #[.slice none 0 0] 27)) := ⟨_, rfl⟩
  have T1 : Hid (Tri w (.slice aa m capa) (.slice ab n capb) w1) := Lib.hid (by rw [hw1]; exact Tri.start _ _ _)
  have HL := Lib.hid hL
  have H20 := Lib.hid h20
  clear hL h20
  go_enter Try.func16, Try.ntmps16
  go_wp2_with fail
  rw [← hw1]
  clear hw1
  have d0 := T1.out.bA.c
  have d1 := T1.out.bB.c
  go_wp2_with fail
  refine (A.out w1 T1.out.bel).mono ?_
  rintro e w2 ⟨rfl, b2⟩
  have T2 := Lib.hid (T1.out.up b2)
  clear b2 T1 d0 d1
  have d0 := T2.out.bA.c
  have d1 := T2.out.bB.c
  go_wp2_with fail
  refine (S.out w2 T2.out.bel).mono ?_
  rintro e w3 ⟨V3, U3, rfl, f3, s3, b3⟩
  have T3 := Lib.hid (T2.out.up b3)
  have F3 := Lib.hid f3
  clear b3 T2 d0 d1 f3 s3
  go_wp2_with fail
  refine (l01Own2_any V3 L.length _ U3 (rowsOf L) w3 F3.out (by have := HL.out; omega) (fun i hi => by have := H20.out i; omega)).mono ?_
  rintro e w4 ⟨V4, U4, rfl, f4, s4, b4⟩
  rw [rowsL_ofD] at f4 s4
  have T4 := Lib.hid (T3.out.up b4)
  obtain ⟨av, cv, rfl, _, _⟩ := Fam.head f4
  have F4 := Lib.hid f4
  have S4 := Lib.hid s4
  have hsz := T3.out.size
  clear b4 T3 F3 f4 s4
  go_wp2_with fail
  refine (l06Fit_yes av L.length cv w4 (by have := HL.out; omega)).mono ?_
  rintro e w5 ⟨rfl, b5⟩
  have T5 := Lib.hid (T4.out.up b5)
  have F5 := Lib.hid (Fam.below F4.out b5)
  clear b5 T4 F4
  have c6 : Below w5.heap.size w5 (w5.alloc (.cells #[.slice av L.length cv] 27)) := (Below.refl _ _).alloc (Nat.le_refl _) _
  have T6 := Lib.hid (T5.out.up c6)
  have F6 := Lib.hid (Fam.below F5.out c6)
  clear c6 T5 F5
  have dR := T6.out.bR.c
  have fR := T6.out.bR.fr 0
  have FIN := Lib.hid (finD (w := w) F6.out T6.out.bel (by omega) (by omega) T6.out.bR)
  go_wp2_with fail
  refine bodyPost_ret (results_box1_tmp rfl _ _ (w.heap.size + 1 + 1) _ _ rfl FIN.out.1 t2 (by kernel_rfl)) rfl ?_
  exact ⟨_, _, rfl, FIN.out.2.1, S4.out, FIN.out.2.2⟩

set_option maxHeartbeats 1000000 in
theorem implAddD_any (aa ab : Option Addr) (m n capa capb : Nat) (w : World) (L : List (List Int)) (cd : Int) (A : Hid (∀ wx, Below w.heap.size w wx → Calls Try.prog 59 #[.agg #[.slice aa m capa], .agg #[.slice ab n capb]] wx (ResS L cd wx))) :
    Calls Try.prog 17 #[.agg #[.slice aa m capa], .agg #[.slice ab n capb]] w (ResS L cd w) := by
  have t2 := Try.underlying27
  have t3 := Try.underlying45
  obtain ⟨w1, hw1⟩ : ∃ w1, w1 = (((w.alloc (.cells #[.slice aa m capa] 27)).alloc (.cells #[.slice ab n capb] 27)).alloc (.cells #[.slice none 0 0] 27)) := ⟨_, rfl⟩
  have T1 : Hid (Tri w (.slice aa m capa) (.slice ab n capb) w1) := Lib.hid (by rw [hw1]; exact Tri.start _ _ _)
  go_enter Try.func17, Try.ntmps17
  go_wp2_with fail
  rw [← hw1]
  clear hw1
  have d0 := T1.out.bA.c
  have d1 := T1.out.bB.c
  have hsz := T1.out.size
  go_wp2_with fail
  refine (A.out w1 T1.out.bel).mono ?_
  rintro e w5 ⟨V5, U5, rfl, f5, s5, b5⟩
  obtain ⟨av, cv, rfl, _, _⟩ := Fam.head f5
  have T5 := Lib.hid (T1.out.up b5)
  have F5 := Lib.hid f5
  have S5 := Lib.hid s5
  clear b5 T1 d0 d1 f5 s5
  have c6 : Below w5.heap.size w5 (w5.alloc (.cells #[.slice av L.length cv] 45)) := (Below.refl _ _).alloc (Nat.le_refl _) _
  have T6 := Lib.hid (T5.out.up c6)
  have F6 := Lib.hid (Fam.below F5.out c6)
  clear c6 T5 F5
  have dR := T6.out.bR.c
  have fR := T6.out.bR.fr 0
  have FIN := Lib.hid (finD (w := w) F6.out T6.out.bel (by omega) (by omega) T6.out.bR)
  go_wp2_with fail
  refine bodyPost_ret (results_box1_tmp rfl _ _ (w.heap.size + 1 + 1) _ _ rfl FIN.out.1 t2 (by kernel_rfl)) rfl ?_
  exact ⟨_, _, rfl, FIN.out.2.1, S5.out, FIN.out.2.2⟩
end Go.Proofs.Ytnmilkehggjpfaa.Dl
end
section
namespace Go.Proofs.Ytnmilkehggjpfaa.Dl
open Go.RowKit Go.Proofs.Ytnmilkehggjpfaa.Ml
set_option linter.unusedVariables false
set_option maxRecDepth 100000

abbrev IsD (r : Bool) (a : Option Addr) (m cap : Nat) (w : World) : Prop := Hid (∀ wx, Below w.heap.size w wx → Calls Try.prog 51 #[.agg #[.slice a m cap]] wx (SaysB r wx))

theorem specMulD_bad1 (aa ab : Option Addr) (m n capa capb : Nat) (w : World) (A : IsD false aa m capa w) :
    Calls Try.prog 30 #[.agg #[.slice aa m capa], .agg #[.slice ab n capb]] w (ResS [] 1 w) := by
  have t2 := Try.underlying27
  obtain ⟨w1, hw1⟩ : ∃ w1, w1 = (((w.alloc (.cells #[.slice aa m capa] 27)).alloc (.cells #[.slice ab n capb] 27)).alloc (.cells #[.slice none 0 0] 27)) := ⟨_, rfl⟩
  have T1 : Hid (Tri w (.slice aa m capa) (.slice ab n capb) w1) := Lib.hid (by rw [hw1]; exact Tri.start _ _ _)
  go_enter Try.func30, Try.ntmps30
  go_upto_region 1 with fail
  rw [← hw1]
  clear hw1
  have d0 := T1.out.bA.c
  go_wp2_with fail
  refine (A.out w1 T1.out.bel).mono ?_
  rintro e w2 ⟨rfl, b2⟩
  have T2 := Lib.hid (T1.out.up b2)
  clear b2 T1 d0
  have dR := T2.out.bR.c
  have fR := T2.out.bR.fr 0
  go_wp2_with fail
  have FIN := finD (w := w) (famNil _ (w.heap.size + 1 + 1 + 1)) T2.out.bel (by omega) (by omega) T2.out.bR
  refine bodyPost_ret (results_box1_tmp rfl _ _ (w.heap.size + 1 + 1) _ _ rfl FIN.1 t2 (by kernel_rfl)) rfl ?_
  exact ⟨_, _, rfl, FIN.2.1, sepNil, FIN.2.2⟩
theorem specMulD_bad2 (aa ab : Option Addr) (m n capa capb : Nat) (w : World) (A : IsD true aa m capa w) (B : IsD false ab n capb w) :
    Calls Try.prog 30 #[.agg #[.slice aa m capa], .agg #[.slice ab n capb]] w (ResS [] 1 w) := by
  have t2 := Try.underlying27
  obtain ⟨w1, hw1⟩ : ∃ w1, w1 = (((w.alloc (.cells #[.slice aa m capa] 27)).alloc (.cells #[.slice ab n capb] 27)).alloc (.cells #[.slice none 0 0] 27)) := ⟨_, rfl⟩
  have T1 : Hid (Tri w (.slice aa m capa) (.slice ab n capb) w1) := Lib.hid (by rw [hw1]; exact Tri.start _ _ _)
  go_enter Try.func30, Try.ntmps30
  go_upto_region 1 with fail
  rw [← hw1]
  clear hw1
  have d0 := T1.out.bA.c
  go_wp2_with fail
  refine (A.out w1 T1.out.bel).mono ?_
  rintro e w2 ⟨rfl, b2⟩
  have T2 := Lib.hid (T1.out.up b2)
  clear b2 T1 d0
  have d1 := T2.out.bB.c
  go_wp2_with fail
  refine (B.out w2 T2.out.bel).mono ?_
  rintro e w3 ⟨rfl, b3⟩
  have T3 := Lib.hid (T2.out.up b3)
  clear b3 T2 d1
  have dR := T3.out.bR.c
  have fR := T3.out.bR.fr 0
  go_wp2_with fail
  have FIN := finD (w := w) (famNil _ (w.heap.size + 1 + 1 + 1)) T3.out.bel (by omega) (by omega) T3.out.bR
  refine bodyPost_ret (results_box1_tmp rfl _ _ (w.heap.size + 1 + 1) _ _ rfl FIN.1 t2 (by kernel_rfl)) rfl ?_
  exact ⟨_, _, rfl, FIN.2.1, sepNil, FIN.2.2⟩

set_option maxHeartbeats 1000000 in
theorem specMulD_zero (aa ab : Option Addr) (m n capa capb : Nat) (w : World) (A : IsD true aa m capa w) (B : IsD true ab n capb w) (h0 : m = 0 ∨ (0 < m ∧ n = 0)) :
    Calls Try.prog 30 #[.agg #[.slice aa m capa], .agg #[.slice ab n capb]] w (ResS [] 0 w) := by
  have t2 := Try.underlying27
  obtain ⟨w1, hw1⟩ : ∃ w1, w1 = (((w.alloc (.cells #[.slice aa m capa] 27)).alloc (.cells #[.slice ab n capb] 27)).alloc (.cells #[.slice none 0 0] 27)) := ⟨_, rfl⟩
  have T1 : Hid (Tri w (.slice aa m capa) (.slice ab n capb) w1) := Lib.hid (by rw [hw1]; exact Tri.start _ _ _)
  have H0 := Lib.hid h0
  clear h0
  go_enter Try.func30, Try.ntmps30
  go_upto_region 1 with fail
  rw [← hw1]
  clear hw1
  have d0 := T1.out.bA.c
  go_wp2_with fail
  refine (A.out w1 T1.out.bel).mono ?_
  rintro e w2 ⟨rfl, b2⟩
  have T2 := Lib.hid (T1.out.up b2)
  clear b2 T1 d0
  have d1 := T2.out.bB.c
  go_wp2_with fail
  refine (B.out w2 T2.out.bel).mono ?_
  rintro e w3 ⟨rfl, b3⟩
  have T3 := Lib.hid (T2.out.up b3)
  clear b3 T2 d1
  have d0 := T3.out.bA.c
  have d1 := T3.out.bB.c
  have dR := T3.out.bR.c
  have fR := T3.out.bR.fr 0
  rcases H0.out with rfl | ⟨hm, rfl⟩
  · clear H0
    go_wp2_with fail
    have FIN := finD (w := w) (famNil _ (w.heap.size + 1 + 1 + 1)) T3.out.bel (by omega) (by omega) T3.out.bR
    refine bodyPost_ret (results_box1_tmp rfl _ _ (w.heap.size + 1 + 1) _ _ rfl FIN.1 t2 (by kernel_rfl)) rfl ?_
    exact ⟨_, _, rfl, FIN.2.1, sepNil, FIN.2.2⟩
  · clear H0
    have hz : ((m : Int) == 0) = false := by rw [beq_eq_false_iff_ne]; omega
    clear hm
    go_wp2_with fail
    have FIN := finD (w := w) (famNil _ (w.heap.size + 1 + 1 + 1)) T3.out.bel (by omega) (by omega) T3.out.bR
    refine bodyPost_ret (results_box1_tmp rfl _ _ (w.heap.size + 1 + 1) _ _ rfl FIN.1 t2 (by kernel_rfl)) rfl ?_
    exact ⟨_, _, rfl, FIN.2.1, sepNil, FIN.2.2⟩

set_option maxHeartbeats 2000000 in
theorem specMulD_deg (m n capa capb : Nat) (w : World) (b1 o1 b2 o2 : Nat) (v1 v2 : Value) (x y : Int) (c1 : w.cell? ⟨b1, o1, none⟩ = some v1) (c2 : w.cell? ⟨b2, o2, none⟩ = some v2) (D1 : DegE w v1 x) (D2 : DegE w v2 y) (hx : 0 ≤ x ∧ x ≤ 40) (hy : 0 ≤ y ∧ y ≤ 40) (hm : 0 < m) (hn : 0 < n)
    (A : IsD true (some ⟨b1, o1, none⟩) m capa w) (B : IsD true (some ⟨b2, o2, none⟩) n capb w) (L : List (List Int)) (c : Int)
    (H : (40 < x + y ∧ c = 3 ∧ L = []) ∨ (¬ 40 < x + y ∧ c = 0 ∧ L.length ≤ 82 ∧ ∀ wx, Below w.heap.size w wx → Calls Try.prog 69 #[.slice (some ⟨b1, o1, none⟩) m capa, .slice (some ⟨b2, o2, none⟩) n capb] wx (LPost L wx))) :
    Calls Try.prog 30 #[.agg #[.slice (some ⟨b1, o1, none⟩) m capa], .agg #[.slice (some ⟨b2, o2, none⟩) n capb]] w (ResS L c w) := by
  have t2 := Try.underlying27
  obtain ⟨w1, hw1⟩ : ∃ w1, w1 = (((w.alloc (.cells #[.slice (some ⟨b1, o1, none⟩) m capa] 27)).alloc (.cells #[.slice (some ⟨b2, o2, none⟩) n capb] 27)).alloc (.cells #[.slice none 0 0] 27)) := ⟨_, rfl⟩
  have T1 : Hid (Tri w (.slice (some ⟨b1, o1, none⟩) m capa) (.slice (some ⟨b2, o2, none⟩) n capb) w1) := Lib.hid (by rw [hw1]; exact Tri.start _ _ _)
  have H := Lib.hid H
  have C1 := Lib.hid c1
  have C2 := Lib.hid c2
  have D1 := Lib.hid D1
  have D2 := Lib.hid D2
  clear c1 c2
  go_enter Try.func30, Try.ntmps30
  go_upto_region 1 with fail
  rw [← hw1]
  clear hw1
  have d0 := T1.out.bA.c
  go_wp2_with fail
  refine (A.out w1 T1.out.bel).mono ?_
  rintro e w2 ⟨rfl, b2⟩
  have T2 := Lib.hid (T1.out.up b2)
  clear b2 T1 d0
  have d1 := T2.out.bB.c
  go_wp2_with fail
  refine (B.out w2 T2.out.bel).mono ?_
  rintro e w3 ⟨rfl, b3⟩
  have T3 := Lib.hid (T2.out.up b3)
  clear b3 T2 d1
  have d0 := T3.out.bA.c
  have d1 := T3.out.bB.c
  have hz : ((m : Int) == 0) = false := by rw [beq_eq_false_iff_ne]; omega
  have hz2 : ((n : Int) == 0) = false := by rw [beq_eq_false_iff_ne]; omega
  have hm' : (0 : Int) < (m : Int) := by omega
  have hn' : (0 : Int) < (n : Int) := by omega
  have c1 : w3.cell? ⟨b1, o1, none⟩ = some v1 := (T3.out.bel.cell (p := ⟨b1, o1, none⟩) (World.block_lt_of_cell? w _ C1.out)).trans C1.out
  have c2 : w3.cell? ⟨b2, o2, none⟩ = some v2 := (T3.out.bel.cell (p := ⟨b2, o2, none⟩) (World.block_lt_of_cell? w _ C2.out)).trans C2.out
  have p1 : Hid (DegE w3 v1 x) := Lib.hid (D1.out.below T3.out.bel)
  have p2 : Hid (DegE w3 v2 y) := Lib.hid (D2.out.below T3.out.bel)
  have hw : wrap64 (x + y) = x + y := wrap_same (by omega) (by omega)
  have hwi : IntKind.i64.wrap (x + y) = x + y := by rw [IntKind.wrap_i64]; omega
  clear hm hn
  rcases H.out with ⟨h40, rfl, rfl⟩ | ⟨h40, rfl, hL, ST⟩
  · clear H
    go_wp2_with fail
    go_quiet ((go_at_call 68; exact Calls.quiet_of (l01Degree_is (by assumption) _)))
    have T4 : Hid (Tri w (.slice (some ⟨b1, o1, none⟩) m capa) (.slice (some ⟨b2, o2, none⟩) n capb) (w3.drewN nq)) := Lib.hid (T3.out.up (below_drewN (Below.refl _ _) nq))
    have dR := T4.out.bR.c
    have fR := T4.out.bR.fr 0
    clear c1 c2 d0 d1
    go_wp2_with fail
    have FIN := finD (w := w) (famNil _ (w.heap.size + 1 + 1 + 1)) T4.out.bel (by omega) (by omega) T4.out.bR
    refine bodyPost_ret (results_box1_tmp rfl _ _ (w.heap.size + 1 + 1) _ _ rfl FIN.1 t2 (by kernel_rfl)) rfl ?_
    exact ⟨_, _, rfl, FIN.2.1, sepNil, FIN.2.2⟩
  · clear H
    have ST := Lib.hid ST
    go_wp2_with fail
    go_quiet ((go_at_call 68; exact Calls.quiet_of (l01Degree_is (by assumption) _)))
    have T4 : Hid (Tri w (.slice (some ⟨b1, o1, none⟩) m capa) (.slice (some ⟨b2, o2, none⟩) n capb) (w3.drewN nq)) := Lib.hid (T3.out.up (below_drewN (Below.refl _ _) nq))
    clear c1 c2 d0 d1 p1 p2 T3
    have d0 := T4.out.bA.c
    have d1 := T4.out.bB.c
    go_wp2_with fail
    refine (ST.out _ T4.out.bel).mono ?_
    rintro e w5 ⟨V5, U5, rfl, f5, s5, b5⟩
    obtain ⟨av, cv, rfl, _, _⟩ := Fam.head f5
    have T5 := Lib.hid (T4.out.up b5)
    have F5 := Lib.hid f5
    have S5 := Lib.hid s5
    have hsz := T4.out.size
    clear f5 s5 b5 T4 d0 d1
    go_wp2_with fail
    refine (l06Fit_yes av L.length cv w5 (by omega)).mono ?_
    rintro e w6 ⟨rfl, b6⟩
    have T6 := Lib.hid (T5.out.up b6)
    have F6 := Lib.hid (Fam.below F5.out b6)
    clear b6 T5 F5
    have c7 : Below w6.heap.size w6 (w6.alloc (.cells #[.slice av L.length cv] 27)) := (Below.refl _ _).alloc (Nat.le_refl _) _
    have T7 := Lib.hid (T6.out.up c7)
    have F7 := Lib.hid (Fam.below F6.out c7)
    clear c7 T6 F6
    have dR := T7.out.bR.c
    have fR := T7.out.bR.fr 0
    have FIN := Lib.hid (finD (w := w) F7.out T7.out.bel (by omega) (by omega) T7.out.bR)
    go_wp2_with fail
    refine bodyPost_ret (results_box1_tmp rfl _ _ (w.heap.size + 1 + 1) _ _ rfl FIN.out.1 t2 (by kernel_rfl)) rfl ?_
    exact ⟨_, _, rfl, FIN.out.2.1, S5.out, FIN.out.2.2⟩
end Go.Proofs.Ytnmilkehggjpfaa.Dl
end
