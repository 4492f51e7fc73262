/-
  spec.l04Same, spec.l04Add, the method plus. Written by tool/gen_nadd.py.
-/
import Derived.Test.YtachdmklkkakbaaNIsI
import Derived.Deep.RegionWith
import Derived.Test.YtachdmklkkakbaaNRes
namespace Go.Proofs.Ytachdmklkkakbaa.Ml
open Go.RowKit
set_option linter.unusedVariables false
set_option maxRecDepth 100000

/-- The result's struct is written. -/
theorem finS {w w5 : World} {g gR : Nat} {V x : Value} {VS : Nat → Value} {L : List (List Int)} (hF : FamL w5 g V VS L) (hBe : Below w.heap.size w w5) (h0 : w.heap.size ≤ gR) (h1 : gR < g) (BR : Box1 w5 gR 27 x) :
    Box1 (w5.setCell ⟨gR, 0, none⟩ V) gR 27 V ∧ FamL (w5.setCell ⟨gR, 0, none⟩ V) w.heap.size V VS L ∧ Below w.heap.size w (w5.setCell ⟨gR, 0, none⟩ V) :=
  ⟨BR.set V, (Fam.same hF fun q hq hlt => heap_setCell_other _ _ _ _ (by simp; omega)).base (by omega), hBe.setCell (p := ⟨gR, 0, none⟩) h0 V⟩

/-- The three structs of such a function: its arguments and its result. -/
structure Tri (w0 : World) (va vb : Value) (w : World) : Prop where
  bel : Below w0.heap.size w0 w
  bA : Box1 w w0.heap.size 27 va
  bB : Box1 w (w0.heap.size + 1) 27 vb
  bR : Box1 w (w0.heap.size + 1 + 1) 27 (.slice none 0 0)
theorem Tri.up {w0 w w' : World} {va vb : Value} (h : Tri w0 va vb w) (k : Below w.heap.size w w') : Tri w0 va vb w' := ⟨h.bel.step1 k, h.bA.up k, h.bB.up k, h.bR.up k⟩
theorem Tri.drewN {w0 w : World} {va vb : Value} (h : Tri w0 va vb w) (q : Nat) : Tri w0 va vb (w.drewN q) := ⟨below_drewN h.bel q, h.bA, h.bB, h.bR⟩
theorem Tri.size {w0 w : World} {va vb : Value} (h : Tri w0 va vb w) : w0.heap.size + 3 ≤ w.heap.size := by have := h.bR.lt; omega
theorem Tri.start (w : World) (va vb : Value) : Tri w va vb (((w.alloc (.cells #[va] 27)).alloc (.cells #[vb] 27)).alloc (.cells #[.slice none 0 0] 27)) := by
  refine ⟨(((Below.refl w.heap.size w).alloc (Nat.le_refl _) _).alloc (by simp) _).alloc (by simp; omega) _, ((Box1.new w _ _).alloc _).alloc _, ?_, ?_⟩
  · have := (Box1.new (w.alloc (.cells #[va] 27)) 27 vb).alloc (.cells #[.slice none 0 0] 27)
    simpa using this
  · have := Box1.new ((w.alloc (.cells #[va] 27)).alloc (.cells #[vb] 27)) 27 (.slice none 0 0)
    simpa using this
/-- Two boxed arguments. -/
structure Two (w0 : World) (va vb : Value) (w : World) : Prop where
  bel : Below w0.heap.size w0 w
  bA : Box1 w w0.heap.size 27 va
  bB : Box1 w (w0.heap.size + 1) 27 vb
theorem Two.start (w : World) (va vb : Value) : Two w va vb ((w.alloc (.cells #[va] 27)).alloc (.cells #[vb] 27)) := by
  refine ⟨((Below.refl w.heap.size w).alloc (Nat.le_refl _) _).alloc (by simp) _, (Box1.new w _ _).alloc _, ?_⟩
  have := Box1.new (w.alloc (.cells #[va] 27)) 27 vb
  simpa using this

theorem isE_wf {xs : List Int} (h : isE xs) : ∀ z ∈ xs, (Lit.int .i64 z).wf = true := by
  intro z hz
  obtain ⟨i, hi, e⟩ := List.getElem_of_mem hz
  have h1 := h.2.2 i hi
  unfold gOf at h1
  rw [List.getElem?_eq_getElem hi] at h1
  simp only [Option.getD_some] at h1
  rw [e] at h1
  exact (Bool.and_eq_true _ _).mpr ⟨decide_eq_true (by omega : (-9223372036854775808 : Int) ≤ z), decide_eq_true (by omega : z ≤ (9223372036854775807 : Int))⟩

theorem l04Same_0 (aa : Option Addr) (ab : Option Addr) (n : Nat) (capa capb : Nat) (w : World) :
    Calls Try.prog 49 #[.agg #[.slice aa 0 capa], .agg #[.slice ab n capb]] w (SaysB true w) := by
  have t2 := Try.underlying27
  obtain ⟨w1, hw1⟩ : ∃ w1, w1 = ((w.alloc (.cells #[.slice aa 0 capa] 27)).alloc (.cells #[.slice ab n capb] 27)) := ⟨_, rfl⟩
  have T1 : Hid (Two w (.slice aa 0 capa) (.slice ab n capb) w1) := Lib.hid (by rw [hw1]; exact Two.start _ _ _)
  go_enter Try.func49, Try.ntmps49
  go_wp2_with fail
  rw [← hw1]
  clear hw1
  have d0 := T1.out.bA.c
  have d1 := T1.out.bB.c
  go_wp2_with fail
  go_quiet (fail)
  go_wp2_with fail
  go_ret
  exact ⟨rfl, below_drewN T1.out.bel _⟩

theorem l04Same_1 (aa : Option Addr) (ab : Option Addr) (m : Nat) (capa capb : Nat) (w : World) (hm : 0 < m) :
    Calls Try.prog 49 #[.agg #[.slice aa m capa], .agg #[.slice ab 0 capb]] w (SaysB true w) := by
  have t2 := Try.underlying27
  have hz : ((m : Int) == 0) = false := by rw [beq_eq_false_iff_ne]; omega
  clear hm
  obtain ⟨w1, hw1⟩ : ∃ w1, w1 = ((w.alloc (.cells #[.slice aa m capa] 27)).alloc (.cells #[.slice ab 0 capb] 27)) := ⟨_, rfl⟩
  have T1 : Hid (Two w (.slice aa m capa) (.slice ab 0 capb) w1) := Lib.hid (by rw [hw1]; exact Two.start _ _ _)
  go_enter Try.func49, Try.ntmps49
  go_wp2_with fail
  rw [← hw1]
  clear hw1
  have d0 := T1.out.bA.c
  have d1 := T1.out.bB.c
  go_wp2_with fail
  go_quiet (fail)
  go_wp2_with fail
  go_ret
  exact ⟨rfl, below_drewN T1.out.bel _⟩

theorem l04Same_2 (m n capa capb : Nat) (w : World) (b1 o1 b2 o2 : Nat) (v1 v2 : Value) (x y : Int) (ca : w.cell? ⟨b1, o1, none⟩ = some v1) (cb : w.cell? ⟨b2, o2, none⟩ = some v2) (hx : DegE w v1 x) (hy : DegE w v2 y) (hm : 0 < m) (hn : 0 < n) (r : Bool) (hr : (x == y) = r) :
    Calls Try.prog 49 #[.agg #[.slice (some ⟨b1, o1, none⟩) m capa], .agg #[.slice (some ⟨b2, o2, none⟩) n capb]] w (SaysB r w) := by
  have t2 := Try.underlying27
  have hz : ((m : Int) == 0) = false := by rw [beq_eq_false_iff_ne]; omega
  have hz2 : ((n : Int) == 0) = false := by rw [beq_eq_false_iff_ne]; omega
  have hm' : (0 : Int) < (m : Int) := by omega
  have hn' : (0 : Int) < (n : Int) := by omega
  have CA := Lib.hid ca
  have CB := Lib.hid cb
  have HX := Lib.hid hx
  have HY := Lib.hid hy
  clear ca cb hx hy hm hn
  obtain ⟨w1, hw1⟩ : ∃ w1, w1 = ((w.alloc (.cells #[.slice (some ⟨b1, o1, none⟩) m capa] 27)).alloc (.cells #[.slice (some ⟨b2, o2, none⟩) n capb] 27)) := ⟨_, rfl⟩
  have T1 : Hid (Two w (.slice (some ⟨b1, o1, none⟩) m capa) (.slice (some ⟨b2, o2, none⟩) n capb) w1) := Lib.hid (by rw [hw1]; exact Two.start _ _ _)
  go_enter Try.func49, Try.ntmps49
  go_wp2_with fail
  rw [← hw1]
  clear hw1
  have d0 := T1.out.bA.c
  have d1 := T1.out.bB.c
  have c1 : w1.cell? ⟨b1, o1, none⟩ = some v1 := (T1.out.bel.cell (p := ⟨b1, o1, none⟩) (World.block_lt_of_cell? w _ CA.out)).trans CA.out
  have c2 : w1.cell? ⟨b2, o2, none⟩ = some v2 := (T1.out.bel.cell (p := ⟨b2, o2, none⟩) (World.block_lt_of_cell? w _ CB.out)).trans CB.out
  have p1 : Hid (DegE w1 v1 x) := Lib.hid (HX.out.below T1.out.bel)
  have p2 : Hid (DegE w1 v2 y) := Lib.hid (HY.out.below T1.out.bel)
  go_wp2_with fail
  go_quiet ((go_at_call 61; exact Calls.quiet_of (l01Degree_is (by assumption) _)))
  clear c1 c2
  go_wp2_with fail
  go_ret
  exact ⟨rfl, below_drewN T1.out.bel _⟩

theorem l04Add_any (va vb : Value) (L : List (List Int)) (w : World) (S : Hid (Calls Try.prog 59 #[va, vb] w fun e w' => ∃ V VS, e = .returned V ∧ FamL w' w.heap.size V VS L ∧ Sep L.length VS ∧ Below w.heap.size w w')) :
    Calls Try.prog 50 #[va, vb] w fun e w' => ∃ V VS, e = .returned V ∧ FamL w' w.heap.size V VS L ∧ Sep L.length VS ∧ Below w.heap.size w w' := by
  go_enter Try.func50, Try.ntmps50
  go_wp2_with fail
  refine S.out.mono ?_
  rintro e w5 ⟨V, VS, rfl, hF, hS, hb5⟩
  have HF := Lib.hid hF
  have HS := Lib.hid hS
  have HB := Lib.hid hb5
  clear hF hS hb5
  go_wp2_with fail
  go_ret
  exact ⟨V, VS, rfl, HF.out, HS.out, HB.out⟩

/-- A struct of lists as a result. -/
def ResT (L : List (List Int)) (w : World) (e : Ending) (w' : World) : Prop :=
  ∃ V VS, e = .returned (.agg #[V]) ∧ FamL w' w.heap.size V VS L ∧ Sep L.length VS ∧ Below w.heap.size w w'

theorem plus_any (aa ab : Option Addr) (m n capa capb : Nat) (w : World) (L : List (List Int)) (S : Hid (∀ wx, Below w.heap.size w wx → Calls Try.prog 73 #[.slice aa m capa, .slice ab n capb] wx fun e w' => ∃ V VS, e = .returned V ∧ FamL w' wx.heap.size V VS L ∧ Sep L.length VS ∧ Below wx.heap.size wx w')) :
    Calls Try.prog 52 #[.agg #[.slice aa m capa], .agg #[.slice ab n capb]] w (ResT L w) := by
  have t2 := Try.underlying27
  obtain ⟨w1, hw1⟩ : ∃ w1, w1 = (((w.alloc (.cells #[.slice aa m capa] 27)).alloc (.cells #[.slice ab n capb] 27)).alloc (.cells #[.slice none 0 0] 27)) := ⟨_, rfl⟩
  have T1 : Hid (Tri w (.slice aa m capa) (.slice ab n capb) w1) := Lib.hid (by rw [hw1]; exact Tri.start _ _ _)
  go_enter Try.func52, Try.ntmps52
  go_wp2_with fail
  rw [← hw1]
  clear hw1
  have hsz := T1.out.size
  have d0 := T1.out.bA.c
  have d1 := T1.out.bB.c
  go_wp2_with fail
  refine (S.out w1 T1.out.bel).mono ?_
  rintro e w5 ⟨V, VS, rfl, hF, hS, hb5⟩
  obtain ⟨av, cv, rfl, _, _⟩ := hF.head
  have HF := Lib.hid hF
  have HS := Lib.hid hS
  have T5 := Lib.hid (T1.out.up hb5)
  clear hF hS hb5 d0 d1
  have dR := T5.out.bR.c
  have fR := T5.out.bR.fr 0
  have FIN := finS (w := w) HF.out T5.out.bel (by omega) (by omega) T5.out.bR
  go_wp2_with fail
  refine bodyPost_ret (results_cell_row rfl _ _ (w.heap.size + 1 + 1) 27 _ (0, 0) _ rfl FIN.1 t2 rfl (by kernel_rfl)) rfl ?_
  exact ⟨_, _, rfl, FIN.2.1, HS.out, FIN.2.2⟩
end Go.Proofs.Ytachdmklkkakbaa.Ml
