/-
  Joined: YDeg.
-/
import Derived.Test.YtnfhfilconcajaaZxactSquareOn25
section
namespace Go.Proofs.Ytnfhfilconcajaa.Pl
open Go.RowKit
set_option linter.unusedVariables false
set_option maxRecDepth 100000

/-- A call that answers two numbers and leaves what there was. -/
def SaysN (x c : Int) (w : World) (e : Ending) (w' : World) : Prop := e = .returned (.tuple #[.int .i64 x, .int .i64 c]) ∧ Below w.heap.size w w'

/-- The first term of an element other than 0. -/
theorem headP {k : Int} {va : Value} {w : World} {m : Nat} {X : Nat → List Int} (hok : okPl k X m) (hm : 0 < m) (h : RdSS w va m X) :
    ∃ b o v cap, va = .slice (some ⟨b, o, none⟩) m cap ∧ w.cell? ⟨b, o, none⟩ = some v ∧ DegIs w v (sumL (X 0)) := by
  obtain ⟨_, _, VS, hc, hr⟩ := h
  obtain ⟨b, o, ⟨cap, e⟩, hc⟩ := hc.resolve_left (by omega)
  have := hc 0 hm
  rw [Nat.add_zero] at this
  exact ⟨b, o, VS 0, cap, e, this, degIs_exp (hr 0 hm) (by have := (hok.2.2 0 hm).1; have := hok.1.2; omega) (isX_iff.1 (hok.2.2 0 hm).2.1).1⟩

/-- The degree of terms, or 0. -/
theorem l08Degree_none (a : Option Addr) (cap : Nat) (w : World) :
    Calls Try.prog 56 #[.slice a 0 cap] w fun e w' => e = .returned (.int .i64 0) ∧ w' = w := by
  go_enter Try.func56, Try.ntmps56
  go_wp2
  go_ret
  exact ⟨rfl, rfl⟩
theorem l08Degree_some (b o m cap : Nat) (v : Value) (x : Int) (w : World) (hm : 0 < m) (hc : w.cell? ⟨b, o, none⟩ = some v) (D : Hid (DegIs w v x)) :
    Calls Try.prog 56 #[.slice (some ⟨b, o, none⟩) m cap] w fun e w' => e = .returned (.int .i64 x) ∧ ∃ q, w' = w.drewN q := by
  have hz : ((m : Int) == 0) = false := by rw [beq_eq_false_iff_ne]; omega
  have hp : (0 : Int) < (m : Int) := by omega
  clear hm
  go_enter Try.func56, Try.ntmps56
  go_wp2_with fail
  refine (l03Degree_is D 0).mono ?_
  rintro e w3 ⟨rfl, q, rfl⟩
  go_wp2_with fail
  go_ret
  exact ⟨rfl, q, rfl⟩

theorem specDegP_bad (k : Int) (a : Option Addr) (m cap : Nat) (w : World) (A : Hid (∀ wx, Below w.heap.size w wx → Calls Try.prog 49 #[.agg #[.int .i64 k, .slice a m cap]] wx (SaysB false wx))) :
    Calls Try.prog 23 #[.agg #[.int .i64 k, .slice a m cap]] w (SaysN 0 1 w) := by
  have t2 := Try.underlying27
  have B0 : Hid (Below w.heap.size w (w.alloc (.cells #[.int .i64 k, .slice a m cap] 27))) := Lib.hid ((Below.refl w.heap.size w).alloc (Nat.le_refl _) _)
  go_enter Try.func23, Try.ntmps23
  go_wp2_with fail
  refine (A.out _ B0.out).mono ?_
  rintro e w2 ⟨rfl, b2⟩
  have B2 := Lib.hid (B0.out.step1 b2)
  clear b2
  go_wp2_with fail
  go_ret2
  exact ⟨rfl, B2.out⟩
theorem implDegP_bad (k : Int) (a : Option Addr) (m cap : Nat) (w : World) (A : Hid (∀ wx, Below w.heap.size w wx → Calls Try.prog 15 #[.agg #[.int .i64 k, .slice a m cap]] wx (SaysB false wx))) :
    Calls Try.prog 24 #[.agg #[.int .i64 k, .slice a m cap]] w (SaysN 0 1 w) := by
  have t2 := Try.underlying27
  have B0 : Hid (Below w.heap.size w (w.alloc (.cells #[.int .i64 k, .slice a m cap] 27))) := Lib.hid ((Below.refl w.heap.size w).alloc (Nat.le_refl _) _)
  go_enter Try.func24, Try.ntmps24
  go_wp2_with fail
  refine (A.out _ B0.out).mono ?_
  rintro e w2 ⟨rfl, b2⟩
  have B2 := Lib.hid (B0.out.step1 b2)
  clear b2
  go_wp2_with fail
  go_ret2
  exact ⟨rfl, B2.out⟩

theorem specDegP_zero (k : Int) (a : Option Addr) (cap : Nat) (w : World) (A : Hid (∀ wx, Below w.heap.size w wx → Calls Try.prog 49 #[.agg #[.int .i64 k, .slice a 0 cap]] wx (SaysB true wx))) :
    Calls Try.prog 23 #[.agg #[.int .i64 k, .slice a 0 cap]] w (SaysN 0 5 w) := by
  have t2 := Try.underlying27
  have B0 : Hid (Below w.heap.size w (w.alloc (.cells #[.int .i64 k, .slice a 0 cap] 27))) := Lib.hid ((Below.refl w.heap.size w).alloc (Nat.le_refl _) _)
  have BX : Hid (Box (w.alloc (.cells #[.int .i64 k, .slice a 0 cap] 27)) w.heap.size 27 (.int .i64 k) (.slice a 0 cap)) := Lib.hid (Box.new _ _ _ _)
  go_enter Try.func23, Try.ntmps23
  go_wp2_with fail
  refine (A.out _ B0.out).mono ?_
  rintro e w2 ⟨rfl, b2⟩
  have B2 := Lib.hid (B0.out.step1 b2)
  have c1 := (BX.out.up b2).c0
  have c1b := (BX.out.up b2).c1
  clear b2
  go_wp2_with fail
  go_ret2
  exact ⟨rfl, B2.out⟩
theorem implDegP_zero (k : Int) (a : Option Addr) (cap : Nat) (w : World) (A : Hid (∀ wx, Below w.heap.size w wx → Calls Try.prog 15 #[.agg #[.int .i64 k, .slice a 0 cap]] wx (SaysB true wx))) :
    Calls Try.prog 24 #[.agg #[.int .i64 k, .slice a 0 cap]] w (SaysN 0 5 w) := by
  have t2 := Try.underlying27
  have B0 : Hid (Below w.heap.size w (w.alloc (.cells #[.int .i64 k, .slice a 0 cap] 27))) := Lib.hid ((Below.refl w.heap.size w).alloc (Nat.le_refl _) _)
  have BX : Hid (Box (w.alloc (.cells #[.int .i64 k, .slice a 0 cap] 27)) w.heap.size 27 (.int .i64 k) (.slice a 0 cap)) := Lib.hid (Box.new _ _ _ _)
  go_enter Try.func24, Try.ntmps24
  go_wp2_with fail
  refine (A.out _ B0.out).mono ?_
  rintro e w2 ⟨rfl, b2⟩
  have B2 := Lib.hid (B0.out.step1 b2)
  have c1 := (BX.out.up b2).c0
  have c1b := (BX.out.up b2).c1
  clear b2
  go_wp2_with fail
  refine (isZeroP_any k a 0 cap w2).mono ?_
  rintro e w3 ⟨rfl, b3⟩
  have B3 := Lib.hid (B2.out.step1 b3)
  clear b3
  go_wp2_with fail
  go_ret2
  exact ⟨rfl, B3.out⟩

theorem specDegP_ok (k : Int) (b o m cap : Nat) (v : Value) (x : Int) (w : World) (hm : 0 < m) (hc : w.cell? ⟨b, o, none⟩ = some v) (hd : DegIs w v x) (A : Hid (∀ wx, Below w.heap.size w wx → Calls Try.prog 49 #[.agg #[.int .i64 k, .slice (some ⟨b, o, none⟩) m cap]] wx (SaysB true wx))) :
    Calls Try.prog 23 #[.agg #[.int .i64 k, .slice (some ⟨b, o, none⟩) m cap]] w (SaysN x 0 w) := by
  have t2 := Try.underlying27
  have B0 : Hid (Below w.heap.size w (w.alloc (.cells #[.int .i64 k, .slice (some ⟨b, o, none⟩) m cap] 27))) := Lib.hid ((Below.refl w.heap.size w).alloc (Nat.le_refl _) _)
  have BX : Hid (Box (w.alloc (.cells #[.int .i64 k, .slice (some ⟨b, o, none⟩) m cap] 27)) w.heap.size 27 (.int .i64 k) (.slice (some ⟨b, o, none⟩) m cap)) := Lib.hid (Box.new _ _ _ _)
  have hz : ((m : Int) == 0) = false := by rw [beq_eq_false_iff_ne]; omega
  have hp : (0 : Int) < (m : Int) := by omega
  have HM := Lib.hid hm
  have HC := Lib.hid hc
  have HD := Lib.hid hd
  clear hc hd hm
  go_enter Try.func23, Try.ntmps23
  go_wp2_with fail
  refine (A.out _ B0.out).mono ?_
  rintro e w2 ⟨rfl, b2⟩
  have B2 := Lib.hid (B0.out.step1 b2)
  have c1 := (BX.out.up b2).c0
  have c1b := (BX.out.up b2).c1
  have c2 : w2.cell? ⟨b, o, none⟩ = some v := (B2.out.cell (p := ⟨b, o, none⟩) (World.block_lt_of_cell? w _ HC.out)).trans HC.out
  have D2 := Lib.hid (HD.out.below B2.out)
  clear b2
  go_wp2_with fail
  refine (l08Degree_some b o m cap v x w2 HM.out c2 D2).mono ?_
  rintro e w3 ⟨rfl, q, rfl⟩
  go_wp2_with fail
  go_ret2
  exact ⟨rfl, below_drewN B2.out q⟩
theorem implDegP_ok (k : Int) (b o m cap : Nat) (v : Value) (x : Int) (w : World) (hm : 0 < m) (hc : w.cell? ⟨b, o, none⟩ = some v) (hd : DegIs w v x) (A : Hid (∀ wx, Below w.heap.size w wx → Calls Try.prog 15 #[.agg #[.int .i64 k, .slice (some ⟨b, o, none⟩) m cap]] wx (SaysB true wx))) :
    Calls Try.prog 24 #[.agg #[.int .i64 k, .slice (some ⟨b, o, none⟩) m cap]] w (SaysN x 0 w) := by
  have t2 := Try.underlying27
  have B0 : Hid (Below w.heap.size w (w.alloc (.cells #[.int .i64 k, .slice (some ⟨b, o, none⟩) m cap] 27))) := Lib.hid ((Below.refl w.heap.size w).alloc (Nat.le_refl _) _)
  have BX : Hid (Box (w.alloc (.cells #[.int .i64 k, .slice (some ⟨b, o, none⟩) m cap] 27)) w.heap.size 27 (.int .i64 k) (.slice (some ⟨b, o, none⟩) m cap)) := Lib.hid (Box.new _ _ _ _)
  have HC := Lib.hid hc
  have HD := Lib.hid hd
  have HM := Lib.hid hm
  have Z : Hid (∀ wx, Calls Try.prog 59 #[.agg #[.int .i64 k, .slice (some ⟨b, o, none⟩) m cap]] wx fun e w' => e = .returned (.bool false) ∧ Below wx.heap.size wx w') := Lib.hid fun wx => by
    have := isZeroP_any k (some ⟨b, o, none⟩) m cap wx
    rw [decide_eq_false (by omega)] at this
    exact this
  clear hc hd hm
  go_enter Try.func24, Try.ntmps24
  go_wp2_with fail
  refine (A.out _ B0.out).mono ?_
  rintro e w2 ⟨rfl, b2⟩
  have B2 := Lib.hid (B0.out.step1 b2)
  have X2 := Lib.hid (BX.out.up b2)
  have c1 := X2.out.c0
  have c1b := X2.out.c1
  clear b2
  go_wp2_with fail
  refine (Z.out w2).mono ?_
  rintro e w3 ⟨rfl, b3⟩
  have B3 := Lib.hid (B2.out.step1 b3)
  have c1 := (X2.out.up b3).c0
  have c1b := (X2.out.up b3).c1
  clear b3 X2
  go_wp2_with fail
  refine (degreeP_any k _ m cap x w3 (fun h => by have := HM.out; omega) (fun _ => ⟨b, o, v, rfl, (B3.out.cell (p := ⟨b, o, none⟩) (World.block_lt_of_cell? w _ HC.out)).trans HC.out, HD.out.below B3.out⟩)).mono ?_
  rintro e w4 ⟨rfl, b4⟩
  have B4 := Lib.hid (B3.out.step1 b4)
  clear b4
  go_wp2_with fail
  go_ret2
  exact ⟨rfl, B4.out⟩

theorem DegP_both (k : Int) (X : Nat → List Int) (m : Nat) : ∃ x c : Int,
    (∀ V w, RdSS w V m X → Calls Try.prog 23 #[.agg #[.int .i64 k, V]] w (SaysN x c w)) ∧
    (∀ V w, RdSS w V m X → Calls Try.prog 24 #[.agg #[.int .i64 k, V]] w (SaysN x c w)) := by
  by_cases hok : okPl k X m
  · by_cases hm : m = 0
    · subst hm
      refine ⟨0, 5, fun V w h => ?_, fun V w h => ?_⟩
      · obtain ⟨a, cap, rfl⟩ := h.head
        exact specDegP_zero k a cap w (Lib.hid fun wx hx => (isP_yes k X 0 hok).1 _ wx (h.below hx))
      · obtain ⟨a, cap, rfl⟩ := h.head
        exact implDegP_zero k a cap w (Lib.hid fun wx hx => (isP_yes k X 0 hok).2 _ wx (h.below hx))
    · refine ⟨sumL (X 0), 0, fun V w h => ?_, fun V w h => ?_⟩
      · obtain ⟨b, o, v, cap, rfl, c, d⟩ := headP hok (by omega) h
        exact specDegP_ok k b o m cap v _ w (by omega) c d (Lib.hid fun wx hx => (isP_yes k X m hok).1 _ wx (h.below hx))
      · obtain ⟨b, o, v, cap, rfl, c, d⟩ := headP hok (by omega) h
        exact implDegP_ok k b o m cap v _ w (by omega) c d (Lib.hid fun wx hx => (isP_yes k X m hok).2 _ wx (h.below hx))
  · refine ⟨0, 1, fun V w h => ?_, fun V w h => ?_⟩
    · obtain ⟨a, cap, rfl⟩ := h.head
      exact specDegP_bad k a m cap w (Lib.hid fun wx hx => (isP_no k X m hok).1 _ wx (h.below hx))
    · obtain ⟨a, cap, rfl⟩ := h.head
      exact implDegP_bad k a m cap w (Lib.hid fun wx hx => (isP_no k X m hok).2 _ wx (h.below hx))
end Go.Proofs.Ytnfhfilconcajaa.Pl
end
