/-
  spec.DegreeOfMilnor and impl.DegreeOfMilnor answer the same.
-/
import Derived.Test.YtachdmklkkakbaaNIsI
namespace Go.Proofs.Ytachdmklkkakbaa.Ml
open Go.RowKit
set_option linter.unusedVariables false
set_option maxRecDepth 100000

/-- A call that answers two numbers and leaves what there was. -/
def SaysN (x c : Int) (w : World) (e : Ending) (w' : World) : Prop := e = .returned (.tuple #[.int .i64 x, .int .i64 c]) ∧ Below w.heap.size w w'

/-- The first term of an element other than 0. -/
theorem headD {va : Value} {w : World} {m : Nat} {X : Nat → List Int} (hok : okMl X m) (hm : 0 < m) (h : RdSS w va m X) :
    ∃ b o v cap, va = .slice (some ⟨b, o, none⟩) m cap ∧ w.cell? ⟨b, o, none⟩ = some v ∧ DegE w v (dgL (X 0)) := by
  obtain ⟨_, _, VS, hc, hr⟩ := h
  obtain ⟨b, o, ⟨cap, e⟩, hc⟩ := hc.resolve_left (by omega)
  have := hc 0 hm
  rw [Nat.add_zero] at this
  exact ⟨b, o, VS 0, cap, e, this, degE_list (hr 0 hm) (hok.2 0 hm).1.1⟩

theorem specDegM_bad (a : Option Addr) (m cap : Nat) (w : World) (A : Hid (∀ wx, Below w.heap.size w wx → Calls Try.prog 43 #[.agg #[.slice a m cap]] wx (SaysB false wx))) :
    Calls Try.prog 32 #[.agg #[.slice a m cap]] w (SaysN 0 1 w) := by
  have t2 := Try.underlying27
  have B0 : Hid (Below w.heap.size w (w.alloc (.cells #[.slice a m cap] 27))) := Lib.hid ((Below.refl w.heap.size w).alloc (Nat.le_refl _) _)
  go_enter Try.func32, Try.ntmps32
  go_wp2_with fail
  refine (A.out _ B0.out).mono ?_
  rintro e w2 ⟨rfl, b2⟩
  have B2 := Lib.hid (B0.out.step1 b2)
  clear b2
  go_wp2_with fail
  go_ret2
  exact ⟨rfl, B2.out⟩
theorem implDegM_bad (a : Option Addr) (m cap : Nat) (w : World) (A : Hid (∀ wx, Below w.heap.size w wx → Calls Try.prog 15 #[.agg #[.slice a m cap]] wx (SaysB false wx))) :
    Calls Try.prog 33 #[.agg #[.slice a m cap]] w (SaysN 0 1 w) := by
  have t2 := Try.underlying27
  have B0 : Hid (Below w.heap.size w (w.alloc (.cells #[.slice a m cap] 27))) := Lib.hid ((Below.refl w.heap.size w).alloc (Nat.le_refl _) _)
  go_enter Try.func33, Try.ntmps33
  go_wp2_with fail
  refine (A.out _ B0.out).mono ?_
  rintro e w2 ⟨rfl, b2⟩
  have B2 := Lib.hid (B0.out.step1 b2)
  clear b2
  go_wp2_with fail
  go_ret2
  exact ⟨rfl, B2.out⟩

theorem specDegM_zero (a : Option Addr) (cap : Nat) (w : World) (A : Hid (∀ wx, Below w.heap.size w wx → Calls Try.prog 43 #[.agg #[.slice a 0 cap]] wx (SaysB true wx))) :
    Calls Try.prog 32 #[.agg #[.slice a 0 cap]] w (SaysN 0 5 w) := by
  have t2 := Try.underlying27
  have B0 : Hid (Below w.heap.size w (w.alloc (.cells #[.slice a 0 cap] 27))) := Lib.hid ((Below.refl w.heap.size w).alloc (Nat.le_refl _) _)
  have BX : Hid (Box1 (w.alloc (.cells #[.slice a 0 cap] 27)) w.heap.size 27 (.slice a 0 cap)) := Lib.hid (Box1.new _ _ _)
  go_enter Try.func32, Try.ntmps32
  go_wp2_with fail
  refine (A.out _ B0.out).mono ?_
  rintro e w2 ⟨rfl, b2⟩
  have B2 := Lib.hid (B0.out.step1 b2)
  have c1 := (BX.out.up b2).c
  clear b2
  go_wp2_with fail
  go_ret2
  exact ⟨rfl, B2.out⟩
theorem implDegM_zero (a : Option Addr) (cap : Nat) (w : World) (A : Hid (∀ wx, Below w.heap.size w wx → Calls Try.prog 15 #[.agg #[.slice a 0 cap]] wx (SaysB true wx))) :
    Calls Try.prog 33 #[.agg #[.slice a 0 cap]] w (SaysN 0 5 w) := by
  have t2 := Try.underlying27
  have B0 : Hid (Below w.heap.size w (w.alloc (.cells #[.slice a 0 cap] 27))) := Lib.hid ((Below.refl w.heap.size w).alloc (Nat.le_refl _) _)
  have BX : Hid (Box1 (w.alloc (.cells #[.slice a 0 cap] 27)) w.heap.size 27 (.slice a 0 cap)) := Lib.hid (Box1.new _ _ _)
  go_enter Try.func33, Try.ntmps33
  go_wp2_with fail
  refine (A.out _ B0.out).mono ?_
  rintro e w2 ⟨rfl, b2⟩
  have B2 := Lib.hid (B0.out.step1 b2)
  have c1 := (BX.out.up b2).c
  clear b2
  go_wp2_with fail
  refine (isZeroM_any a 0 cap w2).mono ?_
  rintro e w3 ⟨rfl, b3⟩
  have B3 := Lib.hid (B2.out.step1 b3)
  clear b3
  go_wp2_with fail
  go_ret2
  exact ⟨rfl, B3.out⟩

theorem specDegM_ok (b o m cap : Nat) (v : Value) (x : Int) (w : World) (hm : 0 < m) (hc : w.cell? ⟨b, o, none⟩ = some v) (hd : DegE w v x) (A : Hid (∀ wx, Below w.heap.size w wx → Calls Try.prog 43 #[.agg #[.slice (some ⟨b, o, none⟩) m cap]] wx (SaysB true wx))) :
    Calls Try.prog 32 #[.agg #[.slice (some ⟨b, o, none⟩) m cap]] w (SaysN x 0 w) := by
  have t2 := Try.underlying27
  have B0 : Hid (Below w.heap.size w (w.alloc (.cells #[.slice (some ⟨b, o, none⟩) m cap] 27))) := Lib.hid ((Below.refl w.heap.size w).alloc (Nat.le_refl _) _)
  have BX : Hid (Box1 (w.alloc (.cells #[.slice (some ⟨b, o, none⟩) m cap] 27)) w.heap.size 27 (.slice (some ⟨b, o, none⟩) m cap)) := Lib.hid (Box1.new _ _ _)
  have hz : ((m : Int) == 0) = false := by rw [beq_eq_false_iff_ne]; omega
  have hp : (0 : Int) < (m : Int) := by omega
  have HC := Lib.hid hc
  have HD := Lib.hid hd
  clear hc hd hm
  go_enter Try.func32, Try.ntmps32
  go_wp2_with fail
  refine (A.out _ B0.out).mono ?_
  rintro e w2 ⟨rfl, b2⟩
  have B2 := Lib.hid (B0.out.step1 b2)
  have c1 := (BX.out.up b2).c
  have c2 : w2.cell? ⟨b, o, none⟩ = some v := (B2.out.cell (p := ⟨b, o, none⟩) (World.block_lt_of_cell? w _ HC.out)).trans HC.out
  have D2 := Lib.hid (HD.out.below B2.out)
  clear b2
  go_wp2_with fail
  refine (l01Degree_is D2 0).mono ?_
  rintro e w3 ⟨rfl, q, rfl⟩
  go_wp2_with fail
  go_ret2
  exact ⟨rfl, below_drewN B2.out q⟩
theorem implDegM_ok (b o m cap : Nat) (v : Value) (x : Int) (w : World) (hm : 0 < m) (hx : x ≤ 40) (hc : w.cell? ⟨b, o, none⟩ = some v) (hd : DegE w v x) (A : Hid (∀ wx, Below w.heap.size w wx → Calls Try.prog 15 #[.agg #[.slice (some ⟨b, o, none⟩) m cap]] wx (SaysB true wx))) :
    Calls Try.prog 33 #[.agg #[.slice (some ⟨b, o, none⟩) m cap]] w (SaysN x 0 w) := by
  have t2 := Try.underlying27
  have B0 : Hid (Below w.heap.size w (w.alloc (.cells #[.slice (some ⟨b, o, none⟩) m cap] 27))) := Lib.hid ((Below.refl w.heap.size w).alloc (Nat.le_refl _) _)
  have BX : Hid (Box1 (w.alloc (.cells #[.slice (some ⟨b, o, none⟩) m cap] 27)) w.heap.size 27 (.slice (some ⟨b, o, none⟩) m cap)) := Lib.hid (Box1.new _ _ _)
  have HC := Lib.hid hc
  have HD := Lib.hid hd
  have HX := Lib.hid hx
  have HM := Lib.hid hm
  have Z : Hid (∀ wx, Calls Try.prog 51 #[.agg #[.slice (some ⟨b, o, none⟩) m cap]] wx fun e w' => e = .returned (.bool false) ∧ Below wx.heap.size wx w') := Lib.hid fun wx => by
    have := isZeroM_any (some ⟨b, o, none⟩) m cap wx
    rw [decide_eq_false (by omega)] at this
    exact this
  clear hc hd hx hm
  go_enter Try.func33, Try.ntmps33
  go_wp2_with fail
  refine (A.out _ B0.out).mono ?_
  rintro e w2 ⟨rfl, b2⟩
  have B2 := Lib.hid (B0.out.step1 b2)
  have X2 := Lib.hid (BX.out.up b2)
  have c1 := X2.out.c
  clear b2
  go_wp2_with fail
  refine (Z.out w2).mono ?_
  rintro e w3 ⟨rfl, b3⟩
  have B3 := Lib.hid (B2.out.step1 b3)
  have c1 := (X2.out.up b3).c
  clear b3 X2
  go_wp2_with fail
  refine (degreeM_any _ m cap x w3 (fun h => by have := HM.out; omega) HX.out (fun _ => ⟨b, o, v, rfl, (B3.out.cell (p := ⟨b, o, none⟩) (World.block_lt_of_cell? w _ HC.out)).trans HC.out, HD.out.below B3.out⟩)).mono ?_
  rintro e w4 ⟨rfl, b4⟩
  have B4 := Lib.hid (B3.out.step1 b4)
  clear b4
  go_wp2_with fail
  go_ret2
  exact ⟨rfl, B4.out⟩

theorem DegM_both (X : Nat → List Int) (m : Nat) : ∃ x c : Int,
    (∀ V w, RdSS w V m X → Calls Try.prog 32 #[.agg #[V]] w (SaysN x c w)) ∧
    (∀ V w, RdSS w V m X → Calls Try.prog 33 #[.agg #[V]] w (SaysN x c w)) := by
  by_cases hok : okMl X m
  · by_cases hm : m = 0
    · subst hm
      refine ⟨0, 5, fun V w h => ?_, fun V w h => ?_⟩
      · obtain ⟨a, cap, rfl⟩ := h.head
        exact specDegM_zero a cap w (Lib.hid fun wx hx => (isM_yes X 0 hok).1 _ wx (h.below hx))
      · obtain ⟨a, cap, rfl⟩ := h.head
        exact implDegM_zero a cap w (Lib.hid fun wx hx => (isM_yes X 0 hok).2 _ wx (h.below hx))
    · refine ⟨dgL (X 0), 0, fun V w h => ?_, fun V w h => ?_⟩
      · obtain ⟨b, o, v, cap, rfl, c, d⟩ := headD hok (by omega) h
        exact specDegM_ok b o m cap v _ w (by omega) c d (Lib.hid fun wx hx => (isM_yes X m hok).1 _ wx (h.below hx))
      · obtain ⟨b, o, v, cap, rfl, c, d⟩ := headD hok (by omega) h
        exact implDegM_ok b o m cap v _ w (by omega) (hok.2 0 (by omega)).1.2 c d (Lib.hid fun wx hx => (isM_yes X m hok).2 _ wx (h.below hx))
  · refine ⟨0, 1, fun V w h => ?_, fun V w h => ?_⟩
    · obtain ⟨a, cap, rfl⟩ := h.head
      exact specDegM_bad a m cap w (Lib.hid fun wx hx => (isM_no X m hok).1 _ wx (h.below hx))
    · obtain ⟨a, cap, rfl⟩ := h.head
      exact implDegM_bad a m cap w (Lib.hid fun wx hx => (isM_no X m hok).2 _ wx (h.below hx))
end Go.Proofs.Ytachdmklkkakbaa.Ml
