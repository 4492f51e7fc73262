/-
  Contracts of spec.l06Is, spec.IsDual and impl.IsDual.
-/
import Derived.Test.YtcfgjbfgdlmilaaDoorNIsI
import Derived.Test.YtcfgjbfgdlmilaaDoorEBase
namespace Go.Proofs.YtcfgjbfgdlmilaaDoor
open Go.RowKit
set_option linter.unusedVariables false
set_option maxRecDepth 100000

theorem l06Is_of (V : Value) (m : Nat) (r : Bool) (X : Nat → List Int) (w : World) (h : RdSS w V m X) (A : ∀ wx, RdSS wx V m X → Calls Tryd.prog 18 #[.agg #[V]] wx (SaysB r wx)) :
    Calls Tryd.prog 10 #[.agg #[V]] w (SaysB r w) := by
  obtain ⟨a, cap, rfl⟩ := h.head
  have t2 := Tryd.underlying28
  have t3 := Tryd.underlying43
  have B0 : Hid (Below w.heap.size w (w.alloc (.cells #[.slice a m cap] 28))) := Lib.hid ((Below.refl w.heap.size w).alloc (Nat.le_refl _) _)
  have A := Lib.hid (A _ (h.below B0.out))
  clear h
  go_enter Tryd.func10, Tryd.ntmps10
  go_wp2_with fail
  refine A.out.mono ?_
  rintro e w' ⟨rfl, b1⟩
  have B1 := Lib.hid (B0.out.trans (b1.mono B0.out.size))
  clear b1
  go_wp2_with fail
  go_ret
  exact ⟨rfl, B1.out⟩

theorem implIsD_of (V : Value) (m : Nat) (r : Bool) (X : Nat → List Int) (w : World) (h : RdSS w V m X) (A : ∀ wx, RdSS wx V m X → Calls Tryd.prog 21 #[.agg #[V]] wx (SaysB r wx)) :
    Calls Tryd.prog 13 #[.agg #[V]] w (SaysB r w) := by
  obtain ⟨a, cap, rfl⟩ := h.head
  have t2 := Tryd.underlying28
  have t3 := Tryd.underlying43
  have B0 : Hid (Below w.heap.size w (w.alloc (.cells #[.slice a m cap] 28))) := Lib.hid ((Below.refl w.heap.size w).alloc (Nat.le_refl _) _)
  have A := Lib.hid (A _ (h.below B0.out))
  clear h
  go_enter Tryd.func13, Tryd.ntmps13
  go_wp2_with fail
  refine A.out.mono ?_
  rintro e w' ⟨rfl, b1⟩
  have B1 := Lib.hid (B0.out.trans (b1.mono B0.out.size))
  clear b1
  go_wp2_with fail
  go_ret
  exact ⟨rfl, B1.out⟩

/-- Both answer the same: whether it is a dual element. -/
theorem isD_yes (X : Nat → List Int) (m : Nat) (hok : okMl X m) :
    (∀ V w, RdSS w V m X → Calls Tryd.prog 10 #[.agg #[V]] w (SaysB true w)) ∧
    (∀ V w, RdSS w V m X → Calls Tryd.prog 13 #[.agg #[V]] w (SaysB true w)) :=
  ⟨fun V w h => l06Is_of V m true X w h fun wx => (isM_yes X m hok).1 V wx, fun V w h => implIsD_of V m true X w h fun wx => (isM_yes X m hok).2 V wx⟩
theorem isD_no (X : Nat → List Int) (m : Nat) (hok : ¬ okMl X m) :
    (∀ V w, RdSS w V m X → Calls Tryd.prog 10 #[.agg #[V]] w (SaysB false w)) ∧
    (∀ V w, RdSS w V m X → Calls Tryd.prog 13 #[.agg #[V]] w (SaysB false w)) :=
  ⟨fun V w h => l06Is_of V m false X w h fun wx => (isM_no X m hok).1 V wx, fun V w h => implIsD_of V m false X w h fun wx => (isM_no X m hok).2 V wx⟩
theorem isD_both (X : Nat → List Int) (m : Nat) : ∃ r : Bool,
    (∀ V w, RdSS w V m X → Calls Tryd.prog 10 #[.agg #[V]] w (SaysB r w)) ∧
    (∀ V w, RdSS w V m X → Calls Tryd.prog 13 #[.agg #[V]] w (SaysB r w)) := by
  by_cases hok : okMl X m
  · exact ⟨true, isD_yes X m hok⟩
  · exact ⟨false, isD_no X m hok⟩
end Go.Proofs.YtcfgjbfgdlmilaaDoor
