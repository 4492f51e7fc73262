/-
  Joined: QInB.
-/
import Derived.Test.YtcbfcpngpnlodaaZxactIsInPart44
section
namespace Go.Proofs.Ytcbfcpngpnlodaa
open Go.RowKit
set_option linter.unusedVariables false
set_option maxRecDepth 100000

theorem IsInPart_both (m : Nat) (X : Nat → List Int) (n : Nat) (H : Nat → Int) : ∃ (x : Bool) (c : Int),
    (∀ V v w, RdSS w V m X → RdI w v n H → Calls Try.prog 33 #[.agg #[V], v] w (SaysV (.tuple #[.bool x, .int .i64 c]) w)) ∧
    (∀ V v w, RdSS w V m X → RdI w v n H → Calls Try.prog 35 #[.agg #[V], v] w (SaysV (.tuple #[.bool x, .int .i64 c]) w)) := by
  by_cases hok : okMl X m
  · by_cases h2 : okPr H n
    · by_cases hall : ∀ i, i < m → stepT X n H i
      · refine ⟨true, 0, fun V v w h hv => ?_, fun V v w h hv => ?_⟩
        · obtain ⟨a, cap, rfl⟩ := h.head
          exact specIP_some a m cap n m true X H v w h hok hv h2 (Nat.le_refl _) hall (.inl ⟨rfl, rfl⟩) (Lib.hid fun wx hx => (isM_yes X m hok).1 _ wx (h.below hx))
        · obtain ⟨a, cap, rfl⟩ := h.head
          exact implIP_some a m cap n true X H v w h hok hv h2 ⟨fun _ => hall, fun _ => rfl⟩ (Lib.hid fun wx hx => (isM_yes X m hok).2 _ wx (h.below hx))
      · obtain ⟨z, hz, hbad, hgood⟩ := first_bad0 (stepT X n H) m hall
        refine ⟨false, 0, fun V v w h hv => ?_, fun V v w h hv => ?_⟩
        · obtain ⟨a, cap, rfl⟩ := h.head
          exact specIP_some a m cap n z false X H v w h hok hv h2 (by omega) hgood (.inr ⟨hz, hbad, rfl⟩) (Lib.hid fun wx hx => (isM_yes X m hok).1 _ wx (h.below hx))
        · obtain ⟨a, cap, rfl⟩ := h.head
          exact implIP_some a m cap n false X H v w h hok hv h2 ⟨fun h => absurd h (by decide), fun h => absurd h hall⟩ (Lib.hid fun wx hx => (isM_yes X m hok).2 _ wx (h.below hx))
    · refine ⟨false, 1, fun V v w h hv => ?_, fun V v w h hv => ?_⟩
      · obtain ⟨a, cap, rfl⟩ := h.head
        exact specIP_no a m cap n H v w hv h2 (Lib.hid fun wx hx => (isM_yes X m hok).1 _ wx (h.below hx))
      · obtain ⟨a, cap, rfl⟩ := h.head
        exact implIP_no a m cap n H v w hv h2 (Lib.hid fun wx hx => (isM_yes X m hok).2 _ wx (h.below hx))
  · refine ⟨false, 1, fun V v w h hv => ?_, fun V v w h hv => ?_⟩
    · obtain ⟨a, cap, rfl⟩ := h.head
      exact specIP_bad a m cap v w (Lib.hid fun wx hx => (isM_no X m hok).1 _ wx (h.below hx))
    · obtain ⟨a, cap, rfl⟩ := h.head
      exact implIP_bad a m cap v w (Lib.hid fun wx hx => (isM_no X m hok).2 _ wx (h.below hx))
end Go.Proofs.Ytcbfcpngpnlodaa
end
