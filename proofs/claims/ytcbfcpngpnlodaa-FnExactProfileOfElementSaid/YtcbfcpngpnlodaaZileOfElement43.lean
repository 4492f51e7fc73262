/-
  Joined: QElB.
-/
import Derived.Test.YtcbfcpngpnlodaaZileOfElement42
section
namespace Go.Proofs.Ytcbfcpngpnlodaa
open Go Go.RowKit
set_option linter.unusedVariables false
set_option maxRecDepth 100000

theorem ProfileOfElement_both (m : Nat) (X : Nat → List Int) : ∃ (zs : List Int) (cd : Int), zs.length ≤ 200000000000 ∧
    (∀ V w, RdSS w V m X → Calls Try.prog 50 #[.agg #[V]] w (ResI zs cd w)) ∧
    (∀ V w, RdSS w V m X → Calls Try.prog 51 #[.agg #[V]] w (ResI zs cd w)) := by
  by_cases hok : okMl X m
  · have e := trim_sup (X := X) (m := m) (fun k hk => (hok.2 k hk).1.1.1)
    refine ⟨trim (arL (supF X m)), 0, ?_, fun V w h => ?_, fun V w h => ?_⟩
    · have := trim_len (arL (supF X m))
      rw [arL_len] at this
      omega
    · obtain ⟨a, cap, rfl⟩ := h.head
      rw [e]
      exact specEl_ok a m cap X w h hok (Lib.hid fun wx hx => (isM_yes X m hok).1 _ wx (h.below hx))
    · obtain ⟨a, cap, rfl⟩ := h.head
      exact implEl_ok a m cap X w h hok (Lib.hid fun wx hx => (isM_yes X m hok).2 _ wx (h.below hx))
  · refine ⟨[], 1, by decide, fun V w h => ?_, fun V w h => ?_⟩
    · obtain ⟨a, cap, rfl⟩ := h.head
      exact specEl_bad a m cap w (Lib.hid fun wx hx => (isM_no X m hok).1 _ wx (h.below hx))
    · obtain ⟨a, cap, rfl⟩ := h.head
      exact implEl_bad a m cap w (Lib.hid fun wx hx => (isM_no X m hok).2 _ wx (h.below hx))
end Go.Proofs.Ytcbfcpngpnlodaa
end
