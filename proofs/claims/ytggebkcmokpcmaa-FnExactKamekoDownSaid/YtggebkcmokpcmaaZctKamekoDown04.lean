/-
  Joined: HKamB.
-/
import Derived.Test.YtggebkcmokpcmaaZctKamekoDown01
import Derived.Test.YtggebkcmokpcmaaZctKamekoDown03
import Derived.Test.YtggebkcmokpcmaaZBHit14
section
namespace Go.Proofs.Ytggebkcmokpcmaa.Pl
open Go.RowKit
set_option linter.unusedVariables false
set_option maxRecDepth 100000

theorem _root_.Go.Proofs.Ytggebkcmokpcmaa.okPl.small {k : Int} {X : Nat → List Int} {m : Nat} (h : okPl k X m) (i : Nat) (hi : i < m) : (X i).length ≤ 4 ∧ ∀ z ∈ X i, 0 ≤ z ∧ z ≤ 40 := by
  obtain ⟨a, b, _⟩ := h.rows i hi
  refine ⟨by have := h.1; omega, fun z hz => ?_⟩
  obtain ⟨j, hj, rfl⟩ := List.getElem_of_mem hz
  have := (isX_iff.1 b).1 j hj
  unfold gOf at this
  rw [List.getElem?_eq_getElem hj] at this
  exact this
theorem _root_.Go.Proofs.Ytggebkcmokpcmaa.okPl.asc {k : Int} {X : Nat → List Int} {m : Nat} (h : okPl k X m) : Asc (rowsL X m) := asc_rows X m h.2.1.2.2
theorem rows_small {k : Int} {X : Nat → List Int} {m : Nat} (h : okPl k X m) (f : List Int → List Int) (hf : ∀ t, (f t).length = t.length) (L : List (List Int)) (hL : ∀ t ∈ L, t ∈ rowsL X m) : ∀ t ∈ L.map f, t.length = k.toNat := fun t ht => by
  obtain ⟨x, hx, rfl⟩ := List.mem_map.1 ht
  rw [hf]
  exact h.len x (hL x hx)

set_option maxHeartbeats 1000000 in
theorem KamekoUp_both (c0 : Int) (m : Nat) (X : Nat → List Int) :
    ∃ (C : Int) (L : List (List Int)) (cd : Int), L.length ≤ 4000 ∧ (∀ i, (rowsOf L i).length ≤ 20) ∧
      (∀ va VA Ba w, Fam w Ba va m VA X → Calls Try.prog 40 #[.agg #[.int .i64 c0, va]] w (ResY C L cd w)) ∧
      (∀ va w, RdSS w va m X → Calls Try.prog 41 #[.agg #[.int .i64 c0, va]] w (ResY C L cd w)) := by
  by_cases h0 : okPl c0 X m
  · obtain ⟨s0, i0⟩ := isP_yes c0 X m h0
    have hx := dgP_bnd h0
    have hk := h0.1
    by_cases hov : 40 < 2 * dgP X m + c0
    · have hm : 0 < m := by
        apply Nat.pos_of_ne_zero; intro e
        have : dgP X m = 0 := if_pos e
        omega
      refine ⟨0, [], 3, Nat.zero_le _, rows0, ?_, ?_⟩
      · intro va VA Ba w ha
        obtain ⟨b0, o0, v0, q0, rfl, e0, d0⟩ := headP h0 hm ha.rdss
        exact specKamUp_over (dgP X m) c0 b0 o0 v0 m q0 w hm hx hk hov e0 (by rw [show dgP X m = sumL (X 0) from if_neg (by omega)]; exact d0) (Lib.hid fun wx hb => s0 _ wx (ha.rdss.below hb))
      · intro va w ha
        obtain ⟨a0, q0, rfl⟩ := ha.head
        exact implKamUp_over (dgP X m) c0 a0 m q0 w hx hk hov (Lib.hid fun wx hb => i0 _ wx (ha.below hb)) (Lib.hid (degP_any h0 a0 q0 w ha))
    · refine ⟨c0, (rowsL X m).map upL, 0, by rw [List.length_map, rowsL_len]; have := h0.few; omega, rows4 (rows_small h0 upL upL_len _ fun t ht => ht) (by omega), ?_, ?_⟩
      · intro va VA Ba w ha
        obtain ⟨a0, q0, rfl⟩ := ha.rdss.head
        refine specKamUp_ok c0 a0 m q0 X w hk h0.few ha.rdss h0.small h0.asc ?_ (Lib.hid fun wx hb => s0 _ wx (ha.rdss.below hb))
        by_cases hm : m = 0
        · exact .inl hm
        · obtain ⟨b0, o0, v0, q0', e0, c0', d0⟩ := headP h0 (by omega) ha.rdss
          cases e0
          exact .inr ⟨by omega, b0, o0, v0, dgP X m, rfl, c0', by rw [show dgP X m = sumL (X 0) from if_neg hm]; exact d0, hx, by omega⟩
      · intro va w ha
        obtain ⟨a0, q0, rfl⟩ := ha.head
        exact implKamUp_ok (dgP X m) c0 a0 m q0 X w hx hk (by omega) h0.few ha h0.small (Lib.hid fun wx hb => i0 _ wx (ha.below hb)) (Lib.hid (degP_any h0 a0 q0 w ha))
  · obtain ⟨s0, i0⟩ := isP_no c0 X m h0
    refine ⟨0, [], 1, Nat.zero_le _, rows0, ?_, ?_⟩
    · intro va VA Ba w ha
      obtain ⟨a0, q0, rfl⟩ := ha.rdss.head
      exact specKamUp_bad c0 a0 m q0 w (Lib.hid fun wx hb => s0 _ wx (ha.rdss.below hb))
    · intro va w ha
      obtain ⟨a0, q0, rfl⟩ := ha.head
      exact implKamUp_bad c0 a0 m q0 w (Lib.hid fun wx hb => i0 _ wx (ha.below hb))

set_option maxHeartbeats 1000000 in
theorem KamekoDown_both (c0 : Int) (m : Nat) (X : Nat → List Int) :
    ∃ (C : Int) (L : List (List Int)) (cd : Int), L.length ≤ 4000 ∧ (∀ i, (rowsOf L i).length ≤ 20) ∧
      (∀ va VA Ba w, Fam w Ba va m VA X → Calls Try.prog 38 #[.agg #[.int .i64 c0, va]] w (ResY C L cd w)) ∧
      (∀ va w, RdSS w va m X → Calls Try.prog 39 #[.agg #[.int .i64 c0, va]] w (ResY C L cd w)) := by
  by_cases h0 : okPl c0 X m
  · obtain ⟨s0, i0⟩ := isP_yes c0 X m h0
    have hk := h0.1
    refine ⟨c0, dnS (rowsL X m), 0, by have := dnS_len (rowsL X m); rw [rowsL_len] at this; have := h0.few; omega, rows4 (rows_small h0 dnL dnL_len _ fun t ht => (List.mem_filter.1 ht).1) (by omega), ?_, ?_⟩
    · intro va VA Ba w ha
      obtain ⟨a0, q0, rfl⟩ := ha.rdss.head
      exact specKamDown_ok c0 a0 m q0 X w h0.few ha.rdss h0.small h0.asc (Lib.hid fun wx hb => s0 _ wx (ha.rdss.below hb))
    · intro va w ha
      obtain ⟨a0, q0, rfl⟩ := ha.head
      exact implKamDown_ok c0 a0 m q0 X w h0.few ha h0.small (Lib.hid fun wx hb => i0 _ wx (ha.below hb))
  · obtain ⟨s0, i0⟩ := isP_no c0 X m h0
    refine ⟨0, [], 1, Nat.zero_le _, rows0, ?_, ?_⟩
    · intro va VA Ba w ha
      obtain ⟨a0, q0, rfl⟩ := ha.rdss.head
      exact specKamDown_bad c0 a0 m q0 w (Lib.hid fun wx hb => s0 _ wx (ha.rdss.below hb))
    · intro va w ha
      obtain ⟨a0, q0, rfl⟩ := ha.head
      exact implKamDown_bad c0 a0 m q0 w (Lib.hid fun wx hb => i0 _ wx (ha.below hb))
end Go.Proofs.Ytggebkcmokpcmaa.Pl
end
