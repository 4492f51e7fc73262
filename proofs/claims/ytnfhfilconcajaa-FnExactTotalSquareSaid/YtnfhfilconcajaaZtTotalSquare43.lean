/-
  Joined: YTotB.
-/
import Derived.Test.YtnfhfilconcajaaZtTotalSquare42
section
namespace Go.Proofs.Ytnfhfilconcajaa.Pl
open Go.RowKit
set_option linter.unusedVariables false
set_option maxRecDepth 100000

/-- A call that answers polynomials and a code. -/
def ResPS (k : Nat) (c : Int) (L : Nat → List (List Int)) (cd : Int) (w : World) (e : Ending) (w' : World) : Prop :=
  ∃ V US VS, e = .returned (.tuple #[V, .int .i64 cd]) ∧ FamPL w' w.heap.size V k c US VS L ∧ SepP k (fun i => (L i).length) VS ∧ Below w.heap.size w w'
theorem resPS_nil (c : Int) (L : Nat → List (List Int)) (cd : Int) {w w' : World} (h : Below w.heap.size w w') : ResPS 0 c L cd w (.returned (.tuple #[.slice none 0 0, .int .i64 cd])) w' :=
  ⟨_, fun _ => undef, fun _ _ => undef, rfl, ⟨World.ownsRow_nil _ _ _ _, fun i hi => absurd hi (Nat.not_lt_zero _)⟩, ⟨fun i hi => absurd hi (Nat.not_lt_zero _), fun i j hi => absurd hi (Nat.not_lt_zero _)⟩, h⟩
theorem totRes_yes {G : Prop} {c : Int} {d : Nat} {L : Nat → List (List Int)} {w w' : World} {e : Ending} (hG : G) (h : TotRes G c d L w e w') : ResPS (d + 1) c L 0 w e w' := by
  rcases h with ⟨_, h⟩ | ⟨h, _⟩
  · exact h
  · exact absurd hG h
theorem totRes_no {G : Prop} {c : Int} {d : Nat} {L : Nat → List (List Int)} {w w' : World} {e : Ending} (hG : ¬ G) (h : TotRes G c d L w e w') : ResPS 0 c L 3 w e w' := by
  rcases h with ⟨h, _⟩ | ⟨_, rfl, hb⟩
  · exact absurd h hG
  · exact resPS_nil c L 3 hb

theorem l08Deg_any {c0 : Int} {X : Nat → List Int} {m : Nat} (h0 : okPl c0 X m) (a0 : Option Addr) (q0 : Nat) (w : World) (ha : RdSS w (.slice a0 m q0) m X) :
    ∀ wx, Below w.heap.size w wx → Calls Try.prog 56 #[.slice a0 m q0] wx fun e w' => e = .returned (.int .i64 (dgP X m)) ∧ Below wx.heap.size wx w' := fun wx hb => by
  by_cases hm : m = 0
  · subst hm
    refine (l08Degree_none a0 q0 wx).mono ?_
    rintro e w' ⟨rfl, rfl⟩
    exact ⟨rfl, Below.refl _ _⟩
  · obtain ⟨b0, o0, v0, q0', e0, c0', d0⟩ := headP h0 (by omega) (ha.below hb)
    cases e0
    refine (l08Degree_some b0 o0 m q0 v0 (sumL (X 0)) wx (by omega) c0' (Lib.hid d0)).mono ?_
    rintro e w' ⟨rfl, q, rfl⟩
    exact ⟨by rw [show dgP X m = sumL (X 0) from if_neg hm], below_drewN (Below.refl _ _) q⟩

theorem TotalSquare_both (c0 : Int) (m : Nat) (X : Nat → List Int) :
    ∃ (k : Nat) (c : Int) (L : Nat → List (List Int)) (cd : Int), k ≤ 41 ∧ (∀ i, i < k → (L i).length ≤ 2000 ∧ ∀ l, (rowsOf (L i) l).length ≤ 20) ∧
      (∀ va VA Ba w, Fam w Ba va m VA X → Calls Try.prog 27 #[.agg #[.int .i64 c0, va]] w (ResPS k c L cd w)) ∧
      (∀ va w, RdSS w va m X → Calls Try.prog 28 #[.agg #[.int .i64 c0, va]] w (ResPS k c L cd w)) := by
  by_cases h0 : okPl c0 X m
  · obtain ⟨s0, i0⟩ := isP_yes c0 X m h0
    have hx := dgP_bnd h0
    obtain ⟨d, hd⟩ : ∃ d : Nat, dgP X m = (d : Int) := ⟨(dgP X m).toNat, by omega⟩
    have hmem : ∀ j, j < m → X j ∈ rowsL X m := fun j hj => List.mem_map.2 ⟨j, List.mem_range.2 hj, rfl⟩
    have SP : ∀ va VA Ba w, Fam w Ba va m VA X → Calls Try.prog 27 #[.agg #[.int .i64 c0, va]] w (TotRes (∀ j, j ≤ d → (d + j ≤ 40 ∧ (sqX X m j).length ≤ 2000)) c0 d (sqX X m) w) := fun va VA Ba w ha => by
      obtain ⟨a0, q0, rfl⟩ := ha.rdss.head
      have DG := l08Deg_any h0 a0 q0 w ha.rdss
      rw [hd] at DG
      exact specTot_ok d c0 a0 m q0 (sqX X m) w (by omega) (Lib.hid fun wx hb => s0 _ wx (ha.rdss.below hb)) (Lib.hid DG) (Lib.hid fun j hj wx hb => l08Square_any _ m VA Ba X j wx (ha.below hb) (fun l hl => ⟨by have := (h0.rows l hl).1; have := h0.1; omega, small_of_mono (h0.mono _ (List.mem_map.2 ⟨_, hmem l hl, rfl⟩)) (by omega)⟩) (by omega) h0.few)
    have IM : ∀ va w, RdSS w va m X → Calls Try.prog 28 #[.agg #[.int .i64 c0, va]] w (TotRes (∀ j, j ≤ d → decide (d + j ≤ 40 ∧ (sqX X m j).length ≤ 2000) = true) c0 d (sqX X m) w) := fun va w ha => by
      obtain ⟨a0, q0, rfl⟩ := ha.head
      have DX := degP_any h0 a0 q0 w ha
      rw [hd] at DX
      refine implTot_ok d c0 a0 m q0 (sqX X m) (fun j => decide (d + j ≤ 40 ∧ (sqX X m j).length ≤ 2000)) w (by omega) (Lib.hid fun wx hb => i0 _ wx (ha.below hb)) (Lib.hid DX) (Lib.hid fun j hj wx hb => ?_)
      by_cases h1 : d + j ≤ 40
      · have S := implSq_fit c0 m X j h0 (by omega) (by omega) _ wx (ha.below hb)
        by_cases h2 : (sqX X m j).length ≤ 2000
        · rw [if_pos (decide_eq_true ⟨h1, h2⟩)]
          rw [show fitC c0 (sqX X m j) = c0 from if_pos h2, show fitL (sqX X m j) = sqX X m j from if_pos h2, show fitD (sqX X m j) = 0 from if_pos h2] at S
          exact S
        · rw [if_neg (by simp [h2])]
          rw [show fitC c0 (sqX X m j) = 0 from if_neg h2, show fitL (sqX X m j) = [] from if_neg h2, show fitD (sqX X m j) = 3 from if_neg h2] at S
          exact S
      · rw [if_neg (by simp [h1])]
        exact implSq_much c0 m X j h0 (by omega) (by omega) _ wx (ha.below hb)
    by_cases hG : ∀ j, j ≤ d → (d + j ≤ 40 ∧ (sqX X m j).length ≤ 2000)
    · have hG2 : ∀ j, j ≤ d → decide (d + j ≤ 40 ∧ (sqX X m j).length ≤ 2000) = true := fun j hj => decide_eq_true (hG j hj)
      refine ⟨d + 1, c0, sqX X m, 0, by omega, fun i hi => ⟨(hG i (by omega)).2, rows4 (sqX_row h0 i) (by have := h0.1; omega)⟩, fun va VA Ba w ha => (SP va VA Ba w ha).mono fun e w' h => totRes_yes hG h, fun va w ha => (IM va w ha).mono fun e w' h => totRes_yes hG2 h⟩
    · have hG2 : ¬ ∀ j, j ≤ d → decide (d + j ≤ 40 ∧ (sqX X m j).length ≤ 2000) = true := fun h => hG fun j hj => of_decide_eq_true (h j hj)
      exact ⟨0, c0, sqX X m, 3, by omega, fun i hi => absurd hi (Nat.not_lt_zero _), fun va VA Ba w ha => (SP va VA Ba w ha).mono fun e w' h => totRes_no hG h, fun va w ha => (IM va w ha).mono fun e w' h => totRes_no hG2 h⟩
  · obtain ⟨s0, i0⟩ := isP_no c0 X m h0
    refine ⟨0, 0, fun _ => [], 1, by omega, fun i hi => absurd hi (Nat.not_lt_zero _), ?_, ?_⟩
    · intro va VA Ba w ha
      obtain ⟨a0, q0, rfl⟩ := ha.rdss.head
      refine (specTot_bad c0 a0 m q0 w (Lib.hid fun wx hb => s0 _ wx (ha.rdss.below hb))).mono ?_
      rintro e w' ⟨rfl, hb⟩
      exact resPS_nil _ _ _ hb
    · intro va w ha
      obtain ⟨a0, q0, rfl⟩ := ha.head
      refine (implTot_bad c0 a0 m q0 w (Lib.hid fun wx hb => i0 _ wx (ha.below hb))).mono ?_
      rintro e w' ⟨rfl, hb⟩
      exact resPS_nil _ _ _ hb
end Go.Proofs.Ytnfhfilconcajaa.Pl
end
