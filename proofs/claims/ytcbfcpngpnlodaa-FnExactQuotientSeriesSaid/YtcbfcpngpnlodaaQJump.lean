/-
  A scope with two labels, between which the run jumps: what holds at each, and a measure that every jump lowers.
-/
import Derived.Test.YtcbfcpngpnlodaaQReq
import Derived.ScopeJumps
import Derived.WalkMore
namespace Go.Proofs.Ytcbfcpngpnlodaa
open Go Go.RowKit
set_option linter.unusedVariables false
set_option maxRecDepth 100000

/-- As Q; by a goto to one of two labels what holds there. -/
def jumpTo (l0 l1 : Nat) (J0 J1 : Act → World → Prop) (Q : Exit → Act → World → Prop) : Exit → Act → World → Prop
  | .goto l, a, w => (l = l0 ∧ J0 a w) ∨ (l = l1 ∧ J1 a w)
  | e, a, w => Q e a w
theorem jumpTo_mono {l0 l1 : Nat} {J0 J1 J0' J1' : Act → World → Prop} {Q : Exit → Act → World → Prop} (h0 : ∀ a w, J0 a w → J0' a w) (h1 : ∀ a w, J1 a w → J1' a w) : ∀ e a w, jumpTo l0 l1 J0 J1 Q e a w → jumpTo l0 l1 J0' J1' Q e a w
  | .goto l, a, w, h => h.imp (fun x => ⟨x.1, h0 _ _ x.2⟩) (fun x => ⟨x.1, h1 _ _ x.2⟩)
  | .normal, _, _, h => h
  | .exit _, _, _, h => h
  | .ret, _, _, h => h
  | .panic _, _, _, h => h
  | .outgrown, _, _, h => h

theorem wp_scope_two {P : Program} {a : Act} {w : World} {Q : Exit → Act → World → Prop} {c r0 r1 : Code} (l0 l1 : Nat) (J0 J1 : Act → World → Prop) (m0 m1 : Act → World → Nat)
    (h0 : findLabel c l0 = some (.seq .skip r0)) (h1 : findLabel c l1 = some (.seq .skip r1))
    (pass0 : ∀ N a w, J0 a w → m0 a w ≤ N → r0.wp P (jumpTo l0 l1 (fun a w => J0 a w ∧ m0 a w < N) (fun a w => J1 a w ∧ m1 a w < N) Q) a w)
    (pass1 : (∀ N a w, J0 a w → m0 a w ≤ N → r0.wp P (jumpTo l0 l1 (fun a w => J0 a w ∧ m0 a w < N) (fun a w => J1 a w ∧ m1 a w < N) Q) a w) →
      ∀ N a w, J1 a w → m1 a w ≤ N → r1.wp P (jumpTo l0 l1 (fun a w => J0 a w ∧ m0 a w < N) (fun a w => J1 a w ∧ m1 a w < N) Q) a w)
    (first : (∀ a w, J1 a w → r1.wp P (jumpTo l0 l1 J0 J1 Q) a w) → c.wp P (jumpTo l0 l1 J0 J1 Q) a w) : (Code.scope c).wp P Q a w := by
  have p1 := pass1 pass0
  intro b k cs
  have g0 : gotoIn l0 (.inScope c :: k) = some (.code (.seq .skip r0) :: .inScope c :: k) := by simp [gotoIn, h0]
  have g1 : gotoIn l1 (.inScope c :: k) = some (.code (.seq .skip r1) :: .inScope c :: k) := by simp [gotoIn, h1]
  have fin : ∀ (r : Code) (N : Nat) a w, (∀ n a w, n < N → (m0 a w = n → J0 a w → ∃ e a' w', Q e a' w' ∧ Arrives P (lone (b.at a (.code (.seq .skip r0) :: .inScope c :: k)) cs w) b k cs e a' w') ∧ (m1 a w = n → J1 a w → ∃ e a' w', Q e a' w' ∧ Arrives P (lone (b.at a (.code (.seq .skip r1) :: .inScope c :: k)) cs w) b k cs e a' w')) →
      (Code.seq .skip r).wp P (jumpTo l0 l1 (fun a w => J0 a w ∧ m0 a w < N) (fun a w => J1 a w ∧ m1 a w < N) Q) a w → ∃ e a' w', Q e a' w' ∧ Arrives P (lone (b.at a (.code (.seq .skip r) :: .inScope c :: k)) cs w) b k cs e a' w' := by
    intro r N a w ih hr
    obtain ⟨e, a₁, w₁, hq, harr⟩ := hr b (.inScope c :: k) cs
    cases e with
    | normal => exact ⟨.normal, a₁, w₁, hq, Steps.trans harr (.one step_inScope)⟩
    | exit id => exact ⟨.exit id, a₁, w₁, hq, fun k' hk => harr k' (by simp [exitTo, hk])⟩
    | goto l' =>
      rcases hq with ⟨rfl, hJ, hlt⟩ | ⟨rfl, hJ, hlt⟩
      · obtain ⟨e₂, a₂, w₂, hq₂, harr₂⟩ := (ih _ a₁ w₁ hlt).1 rfl hJ
        exact ⟨e₂, a₂, w₂, hq₂, .of_steps (harr _ g0) harr₂⟩
      · obtain ⟨e₂, a₂, w₂, hq₂, harr₂⟩ := (ih _ a₁ w₁ hlt).2 rfl hJ
        exact ⟨e₂, a₂, w₂, hq₂, .of_steps (harr _ g1) harr₂⟩
    | ret => exact ⟨_, a₁, w₁, hq, harr⟩
    | panic ch => exact ⟨_, a₁, w₁, hq, harr⟩
    | outgrown => exact ⟨_, a₁, w₁, hq, harr⟩
  have key : ∀ n a w, (m0 a w = n → J0 a w → ∃ e a' w', Q e a' w' ∧ Arrives P (lone (b.at a (.code (.seq .skip r0) :: .inScope c :: k)) cs w) b k cs e a' w') ∧ (m1 a w = n → J1 a w → ∃ e a' w', Q e a' w' ∧ Arrives P (lone (b.at a (.code (.seq .skip r1) :: .inScope c :: k)) cs w) b k cs e a' w') := by
    intro n
    induction n using Nat.strongRecOn with
    | _ n ih =>
      intro a w
      refine ⟨fun hn hJ => fin r0 n a w (fun q a w hq => ih q hq a w) ?_, fun hn hJ => fin r1 n a w (fun q a w hq => ih q hq a w) ?_⟩
      · exact wp_seq (wp_skip (pass0 n a w hJ (by omega)))
      · exact wp_seq (wp_skip (p1 n a w hJ (by omega)))
  obtain ⟨e, a₁, w₁, hq, harr⟩ := first (fun a w hJ => Code.wp_mono (jumpTo_mono (fun _ _ h => h.1) (fun _ _ h => h.1)) (p1 (m1 a w) a w hJ (Nat.le_refl _))) b (.inScope c :: k) cs
  cases e with
  | normal => exact ⟨.normal, a₁, w₁, hq, .head step_scope (Steps.trans harr (.one step_inScope))⟩
  | exit id => exact ⟨.exit id, a₁, w₁, hq, fun k' hk => .head step_scope (harr k' (by simp [exitTo, hk]))⟩
  | goto l' =>
    rcases hq with ⟨rfl, hJ⟩ | ⟨rfl, hJ⟩
    · obtain ⟨e₂, a₂, w₂, hq₂, harr₂⟩ := (key _ a₁ w₁).1 rfl hJ
      exact ⟨e₂, a₂, w₂, hq₂, .of_steps (.head step_scope (harr _ g0)) harr₂⟩
    · obtain ⟨e₂, a₂, w₂, hq₂, harr₂⟩ := (key _ a₁ w₁).2 rfl hJ
      exact ⟨e₂, a₂, w₂, hq₂, .of_steps (.head step_scope (harr _ g1)) harr₂⟩
  | ret => exact ⟨_, a₁, w₁, hq, .of_steps (.one step_scope) harr⟩
  | panic ch => exact ⟨_, a₁, w₁, hq, .of_steps (.one step_scope) harr⟩
  | outgrown => exact ⟨_, a₁, w₁, hq, .of_steps (.one step_scope) harr⟩
end Go.Proofs.Ytcbfcpngpnlodaa
