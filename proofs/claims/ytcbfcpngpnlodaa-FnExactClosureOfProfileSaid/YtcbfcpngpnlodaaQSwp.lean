/-
  Plain: closures of profiles, as the specification finds them: sweeps over 26 places.
-/
import Derived.Test.YtcbfcpngpnlodaaQClo
namespace Go.Proofs.Ytcbfcpngpnlodaa
open Go.RowKit
set_option maxRecDepth 100000
set_option linter.unusedVariables false

/-- What holds of the 26 places. -/
structure SInv (f F : Nat → Int) : Prop where
  lo : ∀ k, k < 26 → f k ≤ F k
  ten : ∀ k, k < 26 → 0 ≤ F k ∧ F k ≤ 10
  low : ∀ g, (∀ k, k < 26 → f k ≤ g k) → ClosedN 26 g → ∀ k, k < 26 → F k ≤ g k
/-- The sum of the first n places. -/
def potF (F : Nat → Int) : Nat → Nat
  | 0 => 0
  | n + 1 => potF F n + (F n).toNat
theorem potF_le (F : Nat → Int) : ∀ n, (∀ k, k < n → F k ≤ 10) → potF F n ≤ 10 * n
  | 0, _ => by simp [potF]
  | n + 1, h => by
    have h1 := potF_le F n (fun k hk => h k (by omega))
    have h2 := h n (by omega)
    rw [potF]
    omega
theorem potF_congr {F F' : Nat → Int} : ∀ n, (∀ k, k < n → F k = F' k) → potF F n = potF F' n
  | 0, _ => rfl
  | n + 1, h => by rw [potF, potF, potF_congr n (fun k hk => h k (by omega)), h n (by omega)]
theorem potF_upd (F : Nat → Int) (t : Nat) (x : Int) (h0 : 0 ≤ F t) (hx : F t < x) : ∀ n, t < n → potF F n < potF (updF F t x) n
  | 0, h => by omega
  | n + 1, h => by
    rw [potF, potF]
    by_cases e : n = t
    · have h1 : potF (updF F t x) n = potF F n := potF_congr n (fun k hk => by unfold updF; rw [if_neg (by omega)])
      rw [h1]
      have h2 : updF F t x n = x := by unfold updF; rw [if_pos e]
      rw [h2, e]
      omega
    · have h1 := potF_upd F t x h0 hx n (by omega)
      have h2 : updF F t x n = F n := by unfold updF; rw [if_neg e]
      rw [h2]
      omega
theorem SInv.start {n : Nat} {G : Nat → Int} (hok : okPr G n) (h : ∀ k, 0 ≤ padF n G k ∧ padF n G k ≤ 10) : SInv (padF n G) (padF n G) :=
  ⟨fun _ _ => Int.le_refl _, fun k _ => h k, fun g hg _ k hk => hg k hk⟩
theorem SInv.raise {f F : Nat → Int} {I J : Nat} (h : SInv f F) (hr : F (I + J + 1) < reqF F I J) (hs : I + J + 1 < 26) : SInv f (updF F (I + J + 1) (reqF F I J)) := by
  have hold : ∀ k, k ≠ I + J + 1 → updF F (I + J + 1) (reqF F I J) k = F k := fun k hk => by unfold updF; rw [if_neg hk]
  have hnew : updF F (I + J + 1) (reqF F I J) (I + J + 1) = reqF F I J := by unfold updF; rw [if_pos rfl]
  refine ⟨fun k hk => ?_, fun k hk => ?_, fun g hg hc k hk => ?_⟩
  · by_cases e : k = I + J + 1
    · rw [e, hnew]; have := h.lo (I + J + 1) hs; omega
    · rw [hold k e]; exact h.lo k hk
  · by_cases e : k = I + J + 1
    · rw [e, hnew]
      have h1 := h.ten (I + J + 1) hs
      have h2 := h.ten J (by omega)
      unfold reqF at *
      omega
    · rw [hold k e]; exact h.ten k hk
  · by_cases e : k = I + J + 1
    · rw [e, hnew]
      have h1 := h.low g hg hc I (by omega)
      have h2 := h.low g hg hc J (by omega)
      have h3 := hc I J hs
      unfold reqF at *
      omega
    · rw [hold k e]; exact h.low g hg hc k hk
/-- What the sweep has seen: unless it changed something, all is as asked, and as it was. -/
structure Swept (F0 F : Nat → Int) (c : Bool) (I J : Nat) : Prop where
  no : c = false → F = F0 ∧ ∀ a b, a + b + 1 < 26 → (a < I ∨ (a = I ∧ b < J)) → reqF F a b ≤ F (a + b + 1)
  yes : c = true → potF F0 26 < potF F 26
theorem Swept.start (F : Nat → Int) : Swept F F false 0 0 := ⟨fun _ => ⟨rfl, fun a b _ h => by omega⟩, fun h => by cases h⟩
theorem Swept.keep {F0 F : Nat → Int} {c : Bool} {I J : Nat} (h : Swept F0 F c I J) (hr : reqF F I J ≤ F (I + J + 1)) : Swept F0 F c I (J + 1) :=
  ⟨fun hc => ⟨(h.no hc).1, fun a b h1 h2 => by
    by_cases e : a = I ∧ b = J
    · rw [e.1, e.2]; exact hr
    · exact (h.no hc).2 a b h1 (by omega)⟩, h.yes⟩
theorem Swept.raise {f F0 F : Nat → Int} {c : Bool} {I J : Nat} (h : Swept F0 F c I J) (hi : SInv f F) (hr : F (I + J + 1) < reqF F I J) (hs : I + J + 1 < 26) : Swept F0 (updF F (I + J + 1) (reqF F I J)) true I (J + 1) :=
  ⟨fun hc => by (cases hc), fun _ => by
    have h1 := potF_upd F (I + J + 1) (reqF F I J) (hi.ten _ hs).1 hr 26 hs
    cases c with
    | true => have := h.yes rfl; omega
    | false => have := (h.no rfl).1; rw [← this]; exact h1⟩
theorem Swept.row {F0 F : Nat → Int} {c : Bool} {I J : Nat} (h : Swept F0 F c I J) (hJ : ¬ I + J + 1 < 26) : Swept F0 F c (I + 1) 0 :=
  ⟨fun hc => ⟨(h.no hc).1, fun a b h1 h2 => (h.no hc).2 a b h1 (by omega)⟩, h.yes⟩
theorem Swept.closed {F0 F : Nat → Int} (h : Swept F0 F false 26 0) : F = F0 ∧ ClosedN 26 F := ⟨(h.no rfl).1, fun a b hab => (h.no rfl).2 a b hab (by omega)⟩

/-- The machine's closure and that of the sweeps are the same. -/
theorem clo_same {n : Nat} {G c F : Nat → Int} (hn : n ≤ 16) (h1 : CloOk (padF n G) c) (h2 : SInv (padF n G) F) (h3 : ClosedN 26 F) : ∀ k, k < 26 → F k = at16 c k := fun k hk => by
  have e : ∀ i, at16 (padF n G) i = padF n G i := fun i => by
    unfold at16
    split
    · rfl
    · unfold padF; rw [if_neg (by omega)]
  have u1 := h2.low (at16 c) (fun i _ => by rw [← e i]; exact h1.lo i) (h1.closed.less (by omega)) k hk
  by_cases hk16 : k < 16
  · have u2 := h1.low F (fun i hi => by rw [e i]; exact h2.lo i (by omega)) (h3.less (by omega)) k hk16
    omega
  · have u2 := h2.ten k hk
    rw [at16_past c (by omega)] at u1 ⊢
    omega
theorem clo_fail {n : Nat} {G F : Nat → Int} (hn : n ≤ 16) (h1 : CloFail (padF n G)) (h2 : SInv (padF n G) F) (h3 : ClosedN 26 F) : ∃ k, 16 ≤ k ∧ k < 26 ∧ 0 < F k := by
  obtain ⟨a, b, g1, g2, g3⟩ := h1
  have e : ∀ i, at16 (padF n G) i = padF n G i := fun i => by
    unfold at16
    split
    · rfl
    · unfold padF; rw [if_neg (by omega)]
  have := g3 F (fun i hi => by rw [e i]; exact h2.lo i (by omega)) (h3.less (by omega))
  have := h3 a b g2
  exact ⟨a + b + 1, g1, g2, by omega⟩
end Go.Proofs.Ytcbfcpngpnlodaa
