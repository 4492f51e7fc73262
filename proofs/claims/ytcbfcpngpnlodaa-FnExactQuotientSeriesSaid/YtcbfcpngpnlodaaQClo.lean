/-
  Plain: closures of profiles, as the program's machine finds them.
-/
import Derived.Test.YtcbfcpngpnlodaaQReq
namespace Go.Proofs.Ytcbfcpngpnlodaa
open Go.RowKit
set_option maxRecDepth 100000
set_option linter.unusedVariables false

/-- What place a + b + 1 has to be at least. -/
def reqF (g : Nat → Int) (a b : Nat) : Int := min (g b) (g a - ((b : Int) + 1))
/-- g is as large as asked at all places below N. -/
def ClosedN (N : Nat) (g : Nat → Int) : Prop := ∀ a b, a + b + 1 < N → reqF g a b ≤ g (a + b + 1)
theorem ClosedN.less {N M : Nat} {g : Nat → Int} (h : ClosedN N g) (hm : M ≤ N) : ClosedN M g := fun a b hab => h a b (by omega)
theorem ClosedN.congr {N : Nat} {g g' : Nat → Int} (h : ClosedN N g) (e : ∀ i, i < N → g i = g' i) : ClosedN N g' := fun a b hab => by
  have := h a b hab
  unfold reqF at *
  rw [← e a (by omega), ← e b (by omega), ← e (a + b + 1) hab]
  exact this
theorem req16_eq (f : Nat → Int) (a b : Nat) : req16 f a b = reqF (at16 f) a b := rfl

/-- The state of the machine that looks at the place S = I + B + 1, f being what it began with (f' what it has). -/
structure CInv (f f' : Nat → Int) (I B : Nat) : Prop where
  lo : ∀ k, at16 f k ≤ at16 f' k
  ten : ∀ k, 0 ≤ at16 f' k ∧ at16 f' k ≤ 10
  low : ∀ g, (∀ k, k < 16 → at16 f k ≤ g k) → ClosedN 16 g → ∀ k, k < 16 → at16 f' k ≤ g k
  done : ∀ a b, (a + b < I + B ∨ (a + b = I + B ∧ a < I)) → reqF (at16 f') a b ≤ at16 f' (a + b + 1)
/-- The closure. -/
structure CloOk (f c : Nat → Int) : Prop where
  lo : ∀ k, at16 f k ≤ at16 c k
  ten : ∀ k, 0 ≤ at16 c k ∧ at16 c k ≤ 10
  low : ∀ g, (∀ k, k < 16 → at16 f k ≤ g k) → ClosedN 16 g → ∀ k, k < 16 → at16 c k ≤ g k
  closed : ClosedN 32 (at16 c)
/-- Behind the sixteen something is asked. -/
def CloFail (f : Nat → Int) : Prop := ∃ a b, 16 ≤ a + b + 1 ∧ a + b + 1 < 26 ∧ ∀ g, (∀ k, k < 16 → at16 f k ≤ g k) → ClosedN 16 g → 0 < reqF g a b

theorem at16_past (f : Nat → Int) {k : Nat} (h : 16 ≤ k) : at16 f k = 0 := if_neg (by omega)
theorem at16_upd (f : Nat → Int) (k : Nat) (x : Int) (h : k < 16) (i : Nat) : at16 (updF f k x) i = if i = k then x else at16 f i := by
  unfold at16 updF
  by_cases hi : i < 16
  · rw [if_pos hi, if_pos hi]
  · rw [if_neg hi, if_neg hi, if_neg (by omega)]
section
variable {f f' : Nat → Int} {I B : Nat}
theorem CInv.start (hf : ∀ k, 0 ≤ at16 f k ∧ at16 f k ≤ 10) : CInv f f 0 0 :=
  ⟨fun k => Int.le_refl _, hf, fun g hg _ k hk => hg k hk, fun a b h => by omega⟩
/-- The place is large enough. -/
theorem CInv.keep (h : CInv f f' I B) (hr : reqF (at16 f') I B ≤ at16 f' (I + B + 1)) : ∀ a b, (a + b < I + B ∨ (a + b = I + B ∧ a ≤ I)) → reqF (at16 f') a b ≤ at16 f' (a + b + 1) := fun a b hab => by
  by_cases e : a = I ∧ b = B
  · rw [e.1, e.2]; exact hr
  · exact h.done a b (by omega)
/-- It is raised. -/
theorem CInv.raise (h : CInv f f' I B) (hr : at16 f' (I + B + 1) < reqF (at16 f') I B) (hs : I + B + 1 < 16) :
    CInv f (updF f' (I + B + 1) (reqF (at16 f') I B)) I B ∧ ∀ a b, (a + b < I + B ∨ (a + b = I + B ∧ a ≤ I)) → reqF (at16 (updF f' (I + B + 1) (reqF (at16 f') I B))) a b ≤ at16 (updF f' (I + B + 1) (reqF (at16 f') I B)) (a + b + 1) := by
  have hold : ∀ k, k ≠ I + B + 1 → at16 (updF f' (I + B + 1) (reqF (at16 f') I B)) k = at16 f' k := fun k hk => by rw [at16_upd _ _ _ hs, if_neg hk]
  have hnew : at16 (updF f' (I + B + 1) (reqF (at16 f') I B)) (I + B + 1) = reqF (at16 f') I B := by rw [at16_upd _ _ _ hs, if_pos rfl]
  have hreq : ∀ a b, a + b ≤ I + B → reqF (at16 (updF f' (I + B + 1) (reqF (at16 f') I B))) a b = reqF (at16 f') a b := fun a b hab => by
    show min (at16 (updF f' (I + B + 1) (reqF (at16 f') I B)) b) (at16 (updF f' (I + B + 1) (reqF (at16 f') I B)) a - ((b : Int) + 1)) = _
    rw [hold a (by omega), hold b (by omega)]
    rfl
  have hall : ∀ a b, (a + b < I + B ∨ (a + b = I + B ∧ a ≤ I)) → reqF (at16 (updF f' (I + B + 1) (reqF (at16 f') I B))) a b ≤ at16 (updF f' (I + B + 1) (reqF (at16 f') I B)) (a + b + 1) := fun a b hab => by
    rw [hreq a b (by omega)]
    rcases hab with h1 | ⟨h1, h2⟩
    · rw [hold _ (by omega)]
      exact h.done a b (.inl h1)
    · rw [h1, hnew]
      by_cases e : a = I
      · rw [e, show b = B by omega]; exact Int.le_refl _
      · have := h.done a b (.inr ⟨h1, by omega⟩)
        rw [h1] at this
        omega
  refine ⟨⟨fun k => ?_, fun k => ?_, fun g hg hc k hk => ?_, fun a b hab => hall a b (by omega)⟩, hall⟩
  · by_cases e : k = I + B + 1
    · rw [e, hnew]; have := h.lo (I + B + 1); omega
    · rw [hold k e]; exact h.lo k
  · by_cases e : k = I + B + 1
    · rw [e, hnew]
      have h1 := h.ten (I + B + 1)
      have h2 := h.ten B
      unfold reqF at *
      omega
    · rw [hold k e]; exact h.ten k
  · by_cases e : k = I + B + 1
    · rw [e, hnew]
      have h1 := h.low g hg hc I (by omega)
      have h2 := h.low g hg hc B (by omega)
      have h3 := hc I B hs
      unfold reqF at *
      omega
    · rw [hold k e]; exact h.low g hg hc k hk
/-- On to the next two numbers of the same sum. -/
theorem CInv.next {f f' : Nat → Int} {I B : Nat} (h : CInv f f' I (B + 1)) (hall : ∀ a b, (a + b < I + (B + 1) ∨ (a + b = I + (B + 1) ∧ a ≤ I)) → reqF (at16 f') a b ≤ at16 f' (a + b + 1)) : CInv f f' (I + 1) B :=
  ⟨h.lo, h.ten, h.low, fun a b hab => hall a b (by omega)⟩
/-- On to the next sum. -/
theorem CInv.wrap (h : CInv f f' I 0) (hall : ∀ a b, (a + b < I + 0 ∨ (a + b = I + 0 ∧ a ≤ I)) → reqF (at16 f') a b ≤ at16 f' (a + b + 1)) : CInv f f' 0 (I + 1) :=
  ⟨h.lo, h.ten, h.low, fun a b hab => hall a b (by omega)⟩
theorem CInv.end (h : CInv f f' 30 0) (hall : ∀ a b, (a + b < 30 + 0 ∨ (a + b = 30 + 0 ∧ a ≤ 30)) → reqF (at16 f') a b ≤ at16 f' (a + b + 1)) : CloOk f f' :=
  ⟨h.lo, h.ten, h.low, fun a b hab => hall a b (by omega)⟩
theorem CInv.fail (h : CInv f f' I B) (hr : at16 f' (I + B + 1) < reqF (at16 f') I B) (hs : 16 ≤ I + B + 1) : CloFail f := by
  rw [at16_past f' hs] at hr
  have hI : I < 16 := Nat.lt_of_not_le fun h1 => by
    have := at16_past f' h1
    unfold reqF at hr
    omega
  have hB : B < 16 := Nat.lt_of_not_le fun h1 => by
    have := at16_past f' h1
    unfold reqF at hr
    omega
  have h10 := h.ten I
  refine ⟨I, B, hs, ?_, fun g hg hc => ?_⟩
  · unfold reqF at hr; omega
  · have h1 := h.low g hg hc I hI
    have h2 := h.low g hg hc B hB
    unfold reqF at *
    omega
end
/-- What is closed is its own closure. -/
theorem CloOk.self {f c : Nat → Int} (h : CloOk f c) (hf : ClosedN 16 (at16 f)) (k : Nat) : at16 c k = at16 f k := by
  by_cases hk : k < 16
  · have h1 := h.lo k
    have h2 := h.low (at16 f) (fun _ _ => Int.le_refl _) hf k hk
    omega
  · rw [at16_past _ (by omega), at16_past _ (by omega)]
theorem CloFail.not {f : Nat → Int} (h : CloFail f) : ¬ ClosedN 26 (at16 f) := fun hc => by
  obtain ⟨a, b, h1, h2, h3⟩ := h
  have h4 := h3 (at16 f) (fun _ _ => Int.le_refl _) (hc.less (by omega))
  have h5 := hc a b h2
  rw [at16_past f h1] at h5
  omega
end Go.Proofs.Ytcbfcpngpnlodaa
