/-
  Joined: PTim2.
-/
import Derived.Test.YtnmilkehggjpfaaZBMil35
import Derived.Test.YtnmilkehggjpfaaZBMil28
section
namespace Go.Proofs.Ytnmilkehggjpfaa.Ml
open Go.RowKit
set_option linter.unusedVariables false
set_option maxRecDepth 100000

/-- What occurs an odd number of times, in order. -/
def oddL : List (List Int) → List (List Int)
  | [] => []
  | x :: l => mrg [x] (oddL l)
theorem oddL_spec : ∀ l : List (List Int), Asc (oddL l) ∧ ∀ z, z ∈ oddL l ↔ par l z
  | [] => ⟨List.Pairwise.nil, fun z => by simp [oddL, par]⟩
  | x :: l => by
    obtain ⟨h1, h2⟩ := oddL_spec l
    obtain ⟨k1, k2⟩ := mrg_spec [x] (oddL l) (List.pairwise_singleton _ _) h1
    refine ⟨k1, fun z => ?_⟩
    rw [oddL, k2, h2]
    show _ ↔ (x = z ∧ ¬ par l z) ∨ (x ≠ z ∧ par l z)
    by_cases e : x = z
    · subst e; simp
    · have : z ∉ [x] := by simp; exact fun h => e h.symm
      simp [this, e]
theorem oddL_eq {l : List (List Int)} {zs : List (List Int)} (ha : Asc zs) (h : ∀ z, z ∈ zs ↔ par l z) : zs = oddL l :=
  asc_ext _ _ ha (oddL_spec l).1 fun z => by rw [h, (oddL_spec l).2]
theorem par_flat_congr {f g : Nat → List (List Int)} (z : List Int) : ∀ l : List Nat, (∀ i ∈ l, par (f i) z ↔ par (g i) z) → (par (l.flatMap f) z ↔ par (l.flatMap g) z)
  | [], _ => Iff.rfl
  | a :: l, h => by
    rw [List.flatMap_cons, List.flatMap_cons, par_append, par_append, h a List.mem_cons_self, par_flat_congr z l fun i hi => h i (List.mem_cons_of_mem _ hi)]
/-- The product of two elements. -/
structure Fac (X Y : Nat → List Int) (p q : Nat) : Prop where
  l : okMl X p
  r : okMl Y q
  d : 0 < p → 0 < q → dgL (X 0) + dgL (Y 0) ≤ 40
theorem Fac.swap {X Y : Nat → List Int} {p q : Nat} (h : Fac X Y p q) : Fac Y X q p := ⟨h.r, h.l, fun a b => by have := h.d b a; omega⟩
theorem Fac.pair {X Y : Nat → List Int} {p q : Nat} (h : Fac X Y p q) (i k : Nat) (hi : i < p) (hk : k < q) : goodE (X i) ∧ goodE (Y k) ∧ dgL (X i) + dgL (Y k) ≤ 40 := by
  refine ⟨(h.l.2 i hi).1, (h.r.2 k hk).1, ?_⟩
  rw [(h.l.2 i hi).2, (h.r.2 k hk).2]
  exact h.d (by omega) (by omega)
theorem Fac.same {X Y : Nat → List Int} {p q : Nat} (h : Fac X Y p q) (z : List Int) : par (allTo X Y q p) z ↔ par (call X Y q p) z := by
  refine par_flat_congr z _ fun i hi => par_flat_congr z _ fun k hk => ?_
  obtain ⟨a, b, c⟩ := h.pair i k (List.mem_range.1 hi) (List.mem_range.1 hk)
  exact (cntL_par a b c z).symm
/-- The terms of the product. -/
noncomputable def prodT (X Y : Nat → List Int) (p q : Nat) : List (List Int) := oddL (call X Y q p)
theorem prodT_spec (X Y : Nat → List Int) (p q : Nat) : Asc (prodT X Y p q) ∧ ∀ z, z ∈ prodT X Y p q ↔ par (call X Y q p) z := oddL_spec _
theorem Fac.few {X Y : Nat → List Int} {p q : Nat} (h : Fac X Y p q) : (prodT X Y p q).length ≤ 15000 := by
  have h1 := nodup_len _ (call X Y q p) (prodT_spec X Y p q).1.nodup fun x hx => par_mem _ _ (((prodT_spec X Y p q).2 x).1 hx)
  have := call_all_few h.l h.r h.d
  omega
theorem Fac.ok {X Y : Nat → List Int} {p q : Nat} (h : Fac X Y p q) : ∀ x ∈ prodT X Y p q, x.length ≤ 5 ∧ ∀ z ∈ x, 0 ≤ z ∧ z ≤ 10000000 := fun x hx => call_ok h.l h.r x (par_mem _ _ (((prodT_spec X Y p q).2 x).1 hx))
theorem rows_short {L : List (List Int)} (h : ∀ x ∈ L, x.length ≤ 5 ∧ ∀ z ∈ x, 0 ≤ z ∧ z ≤ 10000000) (i : Nat) : (rowsOf L i).length ≤ 20 := by
  unfold rowsOf
  by_cases k : i < L.length
  · rw [List.getElem?_eq_getElem k]
    show L[i].length ≤ 20
    have := (h _ (List.getElem_mem k)).1
    omega
  · rw [List.getElem?_eq_none (by omega)]; exact Nat.zero_le _
theorem rows_wf {L : List (List Int)} (h : ∀ x ∈ L, x.length ≤ 5 ∧ ∀ z ∈ x, 0 ≤ z ∧ z ≤ 10000000) (i : Nat) : ∀ z ∈ rowsOf L i, (Lit.int .i64 z).wf = true := fun z hz => by
  unfold rowsOf at hz
  by_cases k : i < L.length
  · rw [List.getElem?_eq_getElem k] at hz
    have := (h _ (List.getElem_mem k)).2 z hz
    exact (Bool.and_eq_true _ _).mpr ⟨decide_eq_true (by omega : (-9223372036854775808 : Int) ≤ z), decide_eq_true (by omega : z ≤ (9223372036854775807 : Int))⟩
  · rw [List.getElem?_eq_none (by omega)] at hz; cases hz

theorem allTo_len {X Y : Nat → List Int} {p q : Nat} (h : Fac X Y p q) (i k : Nat) (hi : i < p) (hk : k ≤ q) : (allTo X Y q i ++ rowTo X Y i k).length ≤ 100000000000 := by
  have hp := okMl_few h.l
  have hq := okMl_few h.r
  have row : ∀ i k, i < p → k ≤ q → (rowTo X Y i k).length ≤ k * 10000000 := fun i k hi => by
    induction k with
    | zero => intro _; simp [rowTo]
    | succ k ih =>
      intro hk
      obtain ⟨a, b, _⟩ := h.pair i k hi (by omega)
      have := prodL_few a b
      rw [rowTo_succ, List.length_append, Nat.succ_mul]
      have := ih (by omega)
      omega
  have all : ∀ i, i ≤ p → (allTo X Y q i).length ≤ i * (q * 10000000) := fun i => by
    induction i with
    | zero => intro _; simp [allTo]
    | succ i ih =>
      intro hi
      have := row i q (by omega) (Nat.le_refl _)
      rw [allTo_succ, List.length_append, Nat.succ_mul]
      have := ih (by omega)
      omega
  have h1 := row i k hi hk
  have h2 := all i (by omega)
  have h3 : i * (q * 10000000) ≤ 82 * (82 * 10000000) := Nat.mul_le_mul (by omega) (Nat.mul_le_mul_right _ hq)
  rw [List.length_append]
  omega

/-- spec.l04Times gives the product's terms. -/
def TermsPost (L : List (List Int)) (w : World) (e : Ending) (w' : World) : Prop := ∃ V VS, e = .returned V ∧ FamL w' w.heap.size V VS L ∧ Sep L.length VS ∧ Below w.heap.size w w'
theorem specTimes {X Y : Nat → List Int} {p q : Nat} (h : Fac X Y p q) (va vb : Value) (VA VB : Nat → Value) (Ba Bb : Nat) (w : World) (ha : Fam w Ba va p VA X) (hb : Fam w Bb vb q VB Y) : Calls Try.prog 117 #[va, vb] w (TermsPost (prodT X Y p q) w) := by
  have hp := okMl_few h.l
  have hq := okMl_few h.r
  refine (l04Times_any va vb VA VB X Y p q Ba Bb w ha hb (by omega) (by omega) (fun i hi => ⟨good_len (h.l.2 i hi).1, good_small (h.l.2 i hi).1⟩) (fun i hi => ⟨good_len (h.r.2 i hi).1, good_small (h.r.2 i hi).1⟩) (fun i k hi hk => by
    obtain ⟨a, b, _⟩ := h.pair i k hi hk
    have := prodL_few a b
    omega) (fun i k hi hk => allTo_len h i k hi hk)).mono ?_
  rintro e w' ⟨S, VS, M, rfl, hT⟩
  have e1 : M = prodT X Y p q := oddL_eq hT.asc fun z => by
    rw [← h.same z, par_count, ← hT.par z, asc_count hT.asc]
    by_cases c : z ∈ M <;> simp [c]
  subst e1
  exact ⟨S, VS, rfl, hT.fam, hT.sep, hT.bel⟩
theorem implTimes {X Y : Nat → List Int} {p q : Nat} (h : Fac X Y p q) (va vb : Value) (w : World) (ha : RdSS w va p X) (hb : RdSS w vb q Y) : Calls Try.prog 116 #[.agg #[va], .agg #[vb]] w (ResT (prodT X Y p q) w) := by
  obtain ⟨aa, ca, rfl⟩ := ha.head
  obtain ⟨ab, cb, rfl⟩ := hb.head
  refine (timesM_any aa ab ca cb p q X Y w ha hb h.l h.r h.d).mono ?_
  rintro e w' ⟨V, VS, zs, rfl, hF, hS, hB, hA, hP⟩
  have e1 : zs = prodT X Y p q := oddL_eq hA hP
  subst e1
  exact ⟨V, VS, rfl, hF, hS, hB⟩

end Go.Proofs.Ytnmilkehggjpfaa.Ml
end
