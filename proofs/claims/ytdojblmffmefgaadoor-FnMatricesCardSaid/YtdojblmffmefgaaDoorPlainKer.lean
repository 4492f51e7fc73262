/-
  Kernels, solutions and meets: the two ways (a list of rows in the order of their finding; an array by pivots) find the same masks. No program in sight.
-/
import Derived.Test.YtdojblmffmefgaaDoorPlainSpan
namespace Go.Proofs.YtdojblmffmefgaaDoor
set_option linter.unusedVariables false

/-! The array that is reduced all through is unique. -/

def Full (S : Nat → TR) : Prop := ∀ i j, i < 60 → j < 60 → i ≠ j → (S i).1 ≠ 0 → (S j).1.testBit i = false

theorem addS_zero {S : Nat → TR} {r : TR} (h : (rmd S r 60).1 = 0) : addS S r = S := by unfold addS; simp only [h, if_true]
theorem addS_at {S : Nat → TR} {r : TR} (h : (rmd S r 60).1 ≠ 0) (j : Nat) : addS S r j = if j = tz (rmd S r 60).1 then rmd S r 60 else nxt (rmd S r 60) j (S j) := by
  unfold addS; simp only [h, if_false]

/-- The pivot of what remains is free. -/
theorem rem_pivot {S : Nat → TR} (h : Piv S) (r : TR) (h1 : r.1 < 2 ^ 60) (h2 : r.2 < 2 ^ 60) (h0 : (rmd S r 60).1 ≠ 0) :
    tz (rmd S r 60).1 < 60 ∧ (S (tz (rmd S r 60).1)).1 = 0 ∧ (rmd S r 60).1.testBit (tz (rmd S r 60).1) = true ∧ (∀ i, i < tz (rmd S r 60).1 → (rmd S r 60).1.testBit i = false) := by
  obtain ⟨a, b⟩ := rmd_lt h r h1 h2 60 (Nat.le_refl _)
  have hcl := rmd_clear h r 60 (Nat.le_refl _)
  obtain ⟨t1, t2⟩ := tz_spec _ h0 (Nat.lt_trans a (by decide))
  have tp := bit_lt a t1
  refine ⟨tp, ?_, t1, t2⟩
  apply Decidable.byContradiction
  intro hn
  have := hcl _ tp hn; rw [t1] at this; cases this

theorem Full.add {S : Nat → TR} (hp : Piv S) (h : Full S) (r : TR) (h1 : r.1 < 2 ^ 60) (h2 : r.2 < 2 ^ 60) : Full (addS S r) := by
  by_cases h0 : (rmd S r 60).1 = 0
  · rw [addS_zero h0]; exact h
  · have hcl := rmd_clear hp r 60 (Nat.le_refl _)
    obtain ⟨p1, p2, p3, p4⟩ := rem_pivot hp r h1 h2 h0
    have hat := addS_at (r := r) h0
    intro i j hi hj hij hn
    rw [hat i] at hn
    rw [hat j]
    generalize rmd S r 60 = left at *
    by_cases ei : i = tz left.1
    · rw [if_neg (by omega)]
      unfold nxt
      rw [← ei] at p3 ⊢
      split
      · rename_i hb; simp only [addTR, Nat.testBit_xor, hb, p3]; rfl
      · rename_i hb; simpa using hb
    · rw [if_neg ei] at hn
      have hSi : (S i).1 ≠ 0 := by
        intro e
        apply hn
        unfold nxt
        rw [if_neg (by rw [e]; simp)]
        exact e
      split
      · exact hcl i hi hSi
      · unfold nxt
        split
        · simp only [addTR, Nat.testBit_xor, h i j hi hj hij hSi, hcl i hi hSi]; rfl
        · exact h i j hi hj hij hSi

theorem full_zero : Full (fun _ => (0, 0)) := fun i j _ _ _ h => absurd rfl h

theorem uniq_half {S T : Nat → TR} (hS : Piv S) (hT : Piv T) (h : ∀ j, j < 60 → InSp (fun k => (T k).1) 60 (S j).1) (j : Nat) (hj : j < 60) (h0 : (S j).1 ≠ 0) : (T j).1 ≠ 0 := by
  obtain ⟨m, hm⟩ := h j hj
  obtain ⟨l1, l2⟩ := hS.low j hj h0
  have a := hT.fe.indep m j (by omega) (fun i hi _ => by rw [← hm]; exact l2 i hi)
  have b := comb_bit (fun k => (T k).1) 60 m j j hj a (fun i hi hi2 => by
    by_cases e : (T i).1 = 0
    · show (T i).1.testBit j = false
      rw [e]; simp
    · exact (hT.low i hi2 e).2 j hi)
  rw [← hm, l1] at b
  intro e
  simp [e] at b

theorem uniq {S T : Nat → TR} (hS : Piv S) (hT : Piv T) (fS : Full S) (fT : Full T) (h1 : ∀ j, j < 60 → InSp (fun k => (T k).1) 60 (S j).1) (h2 : ∀ j, j < 60 → InSp (fun k => (S k).1) 60 (T j).1) :
    ∀ j, j < 60 → (S j).1 = (T j).1 := by
  intro j hj
  by_cases h0 : (S j).1 = 0
  · apply Decidable.byContradiction
    intro hne
    exact uniq_half hT hS h2 j hj (fun e => hne (by rw [h0, e])) h0
  · have hT0 := uniq_half hS hT h1 j hj h0
    have hy : (S j).1 ^^^ (T j).1 = 0 := by
      refine hT.fe.zero _ ((h1 j hj).xor (InSp.row (fun k => (T k).1) 60 j hj)) ?_
      intro i hi hn
      rw [Nat.testBit_xor]
      by_cases e : i = j
      · subst e; rw [(hS.low i hi h0).1, (hT.low i hi hn).1]; rfl
      · have hSi := uniq_half hT hS h2 i hi hn
        rw [fS i j hi hj e hSi, fT i j hi hj e hn]; rfl
    have := congrArg (fun z => z ^^^ (T j).1) hy
    simpa [Nat.xor_assoc] using this

theorem rowsK_same {S T : Nat → TR} (k : Nat) (h : ∀ j, j < k → (S j).1 = (T j).1) : rowsK S k = rowsK T k := by
  induction k with
  | zero => rfl
  | succ k ih => rw [rowsK, rowsK, ih (fun j hj => h j (by omega)), h k (by omega)]

/-- Predicates that hold of sums. -/
def Clo (C : Nat → Nat → Prop) : Prop := C 0 0 ∧ ∀ a b c d, C a b → C c d → C (a ^^^ c) (b ^^^ d)

theorem Clo.comb {C : Nat → Nat → Prop} (h : Clo C) (T U : Nat → Nat) (n m : Nat) (hr : ∀ k, k < n → C (T k) (U k)) : C (comb T n m) (comb U n m) := by
  induction n with
  | zero => exact h.1
  | succ n ih =>
    rw [comb_succ, comb_succ]
    refine h.2 _ _ _ _ (ih fun k hk => hr k (by omega)) ?_
    split
    · exact hr n (by omega)
    · exact h.1

theorem Clo.rem {C : Nat → Nat → Prop} (h : Clo C) {R : Nat → TR} {p : Nat → Nat} {n : Nat} (hr : ∀ k, k < n → C (R k).1 (R k).2) (r : TR) (hc : C r.1 r.2) : C (rmp R p r n).1 (rmp R p r n).2 := by
  obtain ⟨m, _, _, he⟩ := rmp_comb R p r n
  rw [he]
  exact h.2 _ _ _ _ hc (h.comb _ _ _ _ hr)

theorem Clo.back {C : Nat → Nat → Prop} (h : Clo C) {R : Nat → TR} {p : Nat → Nat} {n : Nat} (hr : ∀ k, k < n → C (R k).1 (R k).2) (r : TR) (hc : C (rmp R p r n).1 (rmp R p r n).2) : C r.1 r.2 := by
  obtain ⟨m, _, _, he⟩ := rmp_comb R p r n
  have := h.2 _ _ _ _ hc (h.comb (fun k => (R k).1) (fun k => (R k).2) n m hr)
  rw [he] at this
  simpa [Nat.xor_assoc] using this

theorem Clo.addS' {C : Nat → Nat → Prop} (h : Clo C) {S : Nat → TR} (hr : ∀ k, k < 60 → C (S k).1 (S k).2) (r : TR) (hc : C r.1 r.2) : ∀ k, k < 60 → C (addS S r k).1 (addS S r k).2 := by
  intro k hk
  by_cases h0 : (rmd S r 60).1 = 0
  · rw [addS_zero h0]; exact hr k hk
  · have hl : C (rmd S r 60).1 (rmd S r 60).2 := by rw [rmd_rmp]; exact h.rem hr r hc
    rw [addS_at h0]
    split
    · exact hl
    · unfold nxt
      split
      · exact h.2 _ _ _ _ (hr k hk) hl
      · exact hr k hk

/-- What the array held, and the row that was joined, are sums of what it holds now. -/
theorem Clo.wasS {C : Nat → Nat → Prop} (h : Clo C) {S : Nat → TR} (hp : Piv S) (hz : ∀ k, k < 60 → (S k).1 = 0 → (S k).2 = 0) (r : TR) (h1 : r.1 < 2 ^ 60) (h2 : r.2 < 2 ^ 60) (h0 : (rmd S r 60).1 ≠ 0) (hr : ∀ k, k < 60 → C (addS S r k).1 (addS S r k).2) :
    (∀ k, k < 60 → C (S k).1 (S k).2) ∧ C r.1 r.2 := by
  obtain ⟨p1, p2, p3, p4⟩ := rem_pivot hp r h1 h2 h0
  have hl : C (rmd S r 60).1 (rmd S r 60).2 := by
    have := hr _ p1
    rw [addS_at h0, if_pos rfl] at this
    exact this
  have hS : ∀ k, k < 60 → C (S k).1 (S k).2 := by
    intro k hk
    by_cases e : k = tz (rmd S r 60).1
    · have e1 : (S k).1 = 0 := by rw [e]; exact p2
      rw [e1, hz k hk e1]
      exact h.1
    · have := hr k hk
      rw [addS_at h0, if_neg e] at this
      unfold nxt at this
      split at this
      · have t := h.2 _ _ _ _ this hl
        simpa [addTR, Nat.xor_assoc] using t
      · exact this
  exact ⟨hS, h.back hS r (by rw [← rmd_rmp]; exact hl)⟩

theorem addS_zeros {S : Nat → TR} (hp : Piv S) (hz : ∀ k, k < 60 → (S k).1 = 0 → (S k).2 = 0) (r : TR) (h1 : r.1 < 2 ^ 60) (h2 : r.2 < 2 ^ 60) : ∀ k, k < 60 → (addS S r k).1 = 0 → (addS S r k).2 = 0 := by
  intro k hk
  by_cases h0 : (rmd S r 60).1 = 0
  · rw [addS_zero h0]; exact hz k hk
  · obtain ⟨p1, p2, p3, p4⟩ := rem_pivot hp r h1 h2 h0
    have hcl := rmd_clear hp r 60 (Nat.le_refl _)
    rw [addS_at h0]
    generalize rmd S r 60 = left at *
    split
    · intro e; exact absurd e h0
    · unfold nxt
      split
      · rename_i hb
        intro e
        exfalso
        have hn : (S k).1 ≠ 0 := by intro e; rw [e] at hb; simp at hb
        have hlt : k < tz left.1 := by
          rcases Nat.lt_trichotomy k (tz left.1) with hlt | heq | hgt
          · exact hlt
          · rw [heq] at hn; exact absurd p2 hn
          · have := (hp.low k hk hn).2 _ hgt; rw [hb] at this; cases this
        have := congrArg (fun z => Nat.testBit z k) e
        simp [addTR, (hp.low k hk hn).1, p4 k hlt] at this
      · exact hz k hk

/-- v is a sum of masks of a list. -/
def InL (L : List Nat) (v : Nat) : Prop := InSp (fun i => L.getD i 0) L.length v
theorem InL.zero (L : List Nat) : InL L 0 := InSp.zero _ _
theorem InL.xor {L : List Nat} {v w : Nat} (h : InL L v) (k : InL L w) : InL L (v ^^^ w) := InSp.xor h k
theorem InL.mem {L : List Nat} {v : Nat} (h : v ∈ L) : InL L v := by
  obtain ⟨i, hi, rfl⟩ := List.getElem_of_mem h
  have := InSp.row (fun i => L.getD i 0) L.length i hi
  unfold InL
  simpa [List.getD_eq_getElem?_getD, hi] using this
theorem InL.ind {L : List Nat} {C : Nat → Prop} (h0 : C 0) (hx : ∀ a b, C a → C b → C (a ^^^ b)) (hm : ∀ v ∈ L, C v) {v : Nat} (h : InL L v) : C v := by
  obtain ⟨m, rfl⟩ := h
  refine Clo.comb (C := fun a _ => C a) ⟨h0, fun a b c d => hx a c⟩ _ (fun _ => 0) _ _ fun k hk => ?_
  exact hm _ (by simp [List.getD_eq_getElem?_getD, hk])

theorem addAll_full {S : Nat → TR} (hp : Piv S) (h : Full S) (rs : List TR) (hr : ∀ r ∈ rs, r.1 < 2 ^ 60 ∧ r.2 < 2 ^ 60) : Full (addAll S rs) := by
  induction rs generalizing S with
  | nil => exact h
  | cons r rs ih => exact ih (hp.add r (hr r (by simp)).1 (hr r (by simp)).2) (h.add hp r (hr r (by simp)).1 (hr r (by simp)).2) (fun q hq => hr q (by simp [hq]))

theorem addAll_in {C : Nat → Prop} (h0 : C 0) (hx : ∀ a b, C a → C b → C (a ^^^ b)) {S : Nat → TR} (rs : List TR) (hS : ∀ k, k < 60 → C (S k).1) (hr : ∀ r ∈ rs, C r.1) : ∀ k, k < 60 → C (addAll S rs k).1 := by
  induction rs generalizing S with
  | nil => exact hS
  | cons r rs ih =>
    refine ih (fun k hk => ?_) (fun q hq => hr q (by simp [hq]))
    exact Clo.addS' (C := fun a _ => C a) ⟨h0, fun a b c d => hx a c⟩ hS r (hr r (by simp)) k hk

theorem addAll_was {C : Nat → Prop} (h0 : C 0) (hx : ∀ a b, C a → C b → C (a ^^^ b)) {S : Nat → TR} (hp : Piv S) (hz : ∀ k, k < 60 → (S k).1 = 0 → (S k).2 = 0) (rs : List TR) (hb : ∀ r ∈ rs, r.1 < 2 ^ 60 ∧ r.2 < 2 ^ 60) (hS : ∀ k, k < 60 → C (addAll S rs k).1) :
    (∀ k, k < 60 → C (S k).1) ∧ ∀ r ∈ rs, C r.1 := by
  induction rs generalizing S with
  | nil => exact ⟨hS, by simp⟩
  | cons r rs ih =>
    have hr1 := hb r (by simp)
    obtain ⟨a, b⟩ := ih (hp.add r hr1.1 hr1.2) (addS_zeros hp hz r hr1.1 hr1.2) (fun q hq => hb q (by simp [hq])) hS
    have hcl : Clo (fun (a _ : Nat) => C a) := ⟨h0, fun a b c d => hx a c⟩
    by_cases h1 : (rmd S r 60).1 = 0
    · rw [addS_zero h1] at a
      refine ⟨a, fun q hq => ?_⟩
      rcases List.mem_cons.1 hq with e | hq
      · subst e
        refine hcl.back (R := S) (p := fun j => j) (n := 60) a q ?_
        rw [← rmd_rmp, h1]
        exact h0
      · exact b q hq
    · obtain ⟨c, d⟩ := Clo.wasS hcl hp hz r hr1.1 hr1.2 h1 a
      refine ⟨c, fun q hq => ?_⟩
      rcases List.mem_cons.1 hq with e | hq
      · subst e; exact d
      · exact b q hq

/-- Rows without traces. -/
def plain (L : List Nat) : List TR := L.map fun x => (x, 0)
def spaceL (L : List Nat) : Nat → TR := addAll (fun _ => (0, 0)) (plain L)
theorem plain_ok {L : List Nat} (h : ∀ x ∈ L, x < 2 ^ 60) : ∀ r ∈ plain L, r.1 < 2 ^ 60 ∧ r.2 < 2 ^ 60 := by
  intro r hr
  obtain ⟨x, hx, rfl⟩ := List.mem_map.1 hr
  exact ⟨h x hx, Nat.two_pow_pos 60⟩
theorem spaceL_piv {L : List Nat} (h : ∀ x ∈ L, x < 2 ^ 60) : Piv (spaceL L) := addAll_piv piv_zero _ (plain_ok h)
theorem spaceL_full {L : List Nat} (h : ∀ x ∈ L, x < 2 ^ 60) : Full (spaceL L) := addAll_full piv_zero full_zero _ (plain_ok h)
theorem spaceL_rows {L : List Nat} (h : ∀ x ∈ L, x < 2 ^ 60) : rowsK (spaceL L) 60 = putAll [] L := by
  have := addAll_sim piv_zero (plain L) (plain_ok h)
  rw [spaceL, this]
  have e : rowsK (fun _ => ((0, 0) : TR)) 60 = [] := by
    have : ∀ k, rowsK (fun _ => ((0, 0) : TR)) k = [] := by
      intro k; induction k with
      | zero => rfl
      | succ k ih => rw [rowsK, ih]; rfl
    exact this 60
  rw [e]
  have e2 : (plain L).map (·.1) = L := by simp [plain, Function.comp_def]
  rw [e2]
/-- The array's rows and the list have the same sums. -/
theorem spaceL_span {L : List Nat} (h : ∀ x ∈ L, x < 2 ^ 60) (v : Nat) : InSp (fun k => (spaceL L k).1) 60 v ↔ InL L v := by
  constructor
  · intro hv
    refine InSp.mono (fun k hk => ?_) hv
    refine addAll_in (C := fun x => InL L x) (InL.zero L) (fun _ _ => InL.xor) _ (fun k _ => InL.zero L) (fun r hr => ?_) k hk
    obtain ⟨x, hx, rfl⟩ := List.mem_map.1 hr
    exact InL.mem hx
  · intro hv
    have := (addAll_was (C := fun x => InSp (fun k => (spaceL L k).1) 60 x) (InSp.zero _ _) (fun _ _ => InSp.xor) piv_zero (fun _ _ _ => rfl) (plain L) (plain_ok h) (fun k hk => InSp.row (fun k => (spaceL L k).1) 60 k hk)).2
    refine InL.ind (InSp.zero _ _) (fun _ _ => InSp.xor) (fun x hx => ?_) hv
    exact this (x, 0) (List.mem_map.2 ⟨x, hx, rfl⟩)

theorem rowsK_mem {S : Nat → TR} (k v : Nat) : v ∈ rowsK S k ↔ ∃ j, j < k ∧ (S j).1 ≠ 0 ∧ v = (S j).1 := by
  induction k with
  | zero => simp [rowsK]
  | succ k ih =>
    rw [rowsK, List.mem_append, ih]
    constructor
    · rintro (⟨j, a, b, c⟩ | h)
      · exact ⟨j, by omega, b, c⟩
      · split at h
        · rename_i h0; rw [List.mem_singleton] at h; exact ⟨k, by omega, h0, h⟩
        · simp at h
    · rintro ⟨j, a, b, c⟩
      by_cases e : j = k
      · subst e; right; rw [if_pos b, List.mem_singleton]; exact c
      · left; exact ⟨j, by omega, b, c⟩

/-- The reduced rows have the same sums as the list. -/
theorem putAll_span {L : List Nat} (h : ∀ x ∈ L, x < 2 ^ 60) (v : Nat) : InL (putAll [] L) v ↔ InL L v := by
  rw [← spaceL_span h, ← spaceL_rows h]
  constructor
  · refine InL.ind (InSp.zero _ _) (fun _ _ => InSp.xor) (fun x hx => ?_)
    obtain ⟨j, a, b, rfl⟩ := (rowsK_mem 60 x).1 hx
    exact InSp.row (fun k => (spaceL L k).1) 60 j a
  · intro hv
    obtain ⟨m, rfl⟩ := hv
    refine Clo.comb (C := fun a _ => InL (rowsK (spaceL L) 60) a) ⟨InL.zero _, fun a b c d => InL.xor⟩ _ (fun _ => 0) _ _ fun k hk => ?_
    by_cases e : (spaceL L k).1 = 0
    · show InL _ (spaceL L k).1
      rw [e]; exact InL.zero _
    · exact InL.mem ((rowsK_mem 60 _).2 ⟨k, hk, e, rfl⟩)

theorem putAll_lt {L : List Nat} (h : ∀ x ∈ L, x < 2 ^ 60) : ∀ x ∈ putAll [] L, x < 2 ^ 60 := by
  rw [← spaceL_rows h]
  intro x hx
  obtain ⟨j, a, b, rfl⟩ := (rowsK_mem 60 x).1 hx
  exact (spaceL_piv h).lt j a

/-- Lists with the same sums have the same reduced rows. -/
theorem putAll_unique {L M : List Nat} (hL : ∀ x ∈ L, x < 2 ^ 60) (hM : ∀ x ∈ M, x < 2 ^ 60) (h : ∀ v, InL L v ↔ InL M v) : putAll [] L = putAll [] M := by
  rw [← spaceL_rows hL, ← spaceL_rows hM]
  refine rowsK_same 60 (uniq (spaceL_piv hL) (spaceL_piv hM) (spaceL_full hL) (spaceL_full hM) (fun j hj => ?_) (fun j hj => ?_))
  · exact (spaceL_span hM _).2 ((h _).1 ((spaceL_span hL _).1 (InSp.row (fun k => (spaceL L k).1) 60 j hj)))
  · exact (spaceL_span hL _).2 ((h _).2 ((spaceL_span hM _).1 (InSp.row (fun k => (spaceL M k).1) 60 j hj)))
end Go.Proofs.YtdojblmffmefgaaDoor
