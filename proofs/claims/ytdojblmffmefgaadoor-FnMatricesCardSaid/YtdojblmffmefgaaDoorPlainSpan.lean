/-
  Sums of rows that a mask tells; families with pivots; kernels, solutions and meets do not depend on the way. No program in sight.
-/
import Derived.Test.YtdojblmffmefgaaDoorPlainMat
namespace Go.Proofs.YtdojblmffmefgaaDoor
set_option linter.unusedVariables false

/-- The sum of those of the first n rows that x tells. -/
def comb (R : Nat → Nat) : Nat → Nat → Nat
  | 0, _ => 0
  | n + 1, x => comb R n x ^^^ (if x.testBit n = true then R n else 0)

theorem comb_succ (R : Nat → Nat) (n x : Nat) : comb R (n + 1) x = comb R n x ^^^ (if x.testBit n = true then R n else 0) := rfl

theorem xor4 (a b c d : Nat) : (a ^^^ b) ^^^ (c ^^^ d) = (a ^^^ c) ^^^ (b ^^^ d) := by
  rw [Nat.xor_assoc, ← Nat.xor_assoc b, Nat.xor_comm b c, Nat.xor_assoc c, ← Nat.xor_assoc a]

theorem comb_xor (R : Nat → Nat) (n x y : Nat) : comb R n (x ^^^ y) = comb R n x ^^^ comb R n y := by
  induction n with
  | zero => simp [comb]
  | succ n ih =>
    rw [comb_succ, comb_succ, comb_succ, ih, xor4, Nat.testBit_xor]
    congr 1
    cases x.testBit n <;> cases y.testBit n <;> simp

theorem comb_zero (R : Nat → Nat) (n : Nat) : comb R n 0 = 0 := by
  induction n with
  | zero => rfl
  | succ n ih => rw [comb_succ, ih]; simp

theorem comb_high (R : Nat → Nat) (n i x : Nat) (h : x < 2 ^ i) (hi : i ≤ n) : comb R n x = comb R i x := by
  induction n with
  | zero => have : i = 0 := by omega
            subst this; rfl
  | succ n ih =>
    by_cases e : i = n + 1
    · subst e; rfl
    · rw [comb_succ, ih (by omega), if_neg, Nat.xor_zero]
      rw [Nat.testBit_lt_two_pow (Nat.lt_of_lt_of_le h (Nat.pow_le_pow_right (by decide) (by omega)))]
      simp

theorem comb_pow (R : Nat → Nat) (n i : Nat) (hi : i < n) : comb R n (2 ^ i) = R i := by
  rw [comb_high R n (i + 1) (2 ^ i) (Nat.pow_lt_pow_right (by decide) (by omega)) hi, comb_succ, if_pos (by simp)]
  have : comb R i (2 ^ i) = comb R i 0 := by
    have aux : ∀ k, k ≤ i → comb R k (2 ^ i) = 0 := by
      intro k
      induction k with
      | zero => intro _; rfl
      | succ k ih =>
        intro hk
        rw [comb_succ, ih (by omega), if_neg]
        · rfl
        · rw [Nat.testBit_two_pow]; simp; omega
    rw [aux i (Nat.le_refl _), comb_zero]
  rw [this, comb_zero, Nat.zero_xor]

theorem comb_congr {R T : Nat → Nat} (n x : Nat) (h : ∀ i, i < n → R i = T i) : comb R n x = comb T n x := by
  induction n with
  | zero => rfl
  | succ n ih => rw [comb_succ, comb_succ, ih (fun i hi => h i (by omega)), h n (by omega)]

theorem comb_bound (R : Nat → Nat) (n x c : Nat) (h : ∀ i, i < n → R i < 2 ^ c) : comb R n x < 2 ^ c := by
  induction n with
  | zero => exact Nat.two_pow_pos c
  | succ n ih =>
    rw [comb_succ]
    refine Nat.xor_lt_two_pow (ih fun i hi => h i (by omega)) ?_
    split
    · exact h n (by omega)
    · exact Nat.two_pow_pos c

/-- Sums of sums. -/
theorem comb_comb (R : Nat → Nat) (n : Nat) (T M : Nat → Nat) (k x : Nat) (h : ∀ i, i < k → T i = comb R n (M i)) : comb T k x = comb R n (comb M k x) := by
  induction k with
  | zero => exact (comb_zero R n).symm
  | succ k ih =>
    rw [comb_succ, comb_succ, comb_xor, ih (fun i hi => h i (by omega))]
    congr 1
    split
    · exact h k (by omega)
    · exact (comb_zero R n).symm

/-- v is a sum of the first n rows. -/
def InSp (R : Nat → Nat) (n v : Nat) : Prop := ∃ x, v = comb R n x
theorem InSp.xor {R : Nat → Nat} {n v w : Nat} (h : InSp R n v) (k : InSp R n w) : InSp R n (v ^^^ w) := by
  obtain ⟨x, rfl⟩ := h
  obtain ⟨y, rfl⟩ := k
  exact ⟨x ^^^ y, (comb_xor ..).symm⟩
theorem InSp.row (R : Nat → Nat) (n i : Nat) (h : i < n) : InSp R n (R i) := ⟨2 ^ i, (comb_pow R n i h).symm⟩
theorem InSp.zero (R : Nat → Nat) (n : Nat) : InSp R n 0 := ⟨0, (comb_zero R n).symm⟩
theorem InSp.comb {R T : Nat → Nat} {n k : Nat} (h : ∀ i, i < k → InSp R n (T i)) (x : Nat) : InSp R n (comb T k x) := by
  induction k with
  | zero => exact InSp.zero R n
  | succ k ih =>
    rw [comb_succ]
    refine (ih fun i hi => h i (by omega)).xor ?_
    split
    · exact h k (by omega)
    · exact InSp.zero R n
theorem InSp.mono {R T : Nat → Nat} {n k v : Nat} (h : ∀ i, i < k → InSp R n (T i)) (hv : InSp T k v) : InSp R n v := by
  obtain ⟨x, rfl⟩ := hv
  exact InSp.comb h x

/-- A family with pivots: row k has the digit at p k, and no later row (that is not 0) has it. -/
structure FE (R : Nat → TR) (p : Nat → Nat) (n : Nat) : Prop where
  own : ∀ k, k < n → (R k).1 ≠ 0 → (R k).1.testBit (p k) = true
  later : ∀ i k, i < k → k < n → (R i).1 ≠ 0 → (R k).1.testBit (p i) = false

/-- The remainder by the first k rows. -/
def rmp (R : Nat → TR) (p : Nat → Nat) (r : TR) : Nat → TR
  | 0 => r
  | k + 1 => stp (rmp R p r k) (p k) (R k)
theorem rmp_succ (R : Nat → TR) (p : Nat → Nat) (r : TR) (k : Nat) : rmp R p r (k + 1) = stp (rmp R p r k) (p k) (R k) := rfl
theorem rmd_rmp (S : Nat → TR) (r : TR) (k : Nat) : rmd S r k = rmp S (fun j => j) r k := by
  induction k with
  | zero => rfl
  | succ k ih => rw [rmd_succ, rmp_succ, ih]

theorem Piv.fe {S : Nat → TR} (h : Piv S) : FE S (fun j => j) 60 :=
  ⟨fun k hk h0 => (h.low k hk h0).1, fun i k hik hk _ => by
    by_cases h0 : (S k).1 = 0
    · rw [h0]; simp
    · exact (h.low k hk h0).2 i hik⟩

theorem rmp_clear {R : Nat → TR} {p : Nat → Nat} {n : Nat} (h : FE R p n) (r : TR) (k : Nat) (hk : k ≤ n) : ∀ i, i < k → (R i).1 ≠ 0 → (rmp R p r k).1.testBit (p i) = false := by
  induction k with
  | zero => intro i hi; omega
  | succ k ih =>
    intro i hi h0
    rw [rmp_succ]; unfold stp
    by_cases e : i = k
    · subst e
      split
      · rename_i hc
        simp only [addTR, Nat.testBit_xor, hc.2, h.own i (by omega) h0]; rfl
      · rename_i hc
        cases hb : (rmp R p r i).1.testBit (p i)
        · rfl
        · exact absurd ⟨h0, hb⟩ hc
    · have q := ih (by omega) i (by omega) h0
      split
      · rename_i hc
        simp only [addTR, Nat.testBit_xor, q, h.later i k (by omega) (by omega) h0]; rfl
      · exact q

/-- The remainder is the row and a sum of rows that are not 0. -/
theorem rmp_comb (R : Nat → TR) (p : Nat → Nat) (r : TR) (n : Nat) : ∃ m, m < 2 ^ n ∧ (∀ k, m.testBit k = true → (R k).1 ≠ 0) ∧ rmp R p r n = (r.1 ^^^ comb (fun k => (R k).1) n m, r.2 ^^^ comb (fun k => (R k).2) n m) := by
  induction n with
  | zero => exact ⟨0, by decide, by simp, by simp [rmp, comb]⟩
  | succ n ih =>
    obtain ⟨m, hm, hz, he⟩ := ih
    rw [rmp_succ, he]
    unfold stp
    have hbn : m.testBit n = false := Nat.testBit_lt_two_pow hm
    split
    · rename_i hc
      refine ⟨m ^^^ 2 ^ n, ?_, fun k hk => ?_, ?_⟩
      · exact Nat.xor_lt_two_pow (Nat.lt_trans hm (Nat.pow_lt_pow_right (by decide) (by omega))) (Nat.pow_lt_pow_right (by decide) (by omega))
      · by_cases e : k = n
        · subst e; exact hc.1
        · refine hz k ?_
          rw [Nat.testBit_xor, Nat.testBit_two_pow] at hk
          simpa [show ¬ n = k from fun h => e h.symm] using hk
      · have e1 : ∀ T : Nat → Nat, comb T (n + 1) (m ^^^ 2 ^ n) = comb T n m ^^^ T n := by
          intro T
          rw [comb_xor, comb_pow T (n + 1) n (by omega), comb_high T (n + 1) n m hm (by omega)]
        rw [e1, e1]
        simp only [addTR, Nat.xor_assoc]
    · refine ⟨m, Nat.lt_trans hm (Nat.pow_lt_pow_right (by decide) (by omega)), hz, ?_⟩
      rw [comb_high _ (n + 1) n m hm (by omega), comb_high _ (n + 1) n m hm (by omega)]

/-- One digit of a sum. -/
theorem comb_bit (T : Nat → Nat) (n m j q : Nat) (hj : j < n) (h1 : ∀ i, i < j → m.testBit i = true → T i = 0) (h2 : ∀ i, j < i → i < n → (T i).testBit q = false) :
    (comb T n m).testBit q = (m.testBit j && (T j).testBit q) := by
  have low : ∀ k, k ≤ j → comb T k m = 0 := by
    intro k
    induction k with
    | zero => intro _; rfl
    | succ k ih =>
      intro hk
      rw [comb_succ, ih (by omega), Nat.zero_xor]
      split
      · rename_i hb; exact h1 k (by omega) hb
      · rfl
  have up : ∀ d, j + 1 + d ≤ n → (comb T (j + 1 + d) m).testBit q = (m.testBit j && (T j).testBit q) := by
    intro d
    induction d with
    | zero =>
      intro _
      rw [Nat.add_zero, comb_succ, low j (Nat.le_refl _), Nat.zero_xor]
      split
      · rename_i hb; rw [hb, Bool.true_and]
      · rename_i hb; rw [Nat.zero_testBit]; simp at hb; rw [hb, Bool.false_and]
    | succ d ih =>
      intro hd
      rw [← Nat.add_assoc, comb_succ, Nat.testBit_xor, ih (by omega)]
      split
      · rw [h2 (j + 1 + d) (by omega) (by omega), Bool.xor_false]
      · rw [Nat.zero_testBit, Bool.xor_false]
  have := up (n - (j + 1)) (by omega)
  rwa [show j + 1 + (n - (j + 1)) = n by omega] at this

/-- A sum without the first pivots is one of later rows. -/
theorem FE.indep {R : Nat → TR} {p : Nat → Nat} {n : Nat} (h : FE R p n) (m k : Nat) (hk : k ≤ n) (hy : ∀ i, i < k → (R i).1 ≠ 0 → (comb (fun k => (R k).1) n m).testBit (p i) = false) :
    ∀ i, i < k → m.testBit i = true → (R i).1 = 0 := by
  induction k with
  | zero => intro i hi; omega
  | succ k ih =>
    have ih := ih (by omega) (fun i hi => hy i (by omega))
    intro i hi hm
    by_cases e : i = k
    · subst e
      apply Decidable.byContradiction
      intro h0
      have h1 := comb_bit (fun k => (R k).1) n m i (p i) (by omega) ih (fun k hk hkn => h.later i k hk hkn h0)
      rw [hy i (by omega) h0, hm, h.own i (by omega) h0] at h1
      cases h1
    · exact ih i (by omega) hm

theorem comb_none (T : Nat → Nat) (n m : Nat) (h : ∀ i, i < n → m.testBit i = true → T i = 0) : comb T n m = 0 := by
  induction n with
  | zero => rfl
  | succ n ih =>
    rw [comb_succ, ih (fun i hi => h i (by omega)), Nat.zero_xor]
    split
    · rename_i hb; exact h n (by omega) hb
    · rfl

theorem FE.zero {R : Nat → TR} {p : Nat → Nat} {n : Nat} (h : FE R p n) (y : Nat) (hs : InSp (fun k => (R k).1) n y) (hy : ∀ i, i < n → (R i).1 ≠ 0 → y.testBit (p i) = false) : y = 0 := by
  obtain ⟨m, rfl⟩ := hs
  exact comb_none _ _ _ (h.indep m n (Nat.le_refl _) hy)

/-- A row is a sum of the family just when nothing remains of it. -/
theorem FE.rem_zero {R : Nat → TR} {p : Nat → Nat} {n : Nat} (h : FE R p n) (r : TR) : (rmp R p r n).1 = 0 ↔ InSp (fun k => (R k).1) n r.1 := by
  obtain ⟨m, _, _, he⟩ := rmp_comb R p r n
  constructor
  · intro h0
    rw [he] at h0
    refine ⟨m, ?_⟩
    have := congrArg (fun z => z ^^^ comb (fun k => (R k).1) n m) h0
    simpa [Nat.xor_assoc] using this
  · intro hs
    have hcl := rmp_clear h r n (Nat.le_refl _)
    refine h.zero _ ?_ hcl
    rw [he]
    exact hs.xor ⟨m, rfl⟩

/-! Rows that are sums of earlier rows. -/

def dep (G : Nat → Nat) (i : Nat) : Prop := InSp G i (G i)
/-- No digit of x tells a row that is a sum of earlier ones. -/
def free (G : Nat → Nat) (x : Nat) : Prop := ∀ j, x.testBit j = true → ¬ dep G j
theorem free_xor {G : Nat → Nat} {x y : Nat} (h : free G x) (k : free G y) : free G (x ^^^ y) := by
  intro j hj
  rw [Nat.testBit_xor] at hj
  cases hx : x.testBit j with
  | true => exact h j hx
  | false => rw [hx, Bool.false_xor] at hj; exact k j hj
theorem free_zero (G : Nat → Nat) : free G 0 := by intro j hj; simp at hj
theorem free_comb {G M : Nat → Nat} {n : Nat} (h : ∀ i, i < n → free G (M i)) (x : Nat) : free G (comb M n x) := by
  induction n with
  | zero => exact free_zero G
  | succ n ih =>
    rw [comb_succ]
    refine free_xor (ih fun i hi => h i (by omega)) ?_
    split
    · exact h n (by omega)
    · exact free_zero G

/-- The greatest digit 1 of a mask that is not 0. -/
theorem top_bit (x n : Nat) (h0 : x ≠ 0) (h : x < 2 ^ n) : ∃ t, t < n ∧ x.testBit t = true ∧ x ^^^ 2 ^ t < 2 ^ t ∧ ∀ j, t < j → x.testBit j = false := by
  induction n with
  | zero => simp at h; omega
  | succ n ih =>
    by_cases hb : x.testBit n = true
    · refine ⟨n, by omega, hb, ?_, fun j hj => Nat.testBit_lt_two_pow (Nat.lt_of_lt_of_le h (Nat.pow_le_pow_right (by decide) (by omega)))⟩
      apply Nat.lt_pow_two_of_testBit
      intro i hi
      rw [Nat.testBit_xor, Nat.testBit_two_pow]
      by_cases e : n = i
      · subst e; rw [hb]; simp
      · have : x.testBit i = false := Nat.testBit_lt_two_pow (Nat.lt_of_lt_of_le h (Nat.pow_le_pow_right (by decide) (by omega)))
        rw [this]; simp [e]
    · have hlt : x < 2 ^ n := by
        apply Nat.lt_pow_two_of_testBit
        intro i hi
        by_cases e : i = n
        · subst e; simpa using hb
        · exact Nat.testBit_lt_two_pow (Nat.lt_of_lt_of_le h (Nat.pow_le_pow_right (by decide) (by omega)))
      obtain ⟨t, h1, h2, h3, h4⟩ := ih hlt
      exact ⟨t, by omega, h2, h3, h4⟩

/-- The greatest digit of a mask whose sum is 0 tells a row that is a sum of earlier ones. -/
theorem ker_top (G : Nat → Nat) (n x t : Nat) (ht : t < n) (hb : x.testBit t = true) (hlow : x ^^^ 2 ^ t < 2 ^ t) (hc : comb G n x = 0) : dep G t := by
  refine ⟨x ^^^ 2 ^ t, ?_⟩
  have e : x = (x ^^^ 2 ^ t) ^^^ 2 ^ t := by rw [Nat.xor_assoc, Nat.xor_self, Nat.xor_zero]
  rw [e, comb_xor, comb_pow G n t ht, comb_high G n t _ hlow (by omega)] at hc
  have := congrArg (fun z => z ^^^ G t) hc
  simpa [Nat.xor_assoc] using this.symm

theorem free_unique (G : Nat → Nat) (n x y : Nat) (hx : x < 2 ^ n) (hy : y < 2 ^ n) (fx : free G x) (fy : free G y) (h : comb G n x = comb G n y) : x = y := by
  apply Decidable.byContradiction
  intro hne
  have h0 : x ^^^ y ≠ 0 := by
    intro e
    apply hne
    have := congrArg (fun z => z ^^^ y) e
    simpa [Nat.xor_assoc] using this
  obtain ⟨t, h1, h2, h3, _⟩ := top_bit _ n h0 (Nat.xor_lt_two_pow hx hy)
  exact free_xor fx fy t h2 (ker_top G n _ t h1 h2 h3 (by rw [comb_xor, h, Nat.xor_self]))

/-- A family that stands for the first i rows of G, with traces that tell of which rows. -/
structure Tells (G : Nat → Nat) (i : Nat) (R : Nat → TR) (n : Nat) : Prop where
  sum : ∀ k, k < n → comb G i (R k).2 = (R k).1
  lt : ∀ k, k < n → (R k).2 < 2 ^ i
  free : ∀ k, k < n → free G (R k).2
  all : ∀ j, j < i → InSp (fun k => (R k).1) n (G j)

/-- What remains of a row by a family that tells. -/
theorem Tells.rem {G : Nat → Nat} {i : Nat} {R : Nat → TR} {n : Nat} {p : Nat → Nat} (h : Tells G i R n) (f : FE R p n) (v t : Nat) :
    comb G i ((rmp R p (v, t) n).2 ^^^ t) = v ^^^ (rmp R p (v, t) n).1 ∧ (rmp R p (v, t) n).2 ^^^ t < 2 ^ i ∧ Go.Proofs.YtdojblmffmefgaaDoor.free G ((rmp R p (v, t) n).2 ^^^ t) ∧ ((rmp R p (v, t) n).1 = 0 ↔ InSp G i v) := by
  obtain ⟨m, hm, hz, he⟩ := rmp_comb R p (v, t) n
  have e2 : (rmp R p (v, t) n).2 ^^^ t = comb (fun k => (R k).2) n m := by
    rw [he]; simp only []; rw [Nat.xor_comm t, Nat.xor_assoc, Nat.xor_self, Nat.xor_zero]
  have e1 : v ^^^ (rmp R p (v, t) n).1 = comb (fun k => (R k).1) n m := by
    rw [he]; simp only []; rw [← Nat.xor_assoc, Nat.xor_self, Nat.zero_xor]
  rw [e2, e1]
  refine ⟨(comb_comb G i _ _ n m (fun k hk => (h.sum k hk).symm)).symm, comb_bound _ _ _ _ h.lt, free_comb h.free m, ?_⟩
  rw [f.rem_zero]
  exact ⟨fun hs => hs.mono fun k hk => ⟨_, (h.sum k hk).symm⟩, fun hs => hs.mono h.all⟩
end Go.Proofs.YtdojblmffmefgaaDoor
