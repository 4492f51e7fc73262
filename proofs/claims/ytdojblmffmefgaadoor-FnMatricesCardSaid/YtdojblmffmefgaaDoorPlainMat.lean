/-
  Rows modulo 2 as masks: the reduction by pivots, in a list (in order of the pivots) and in an array (by pivot). No program in sight.
-/
import Derived.Lib.TrailingZeros
namespace Go.Proofs.YtdojblmffmefgaaDoor
set_option linter.unusedVariables false

/-- The place of the lowest digit 1. -/
def tz (x : Nat) : Nat := Lib.ctz 64 x

theorem tz_spec (x : Nat) (h0 : x ≠ 0) (h : x < 2 ^ 64) : x.testBit (tz x) = true ∧ ∀ i, i < tz x → x.testBit i = false := by
  obtain ⟨m, hm, _⟩ := Lib.ctzFrom_spec 64 x (by omega) h
  have e : tz x = Lib.ctzFrom 64 x := by simp [tz, Lib.ctz, h0]
  rw [← e] at hm
  generalize tz x = k at hm
  subst hm
  constructor
  · rw [Nat.mul_comm, Nat.testBit_mul_two_pow]; simp
  · intro i hi
    rw [Nat.mul_comm, Nat.testBit_mul_two_pow]
    simp; omega

theorem tz_unique (x k : Nat) (h : x < 2 ^ 64) (h1 : x.testBit k = true) (h2 : ∀ i, i < k → x.testBit i = false) : tz x = k := by
  have h0 : x ≠ 0 := by intro e; subst e; simp at h1
  obtain ⟨a, b⟩ := tz_spec x h0 h
  rcases Nat.lt_trichotomy (tz x) k with hlt | heq | hgt
  · have := h2 _ hlt; rw [a] at this; cases this
  · exact heq
  · have := b _ hgt; rw [h1] at this; cases this

theorem bit_lt {x k c : Nat} (h : x < 2 ^ c) (h1 : x.testBit k = true) : k < c := by
  apply Nat.lt_of_not_le
  intro hle
  have := Nat.testBit_lt_two_pow (Nat.lt_of_lt_of_le h (Nat.pow_le_pow_right (by decide) hle))
  rw [h1] at this; cases this

/-- A row with a trace. -/
abbrev TR := Nat × Nat
def addTR (a b : TR) : TR := (a.1 ^^^ b.1, a.2 ^^^ b.2)

def stp (r : TR) (j : Nat) (o : TR) : TR := if o.1 ≠ 0 ∧ r.1.testBit j = true then addTR r o else r
/-- The remainder by the first k rows of S. -/
def rmd (S : Nat → TR) (r : TR) : Nat → TR
  | 0 => r
  | k + 1 => stp (rmd S r k) k (S k)
theorem rmd_succ (S : Nat → TR) (r : TR) (k : Nat) : rmd S r (k + 1) = stp (rmd S r k) k (S k) := rfl
/-- Row j behind the adding of a row with the remainder left. -/
def nxt (left : TR) (j : Nat) (o : TR) : TR := if o.1.testBit (tz left.1) = true then addTR o left else o
def addS (S : Nat → TR) (r : TR) : Nat → TR :=
  let left := rmd S r 60
  if left.1 = 0 then S else fun j => if j = tz left.1 then left else nxt left j (S j)

/-- The array S: where row j is not 0, its pivot is j. -/
structure Piv (S : Nat → TR) : Prop where
  lt : ∀ j, j < 60 → (S j).1 < 2 ^ 60
  tl : ∀ j, j < 60 → (S j).2 < 2 ^ 60
  low : ∀ j, j < 60 → (S j).1 ≠ 0 → (S j).1.testBit j = true ∧ ∀ i, i < j → (S j).1.testBit i = false

theorem Piv.tz {S : Nat → TR} (h : Piv S) (j : Nat) (hj : j < 60) (h0 : (S j).1 ≠ 0) : tz (S j).1 = j :=
  tz_unique _ _ (Nat.lt_trans (h.lt j hj) (by decide)) (h.low j hj h0).1 (h.low j hj h0).2

theorem piv_zero : Piv (fun _ => (0, 0)) := ⟨fun _ _ => by decide, fun _ _ => by decide, fun _ _ h => absurd rfl h⟩

theorem rmd_lt {S : Nat → TR} (h : Piv S) (r : TR) (h1 : r.1 < 2 ^ 60) (h2 : r.2 < 2 ^ 60) (k : Nat) (hk : k ≤ 60) : (rmd S r k).1 < 2 ^ 60 ∧ (rmd S r k).2 < 2 ^ 60 := by
  induction k with
  | zero => exact ⟨h1, h2⟩
  | succ k ih =>
    obtain ⟨a, b⟩ := ih (by omega)
    rw [rmd_succ]; unfold stp
    split
    · exact ⟨Nat.xor_lt_two_pow a (h.lt k (by omega)), Nat.xor_lt_two_pow b (h.tl k (by omega))⟩
    · exact ⟨a, b⟩

/-- Behind k steps no pivot below k is left. -/
theorem rmd_clear {S : Nat → TR} (h : Piv S) (r : TR) (k : Nat) (hk : k ≤ 60) : ∀ i, i < k → (S i).1 ≠ 0 → (rmd S r k).1.testBit i = false := by
  induction k with
  | zero => intro i hi; omega
  | succ k ih =>
    intro i hi h0
    rw [rmd_succ]; unfold stp
    by_cases e : i = k
    · subst e
      split
      · rename_i hc
        simp only [addTR, Nat.testBit_xor, hc.2, (h.low i (by omega) h0).1]; rfl
      · rename_i hc
        cases hb : (rmd S r i).1.testBit i
        · rfl
        · exact absurd ⟨h0, hb⟩ hc
    · have hi' : i < k := by omega
      have p := ih (by omega) i hi' h0
      split
      · rename_i hc
        simp only [addTR, Nat.testBit_xor, p, (h.low k (by omega) hc.1).2 i hi']; rfl
      · exact p

theorem Piv.add {S : Nat → TR} (h : Piv S) (r : TR) (h1 : r.1 < 2 ^ 60) (h2 : r.2 < 2 ^ 60) : Piv (addS S r) := by
  obtain ⟨a, b⟩ := rmd_lt h r h1 h2 60 (Nat.le_refl _)
  have hcl := rmd_clear h r 60 (Nat.le_refl _)
  unfold addS
  generalize rmd S r 60 = left at *
  simp only []
  split
  · exact h
  · rename_i h0
    have hb : left.1 < 2 ^ 64 := Nat.lt_trans a (by decide)
    obtain ⟨t1, t2⟩ := tz_spec left.1 h0 hb
    have tp := bit_lt a t1
    have hlow : ∀ j, j < 60 → (S j).1 ≠ 0 → (S j).1.testBit (Proofs.YtdojblmffmefgaaDoor.tz left.1) = true → j < Proofs.YtdojblmffmefgaaDoor.tz left.1 := by
      intro j hj hn hbit
      rcases Nat.lt_trichotomy j (Proofs.YtdojblmffmefgaaDoor.tz left.1) with hlt | heq | hgt
      · exact hlt
      · have := hcl j hj hn; rw [heq, t1] at this; cases this
      · have := (h.low j hj hn).2 _ hgt; rw [hbit] at this; cases this
    refine ⟨fun j hj => ?_, fun j hj => ?_, fun j hj => ?_⟩
    · split
      · exact a
      · unfold nxt; split
        · exact Nat.xor_lt_two_pow (h.lt j hj) a
        · exact h.lt j hj
    · split
      · exact b
      · unfold nxt; split
        · exact Nat.xor_lt_two_pow (h.tl j hj) b
        · exact h.tl j hj
    · split
      · rename_i e; subst e; intro _; exact ⟨t1, t2⟩
      · unfold nxt; split
        · rename_i hbit
          intro _
          have hn : (S j).1 ≠ 0 := by intro e; rw [e] at hbit; simp at hbit
          have hlt := hlow j hj hn hbit
          obtain ⟨l1, l2⟩ := h.low j hj hn
          refine ⟨?_, fun i hi => ?_⟩
          · simp only [addTR, Nat.testBit_xor, l1, t2 j hlt]; rfl
          · simp only [addTR, Nat.testBit_xor, l2 i hi, t2 i (by omega)]; rfl
        · exact h.low j hj

/-- The rows below k that are not 0, in order. -/
def rowsK (S : Nat → TR) : Nat → List Nat
  | 0 => []
  | k + 1 => rowsK S k ++ (if (S k).1 ≠ 0 then [(S k).1] else [])

/-- A mask without the pivots of a list of rows. -/
def wo (L : List Nat) (x : Nat) : Nat := L.foldl (fun x row => if x.testBit (tz row) = true then x ^^^ row else x) x

theorem wo_append (L M : List Nat) (x : Nat) : wo (L ++ M) x = wo M (wo L x) := by simp [wo, List.foldl_append]

theorem rmd_wo {S : Nat → TR} (h : Piv S) (r : TR) (k : Nat) (hk : k ≤ 60) : (rmd S r k).1 = wo (rowsK S k) r.1 := by
  induction k with
  | zero => rfl
  | succ k ih =>
    rw [rowsK, wo_append, ← ih (by omega)]
    rw [rmd_succ]; unfold stp
    by_cases h0 : (S k).1 ≠ 0
    · rw [if_pos h0]
      simp only [wo, List.foldl_cons, List.foldl_nil, h.tz k (by omega) h0]
      by_cases hb : (rmd S r k).1.testBit k = true
      · rw [if_pos ⟨h0, hb⟩, if_pos hb]; rfl
      · rw [if_neg (fun hc => hb hc.2), if_neg hb]
    · rw [if_neg h0, if_neg (fun hc => h0 hc.1)]; rfl

/-- One row of the list behind the joining of x. -/
def pst (x : Nat) (st : List Nat × Bool) (row : Nat) : List Nat × Bool :=
  let row' := if row.testBit (tz x) = true then row ^^^ x else row
  if st.2 = false ∧ tz x < tz row then (st.1 ++ [x, row'], true) else (st.1 ++ [row'], st.2)
def putR (L : List Nat) (x : Nat) : List Nat :=
  let st := L.foldl (pst x) ([], false)
  if st.2 then st.1 else st.1 ++ [x]
def put (L : List Nat) (x0 : Nat) : List Nat := if wo L x0 = 0 then L else putR L (wo L x0)

theorem rowsK_congr {S T : Nat → TR} (k : Nat) (h : ∀ j, j < k → S j = T j) : rowsK S k = rowsK T k := by
  induction k with
  | zero => rfl
  | succ k ih => rw [rowsK, rowsK, ih (fun j hj => h j (by omega)), h k (by omega)]

theorem put_sim {S : Nat → TR} (h : Piv S) (r : TR) (h1 : r.1 < 2 ^ 60) (h2 : r.2 < 2 ^ 60) : rowsK (addS S r) 60 = put (rowsK S 60) r.1 := by
  obtain ⟨a, b⟩ := rmd_lt h r h1 h2 60 (Nat.le_refl _)
  have hcl := rmd_clear h r 60 (Nat.le_refl _)
  unfold put
  rw [← rmd_wo h r 60 (Nat.le_refl _)]
  unfold addS
  generalize rmd S r 60 = left at *
  simp only []
  split
  · rfl
  · rename_i h0
    have hb : left.1 < 2 ^ 64 := Nat.lt_trans a (by decide)
    obtain ⟨t1, t2⟩ := tz_spec left.1 h0 hb
    have tp := bit_lt a t1
    have hp0 : (S (tz left.1)).1 = 0 := by
      apply Decidable.byContradiction
      intro hn
      have := hcl _ tp hn; rw [t1] at this; cases this
    have hnxt : ∀ j, j < 60 → ((nxt left j (S j)).1 ≠ 0 ↔ (S j).1 ≠ 0) := by
      intro j hj
      unfold nxt
      split
      · rename_i hbit
        have hn : (S j).1 ≠ 0 := by intro e; rw [e] at hbit; simp at hbit
        refine ⟨fun _ => hn, fun _ e => ?_⟩
        have hlt : j < tz left.1 := by
          rcases Nat.lt_trichotomy j (tz left.1) with hlt | heq | hgt
          · exact hlt
          · have := hcl j hj hn; rw [heq, t1] at this; cases this
          · have := (h.low j hj hn).2 _ hgt; rw [hbit] at this; cases this
        have := congrArg (fun z => Nat.testBit z j) e
        simp [addTR, (h.low j hj hn).1, t2 j hlt] at this
      · exact Iff.rfl
    -- the walk through the list
    generalize hT : (fun j => if j = tz left.1 then left else nxt left j (S j)) = T
    have hTp : T (tz left.1) = left := by rw [← hT]; simp
    have hTj : ∀ j, j ≠ tz left.1 → T j = nxt left j (S j) := by intro j hj; rw [← hT]; simp [hj]
    have key : ∀ k, k ≤ 60 → (((rowsK S k).foldl (pst left.1) ([], false)).2 = true ∧ tz left.1 < k ∧ ((rowsK S k).foldl (pst left.1) ([], false)).1 = rowsK T k) ∨
        (((rowsK S k).foldl (pst left.1) ([], false)).2 = false ∧ ((k ≤ tz left.1 ∧ ((rowsK S k).foldl (pst left.1) ([], false)).1 = rowsK T k) ∨ (tz left.1 < k ∧ ((rowsK S k).foldl (pst left.1) ([], false)).1 ++ [left.1] = rowsK T k))) := by
      intro k
      induction k with
      | zero => intro _; right; exact ⟨rfl, .inl ⟨Nat.zero_le _, rfl⟩⟩
      | succ k ih =>
        intro hk
        have ih := ih (by omega)
        rw [rowsK, List.foldl_append, rowsK]
        generalize (rowsK S k).foldl (pst left.1) ([], false) = st at ih
        by_cases ek : k = tz left.1
        · -- the pivot itself: nothing in the list
          have hS : (S k).1 = 0 := by rw [ek]; exact hp0
          have hT' : T k = left := by rw [ek]; exact hTp
          rw [if_neg (by rw [hS]; simp), hT', if_pos h0]
          right
          rcases ih with ⟨_, hlt, _⟩ | ⟨h2, ⟨_, he⟩ | ⟨hlt, _⟩⟩
          · omega
          · exact ⟨h2, .inr ⟨by omega, by rw [List.foldl_nil, he]⟩⟩
          · omega
        · have hT' := hTj k ek
          by_cases hS : (S k).1 ≠ 0
          · rw [if_pos hS, hT', if_pos ((hnxt k (by omega)).2 hS)]
            have htz := h.tz k (by omega) hS
            have hrow : (if (S k).1.testBit (tz left.1) = true then (S k).1 ^^^ left.1 else (S k).1) = (nxt left k (S k)).1 := by
              unfold nxt; split <;> rfl
            rw [List.foldl_cons, List.foldl_nil]
            unfold pst
            simp only [hrow, htz]
            rcases ih with ⟨h2, hlt, he⟩ | ⟨h2, ⟨hle, he⟩ | ⟨hlt, he⟩⟩
            · left
              rw [if_neg (by rw [h2]; simp)]
              exact ⟨h2, by omega, by rw [he]⟩
            · right
              rw [if_neg (by omega)]
              exact ⟨h2, .inl ⟨by omega, by rw [he]⟩⟩
            · left
              rw [if_pos ⟨h2, hlt⟩]
              exact ⟨rfl, by omega, by rw [← he]; simp⟩
          · rw [if_neg hS, hT', if_neg (fun hc => hS ((hnxt k (by omega)).1 hc)), List.foldl_nil, List.append_nil]
            rcases ih with ⟨h2, hlt, he⟩ | ⟨h2, ⟨hle, he⟩ | ⟨hlt, he⟩⟩
            · exact .inl ⟨h2, by omega, he⟩
            · exact .inr ⟨h2, .inl ⟨by omega, he⟩⟩
            · exact .inr ⟨h2, .inr ⟨by omega, he⟩⟩
    unfold putR
    rcases key 60 (Nat.le_refl _) with ⟨h2, _, he⟩ | ⟨h2, ⟨hle, _⟩ | ⟨_, he⟩⟩
    · simp only [h2, if_true]; exact he.symm
    · omega
    · simp only [h2]; exact he.symm

/-- The rows joined one after the other. -/
def addAll (S : Nat → TR) : List TR → (Nat → TR)
  | [] => S
  | r :: rs => addAll (addS S r) rs
def putAll (L : List Nat) (xs : List Nat) : List Nat := xs.foldl put L

theorem addAll_piv {S : Nat → TR} (h : Piv S) (rs : List TR) (hr : ∀ r ∈ rs, r.1 < 2 ^ 60 ∧ r.2 < 2 ^ 60) : Piv (addAll S rs) := by
  induction rs generalizing S with
  | nil => exact h
  | cons r rs ih => exact ih (h.add r (hr r (by simp)).1 (hr r (by simp)).2) (fun q hq => hr q (by simp [hq]))

theorem addAll_sim {S : Nat → TR} (h : Piv S) (rs : List TR) (hr : ∀ r ∈ rs, r.1 < 2 ^ 60 ∧ r.2 < 2 ^ 60) : rowsK (addAll S rs) 60 = putAll (rowsK S 60) (rs.map (·.1)) := by
  induction rs generalizing S with
  | nil => rfl
  | cons r rs ih =>
    have hr1 := hr r (by simp)
    rw [addAll, ih (h.add r hr1.1 hr1.2) (fun q hq => hr q (by simp [hq])), put_sim h r hr1.1 hr1.2]
    simp only [putAll, List.map_cons, List.foldl_cons]
end Go.Proofs.YtdojblmffmefgaaDoor
