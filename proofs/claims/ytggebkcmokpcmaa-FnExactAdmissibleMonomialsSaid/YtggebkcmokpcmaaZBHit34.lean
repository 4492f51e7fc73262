/-
  Joined: PTab.
-/
import Derived.Test.YtggebkcmokpcmaaZBHit01
section
namespace Go.Proofs.Ytggebkcmokpcmaa
set_option maxRecDepth 100000
set_option linter.unusedVariables false

/-! ### Sums -/
/-- The sum of f 0, .., f (n - 1). -/
def sumR (f : Nat → Nat) : Nat → Nat
  | 0 => 0
  | n + 1 => sumR f n + f n
theorem sumR_congr {f g : Nat → Nat} : ∀ n, (∀ i, i < n → f i = g i) → sumR f n = sumR g n
  | 0, _ => rfl
  | n + 1, h => by rw [sumR, sumR, sumR_congr n (fun i hi => h i (by omega)), h n (by omega)]
theorem sumR_zero : ∀ n, sumR (fun _ => 0) n = 0
  | 0 => rfl
  | n + 1 => by rw [sumR, sumR_zero n]
theorem sumR_add (f g : Nat → Nat) : ∀ n, sumR (fun i => f i + g i) n = sumR f n + sumR g n
  | 0 => rfl
  | n + 1 => by rw [sumR, sumR, sumR, sumR_add f g n]; omega
theorem sumR_swap (g : Nat → Nat → Nat) (m : Nat) : ∀ n, sumR (fun i => sumR (g i) m) n = sumR (fun j => sumR (fun i => g i j) n) m
  | 0 => by rw [sumR, show (fun j => sumR (fun i => g i j) 0) = fun _ => 0 from rfl, sumR_zero]
  | n + 1 => by
    rw [sumR, sumR_swap g m n, ← sumR_add]
    rfl
theorem sumR_cut (f : Nat → Nat) (a : Nat) : ∀ n, a ≤ n → sumR (fun i => if i < a then f i else 0) n = sumR f a
  | 0, h => by obtain rfl : a = 0 := by omega
               rfl
  | n + 1, h => by
    by_cases e : a = n + 1
    · subst e
      exact sumR_congr (n + 1) fun i hi => if_pos hi
    · rw [sumR, sumR_cut f a n (by omega), if_neg (by omega), Nat.add_zero]
/-- Two ways to go through the same pairs. -/
theorem sumR_pairs (g : Nat → Nat → Nat) (A A' N : Nat) (B B' : Nat → Nat) (hA : A ≤ N) (hA' : A' ≤ N) (hB : ∀ v, v < A → B v ≤ N) (hB' : ∀ u, u < A' → B' u ≤ N)
    (h : ∀ v u, (v < A ∧ u < B v) ↔ (u < A' ∧ v < B' u)) : sumR (fun v => sumR (fun u => g v u) (B v)) A = sumR (fun u => sumR (fun v => g v u) (B' u)) A' := by
  have e1 : sumR (fun v => sumR (fun u => g v u) (B v)) A = sumR (fun v => sumR (fun u => if v < A ∧ u < B v then g v u else 0) N) N := by
    rw [← sumR_cut _ A N hA]
    refine sumR_congr N fun v hv => ?_
    by_cases k : v < A
    · rw [if_pos k, ← sumR_cut _ (B v) N (hB v k)]
      exact sumR_congr N fun u hu => by simp [k]
    · rw [if_neg k]
      exact (sumR_zero N).symm.trans (sumR_congr N fun u hu => by simp [k])
  have e2 : sumR (fun u => sumR (fun v => g v u) (B' u)) A' = sumR (fun u => sumR (fun v => if v < A ∧ u < B v then g v u else 0) N) N := by
    rw [← sumR_cut _ A' N hA']
    refine sumR_congr N fun u hu => ?_
    by_cases k : u < A'
    · rw [if_pos k, ← sumR_cut _ (B' u) N (hB' u k)]
      refine sumR_congr N fun v hv => ?_
      by_cases k2 : v < B' u
      · rw [if_pos k2, if_pos ((h v u).2 ⟨k, k2⟩)]
      · rw [if_neg k2, if_neg (fun h3 => k2 ((h v u).1 h3).2)]
    · rw [if_neg k]
      exact (sumR_zero N).symm.trans (sumR_congr N fun v hv => by rw [if_neg (fun h3 => k ((h v u).1 h3).1)])
  rw [e1, e2]
  exact sumR_swap _ N N

/-! ### Tables -/
/-- A table: (i, 0) and (0, j) are what is left at the edges. -/
abbrev Tab := Nat → Nat → Int
/-- n more at the place (i, j), taken from the edges. -/
def mv (i j : Nat) (n : Int) (T : Tab) : Tab := fun a b =>
  if a = i ∧ b = j then T i j + n else if a = i ∧ b = 0 then T i 0 - n * 2 ^ j else if a = 0 ∧ b = j then T 0 j - n else T a b
/-- How many there may be at a place. -/
def mx (p : Nat × Nat) (T : Tab) : Nat := min (T p.1 0 / 2 ^ p.2).toNat (T 0 p.2).toNat
/-- Nothing is negative at the edges. -/
def okT (T : Tab) : Prop := ∀ k, 0 ≤ T k 0 ∧ 0 ≤ T 0 k
/-- A place that is not at an edge. -/
def inP (p : Nat × Nat) : Prop := 0 < p.1 ∧ 0 < p.2

theorem pow_pos' (j : Nat) : (0 : Int) < 2 ^ j := Int.pow_pos (by omega)
theorem le_mx {p : Nat × Nat} {T : Tab} (h : okT T) (v : Nat) : v ≤ mx p T ↔ (v : Int) * 2 ^ p.2 ≤ T p.1 0 ∧ (v : Int) ≤ T 0 p.2 := by
  have h1 := (h p.1).1
  have h2 := (h p.2).2
  have h3 := pow_pos' p.2
  unfold mx
  have e : (v : Int) * 2 ^ p.2 ≤ T p.1 0 ↔ (v : Int) ≤ T p.1 0 / 2 ^ p.2 := (Int.le_ediv_iff_mul_le h3).symm
  have h4 : 0 ≤ T p.1 0 / 2 ^ p.2 := Int.ediv_nonneg h1 (by omega)
  rw [e]
  generalize T p.1 0 / 2 ^ p.2 = x at h4 ⊢
  omega

theorem mv_edge_r {i j : Nat} (hi : 0 < i) (hj : 0 < j) (n : Int) (T : Tab) (k : Nat) : mv i j n T k 0 = if k = i then T i 0 - n * 2 ^ j else T k 0 := by
  unfold mv
  rw [if_neg (by omega)]
  by_cases h : k = i
  · rw [if_pos ⟨h, rfl⟩, if_pos h]
  · rw [if_neg (by omega), if_neg (by omega), if_neg h]
theorem mv_edge_c {i j : Nat} (hi : 0 < i) (hj : 0 < j) (n : Int) (T : Tab) (k : Nat) : mv i j n T 0 k = if k = j then T 0 j - n else T 0 k := by
  unfold mv
  rw [if_neg (by omega), if_neg (by omega)]
  by_cases h : k = j
  · rw [if_pos ⟨rfl, h⟩, if_pos h]
  · rw [if_neg (by omega), if_neg h]
theorem mv_ok {p : Nat × Nat} (hp : inP p) {T : Tab} (h : okT T) {v : Nat} (hv : v ≤ mx p T) : okT (mv p.1 p.2 v T) := by
  obtain ⟨h1, h2⟩ := (le_mx h v).1 hv
  intro k
  rw [mv_edge_r hp.1 hp.2, mv_edge_c hp.1 hp.2]
  have := h k
  constructor
  · split <;> omega
  · split <;> omega
theorem mv_zero (i j : Nat) (T : Tab) : mv i j 0 T = T := by
  funext a b
  unfold mv
  by_cases h1 : a = i ∧ b = j
  · rw [if_pos h1, h1.1, h1.2]; omega
  · rw [if_neg h1]
    by_cases h2 : a = i ∧ b = 0
    · rw [if_pos h2, h2.1, h2.2]; omega
    · rw [if_neg h2]
      by_cases h3 : a = 0 ∧ b = j
      · rw [if_pos h3, h3.1, h3.2]; omega
      · rw [if_neg h3]
theorem mv_comm {p q : Nat × Nat} (hp : inP p) (hq : inP q) (hne : p ≠ q) (v u : Int) (T : Tab) : mv p.1 p.2 v (mv q.1 q.2 u T) = mv q.1 q.2 u (mv p.1 p.2 v T) := by
  obtain ⟨i, j⟩ := p
  obtain ⟨k, l⟩ := q
  obtain ⟨p1, p2⟩ := hp
  obtain ⟨q1, q2⟩ := hq
  have hne' : ¬ (i = k ∧ j = l) := fun h => hne (by rw [h.1, h.2])
  simp only at p1 p2 q1 q2 ⊢
  funext a b
  unfold mv
  by_cases hik : i = k
  · subst hik
    have hjl : j ≠ l := fun h => hne' ⟨rfl, h⟩
    by_cases a1 : a = i <;> by_cases b0 : b = 0 <;> by_cases bj : b = j <;> by_cases bl : b = l <;> by_cases a0 : a = 0 <;> simp_all <;> omega
  · by_cases hjl : j = l
    · subst hjl
      by_cases a1 : a = i <;> by_cases a2 : a = k <;> by_cases b0 : b = 0 <;> by_cases bj : b = j <;> by_cases a0 : a = 0 <;> simp_all <;> omega
    · by_cases a1 : a = i <;> by_cases a2 : a = k <;> by_cases b0 : b = 0 <;> by_cases bj : b = j <;> by_cases bl : b = l <;> by_cases a0 : a = 0 <;> simp_all <;> omega

/-- The sum of c over all tables that come from T at the places ps. -/
def sumT (c : Tab → Nat) : List (Nat × Nat) → Tab → Nat
  | [], T => c T
  | p :: ps, T => sumR (fun v => sumT c ps (mv p.1 p.2 v T)) (mx p T + 1)

theorem sumT_swap (c : Tab → Nat) (p q : Nat × Nat) (hp : inP p) (hq : inP q) (hne : p ≠ q) (ps : List (Nat × Nat)) (T : Tab) (h : okT T) : sumT c (p :: q :: ps) T = sumT c (q :: p :: ps) T := by
  show sumR (fun v => sumR (fun u => sumT c ps (mv q.1 q.2 u (mv p.1 p.2 v T))) (mx q (mv p.1 p.2 v T) + 1)) (mx p T + 1) = sumR (fun u => sumR (fun v => sumT c ps (mv p.1 p.2 v (mv q.1 q.2 u T))) (mx p (mv q.1 q.2 u T) + 1)) (mx q T + 1)
  have key : ∀ v u : Nat, (v < mx p T + 1 ∧ u < mx q (mv p.1 p.2 v T) + 1) ↔ (u < mx q T + 1 ∧ v < mx p (mv q.1 q.2 u T) + 1) := by
    intro v u
    have a1 : v < mx p T + 1 ↔ v ≤ mx p T := by omega
    have a2 : u < mx q T + 1 ↔ u ≤ mx q T := by omega
    have a3 : u < mx q (mv p.1 p.2 v T) + 1 ↔ u ≤ mx q (mv p.1 p.2 v T) := by omega
    have a4 : v < mx p (mv q.1 q.2 u T) + 1 ↔ v ≤ mx p (mv q.1 q.2 u T) := by omega
    rw [a1, a2, a3, a4]
    have pv : (0 : Int) ≤ (v : Int) * 2 ^ p.2 := Int.mul_nonneg (by omega) (Int.le_of_lt (pow_pos' _))
    have pu : (0 : Int) ≤ (u : Int) * 2 ^ q.2 := Int.mul_nonneg (by omega) (Int.le_of_lt (pow_pos' _))
    constructor
    · rintro ⟨k1, k2⟩
      have m1 := (le_mx h v).1 k1
      have m2 := (le_mx (mv_ok hp h k1) u).1 k2
      rw [mv_edge_r hp.1 hp.2, mv_edge_c hp.1 hp.2] at m2
      have k3 : u ≤ mx q T := (le_mx h u).2 (by
        refine ⟨?_, ?_⟩
        · have := m2.1; split at this
          · rename_i e; rw [e]; omega
          · exact this
        · have := m2.2; split at this
          · rename_i e; rw [e]; omega
          · exact this)
      refine ⟨k3, (le_mx (mv_ok hq h k3) v).2 ?_⟩
      rw [mv_edge_r hq.1 hq.2, mv_edge_c hq.1 hq.2]
      refine ⟨?_, ?_⟩
      · have := m2.1
        split
        · rename_i e; rw [if_pos e.symm] at this; rw [← e]; omega
        · exact m1.1
      · have := m2.2
        split
        · rename_i e; rw [if_pos e.symm] at this; rw [← e]; omega
        · exact m1.2
    · rintro ⟨k1, k2⟩
      have m1 := (le_mx h u).1 k1
      have m2 := (le_mx (mv_ok hq h k1) v).1 k2
      rw [mv_edge_r hq.1 hq.2, mv_edge_c hq.1 hq.2] at m2
      have k3 : v ≤ mx p T := (le_mx h v).2 (by
        refine ⟨?_, ?_⟩
        · have := m2.1; split at this
          · rename_i e; rw [e]; omega
          · exact this
        · have := m2.2; split at this
          · rename_i e; rw [e]; omega
          · exact this)
      refine ⟨k3, (le_mx (mv_ok hp h k3) u).2 ?_⟩
      rw [mv_edge_r hp.1 hp.2, mv_edge_c hp.1 hp.2]
      refine ⟨?_, ?_⟩
      · have := m2.1
        split
        · rename_i e; rw [if_pos e.symm] at this; rw [← e]; omega
        · exact m1.1
      · have := m2.2
        split
        · rename_i e; rw [if_pos e.symm] at this; rw [← e]; omega
        · exact m1.2
  have bound : ∀ v, v ≤ mx p T → mx q (mv p.1 p.2 v T) ≤ mx q T := fun v hv => by
    have := ((key v (mx q (mv p.1 p.2 v T))).1 ⟨by omega, by omega⟩).1
    omega
  have bound' : ∀ u, u ≤ mx q T → mx p (mv q.1 q.2 u T) ≤ mx p T := fun u hu => by
    have := ((key (mx p (mv q.1 q.2 u T)) u).2 ⟨by omega, by omega⟩).1
    omega
  have := sumR_pairs (fun v u => sumT c ps (mv q.1 q.2 u (mv p.1 p.2 v T))) (mx p T + 1) (mx q T + 1) (mx p T + mx q T + 1) (fun v => mx q (mv p.1 p.2 v T) + 1) (fun u => mx p (mv q.1 q.2 u T) + 1) (by omega) (by omega)
    (fun v hv => by have := bound v (by omega); omega) (fun u hu => by have := bound' u (by omega); omega) key
  rw [this]
  refine sumR_congr _ fun u hu => sumR_congr _ fun v hv => ?_
  show sumT c ps (mv q.1 q.2 u (mv p.1 p.2 v T)) = sumT c ps (mv p.1 p.2 v (mv q.1 q.2 u T))
  rw [mv_comm hp hq hne]

theorem sumT_perm (c : Tab → Nat) {ps qs : List (Nat × Nat)} (h : ps.Perm qs) : (∀ p ∈ ps, inP p) → ps.Nodup → ∀ T, okT T → sumT c ps T = sumT c qs T := by
  induction h with
  | nil => intro _ _ T _; rfl
  | cons p _ ih =>
    intro hin hn T hT
    refine sumR_congr _ fun v hv => ih (fun q hq => hin q (List.mem_cons_of_mem _ hq)) (List.nodup_cons.1 hn).2 _ (mv_ok (hin p List.mem_cons_self) hT (by omega))
  | swap p q l =>
    intro hin hn T hT
    exact sumT_swap c q p (hin q List.mem_cons_self) (hin p (List.mem_cons_of_mem _ List.mem_cons_self)) (fun e => (List.nodup_cons.1 hn).1 (by rw [e]; exact List.mem_cons_self)) l T hT
  | trans h1 h2 ih1 ih2 =>
    intro hin hn T hT
    rw [ih1 hin hn T hT]
    exact ih2 (fun p hp => hin p (h1.mem_iff.2 hp)) (h1.nodup_iff.1 hn) T hT

/-- Where there is room for none. -/
theorem mx_zero_keep {p q : Nat × Nat} (hq : inP q) {T : Tab} (h : okT T) (hz : mx p T = 0) {v : Nat} (hv : v ≤ mx q T) : mx p (mv q.1 q.2 v T) = 0 := by
  have k := mv_ok hq h hv
  have pv : (0 : Int) ≤ (v : Int) * 2 ^ q.2 := Int.mul_nonneg (by omega) (Int.le_of_lt (pow_pos' _))
  apply Nat.eq_zero_of_not_pos
  intro hpos
  have h1 := (le_mx k 1).1 hpos
  rw [mv_edge_r hq.1 hq.2, mv_edge_c hq.1 hq.2] at h1
  have : 1 ≤ mx p T := (le_mx h 1).2 (by
    refine ⟨?_, ?_⟩
    · have := h1.1; split at this
      · rename_i e; rw [e]; omega
      · exact this
    · have := h1.2; split at this
      · rename_i e; rw [e]; omega
      · exact this)
  omega
theorem sumT_none (c : Tab → Nat) : ∀ (qs : List (Nat × Nat)) (T : Tab), (∀ p ∈ qs, mx p T = 0) → (∀ p ∈ qs, inP p) → okT T → sumT c qs T = c T
  | [], _, _, _, _ => rfl
  | q :: qs, T, h, hin, hT => by
    show sumR (fun v => sumT c qs (mv q.1 q.2 v T)) (mx q T + 1) = c T
    rw [h q List.mem_cons_self]
    show 0 + sumT c qs (mv q.1 q.2 (0 : Nat) T) = c T
    rw [show ((0 : Nat) : Int) = 0 from rfl, mv_zero, Nat.zero_add]
    exact sumT_none c qs T (fun p hp => h p (List.mem_cons_of_mem _ hp)) (fun p hp => hin p (List.mem_cons_of_mem _ hp)) hT
theorem sumT_append_none (c : Tab → Nat) : ∀ (ps qs : List (Nat × Nat)) (T : Tab), (∀ p ∈ qs, mx p T = 0) → (∀ p ∈ ps, inP p) → (∀ p ∈ qs, inP p) → okT T → sumT c (ps ++ qs) T = sumT c ps T
  | [], qs, T, h, _, hin, hT => sumT_none c qs T h hin hT
  | p :: ps, qs, T, h, hp, hq, hT => by
    refine sumR_congr _ fun v hv => sumT_append_none c ps qs _ (fun q h3 => mx_zero_keep (hp p List.mem_cons_self) hT (h q h3) (by omega)) (fun q h3 => hp q (List.mem_cons_of_mem _ h3)) hq (mv_ok (hp p List.mem_cons_self) hT (by omega))
end Go.Proofs.Ytggebkcmokpcmaa
end
