/-
  Joined: PTabE, PTabP.
-/
import Derived.Test.YtggebkcmokpcmaaZBHit34
import Derived.Test.YtggebkcmokpcmaaZBHit13
section
namespace Go.Proofs.Ytggebkcmokpcmaa
set_option maxRecDepth 100000
set_option linter.unusedVariables false

/-- One step of the counter. -/
def advG : List (Nat × Nat) → Tab → Tab
  | [], T => T
  | p :: ps, T => if 0 < T p.1 0 / 2 ^ p.2 ∧ 0 < T 0 p.2 then mv p.1 p.2 1 T else advG ps (mv p.1 p.2 (-T p.1 p.2) T)
/-- All tables, in the counter's order. -/
def allE : List (Nat × Nat) → Tab → List Tab
  | [], T => [T]
  | p :: ps, T => (allE ps T).flatMap fun y => (List.range (mx p y + 1)).map fun v : Nat => mv p.1 p.2 (v : Int) y

/-- f leads each one to the next one, and the last one to z. -/
def Steps {α : Type} (f : α → α) : List α → α → Prop
  | [], _ => True
  | [a], z => f a = z
  | a :: b :: l, z => f a = b ∧ Steps f (b :: l) z
theorem Steps.append {α : Type} {f : α → α} {z : α} : ∀ (l : List α) (b : α) (l' : List α), Steps f l b → Steps f (b :: l') z → Steps f (l ++ b :: l') z
  | [], _, _, _, h => h
  | [a], b, l', h1, h2 => ⟨h1, h2⟩
  | a :: c :: l, b, l', h1, h2 => ⟨h1.1, Steps.append (c :: l) b l' h1.2 h2⟩

theorem mv_add {i j : Nat} (hi : 0 < i) (hj : 0 < j) (a b : Int) (T : Tab) : mv i j a (mv i j b T) = mv i j (a + b) T := by
  have e0 : mv i j b T i j = T i j + b := by unfold mv; rw [if_pos ⟨rfl, rfl⟩]
  have e1 := mv_edge_r hi hj b T i
  have e2 := mv_edge_c hi hj b T j
  rw [if_pos rfl] at e1 e2
  have hm : (a + b) * 2 ^ j = a * 2 ^ j + b * 2 ^ j := Int.add_mul a b _
  funext x y
  show (if x = i ∧ y = j then mv i j b T i j + a else if x = i ∧ y = 0 then mv i j b T i 0 - a * 2 ^ j else if x = 0 ∧ y = j then mv i j b T 0 j - a else mv i j b T x y) = mv i j (a + b) T x y
  rw [e0, e1, e2]
  unfold mv
  by_cases h1 : x = i ∧ y = j
  · rw [if_pos h1, if_pos h1]; omega
  · rw [if_neg h1, if_neg h1]
    by_cases h2 : x = i ∧ y = 0
    · rw [if_pos h2, if_pos h2]; omega
    · rw [if_neg h2, if_neg h2]
      by_cases h3 : x = 0 ∧ y = j
      · rw [if_pos h3, if_pos h3]; omega
      · rw [if_neg h3, if_neg h3, if_neg h1, if_neg h2, if_neg h3]
theorem mv_at {i j : Nat} (n : Int) (T : Tab) : mv i j n T i j = T i j + n := by unfold mv; rw [if_pos ⟨rfl, rfl⟩]
theorem mv_off {p q : Nat × Nat} (hq : inP q) (hne : p ≠ q) (n : Int) (T : Tab) : mv p.1 p.2 n T q.1 q.2 = T q.1 q.2 := by
  obtain ⟨i, j⟩ := p
  obtain ⟨k, l⟩ := q
  obtain ⟨h1, h2⟩ := hq
  simp only at h1 h2 ⊢
  unfold mv
  rw [if_neg (fun e => hne (by rw [e.1, e.2])), if_neg (by omega), if_neg (by omega)]

/-- The counter may count on at a place. -/
theorem can_iff {p : Nat × Nat} (hp : inP p) {T : Tab} (h : okT T) {v : Nat} (hv : v ≤ mx p T) : (0 < mv p.1 p.2 (v : Int) T p.1 0 / 2 ^ p.2 ∧ 0 < mv p.1 p.2 (v : Int) T 0 p.2) ↔ v < mx p T := by
  have k := mv_ok hp h hv
  have e : v < mx p T ↔ v + 1 ≤ mx p T := Iff.rfl
  rw [e, le_mx h (v + 1)]
  have e1 : 0 < mv p.1 p.2 (v : Int) T p.1 0 / 2 ^ p.2 ↔ 1 * 2 ^ p.2 ≤ mv p.1 p.2 (v : Int) T p.1 0 := by
    rw [← Int.le_ediv_iff_mul_le (pow_pos' p.2)]
    exact Iff.rfl
  rw [e1, mv_edge_r hp.1 hp.2, mv_edge_c hp.1 hp.2, if_pos rfl, if_pos rfl]
  have e2 : ((v + 1 : Nat) : Int) * 2 ^ p.2 = (v : Int) * 2 ^ p.2 + 1 * 2 ^ p.2 := by rw [← Int.add_mul]; rfl
  rw [e2]
  constructor
  · rintro ⟨a, b⟩; exact ⟨by omega, by omega⟩
  · rintro ⟨a, b⟩; exact ⟨by omega, by omega⟩

/-- One block of the counter. -/
theorem block_steps (p : Nat × Nat) (hp : inP p) (ps : List (Nat × Nat)) (y : Tab) (hy : okT y) (h0 : y p.1 p.2 = 0) :
    ∀ k v, v + k = mx p y → Steps (advG (p :: ps)) ((List.range' v (k + 1)).map fun v : Nat => mv p.1 p.2 (v : Int) y) (advG ps y)
  | 0, v, h => by
    have hv : v ≤ mx p y := by omega
    show advG (p :: ps) (mv p.1 p.2 (v : Int) y) = advG ps y
    rw [advG, if_neg (by rw [can_iff hp hy hv]; omega), mv_at, h0, mv_add hp.1 hp.2, show -(0 + (v : Int)) + (v : Int) = 0 by omega, mv_zero]
  | k + 1, v, h => by
    have hv : v ≤ mx p y := by omega
    refine ⟨?_, block_steps p hp ps y hy h0 k (v + 1) (by omega)⟩
    rw [advG, if_pos ((can_iff hp hy hv).2 (by omega)), mv_add hp.1 hp.2]
    congr 1 <;> omega
theorem block_steps0 (p : Nat × Nat) (hp : inP p) (ps : List (Nat × Nat)) (y : Tab) (hy : okT y) (h0 : y p.1 p.2 = 0) :
    Steps (advG (p :: ps)) ((List.range (mx p y + 1)).map fun v : Nat => mv p.1 p.2 (v : Int) y) (advG ps y) := by
  rw [List.range_eq_range']
  exact block_steps p hp ps y hy h0 (mx p y) 0 (by omega)
theorem block_head (p : Nat × Nat) (y : Tab) : ∃ l, ((List.range (mx p y + 1)).map fun v : Nat => mv p.1 p.2 (v : Int) y) = y :: l := by
  rw [List.range_succ_eq_map, List.map_cons]
  exact ⟨_, by rw [show ((0 : Nat) : Int) = 0 from rfl, mv_zero]⟩

theorem blocks_steps (p : Nat × Nat) (hp : inP p) (ps : List (Nat × Nat)) (z : Tab) : ∀ (L : List Tab), (∀ y ∈ L, okT y ∧ y p.1 p.2 = 0) → Steps (advG ps) L z →
    Steps (advG (p :: ps)) (L.flatMap fun y => (List.range (mx p y + 1)).map fun v : Nat => mv p.1 p.2 (v : Int) y) z
  | [], _, _ => trivial
  | [y], h, hs => by
    have := block_steps0 p hp ps y (h y List.mem_cons_self).1 (h y List.mem_cons_self).2
    rw [show advG ps y = z from hs] at this
    simpa using this
  | y :: y' :: l, h, hs => by
    have h1 := block_steps0 p hp ps y (h y List.mem_cons_self).1 (h y List.mem_cons_self).2
    rw [hs.1] at h1
    have h2 := blocks_steps p hp ps z (y' :: l) (fun u hu => h u (List.mem_cons_of_mem _ hu)) hs.2
    obtain ⟨b, hb⟩ := block_head p y'
    rw [List.flatMap_cons]
    have e : ((y' :: l).flatMap fun y => (List.range (mx p y + 1)).map fun v : Nat => mv p.1 p.2 (v : Int) y) = y' :: (b ++ l.flatMap fun y => (List.range (mx p y + 1)).map fun v : Nat => mv p.1 p.2 (v : Int) y) := by
      rw [List.flatMap_cons, hb, List.cons_append]
    rw [e] at h2 ⊢
    exact Steps.append _ _ _ h1 h2

/-- What all the tables have in common. -/
theorem allE_ok : ∀ (ps : List (Nat × Nat)) (T : Tab), (∀ p ∈ ps, inP p) → okT T → ∀ y ∈ allE ps T, okT y ∧ ∀ q, inP q → q ∉ ps → y q.1 q.2 = T q.1 q.2
  | [], T, _, hT, y, hy => by rw [List.mem_singleton.1 hy]; exact ⟨hT, fun _ _ _ => rfl⟩
  | p :: ps, T, hin, hT, y, hy => by
    obtain ⟨u, hu, hy⟩ := List.mem_flatMap.1 hy
    obtain ⟨v, hv, rfl⟩ := List.mem_map.1 hy
    obtain ⟨h1, h2⟩ := allE_ok ps T (fun q hq => hin q (List.mem_cons_of_mem _ hq)) hT u hu
    have hv' := List.mem_range.1 hv
    refine ⟨mv_ok (hin p List.mem_cons_self) h1 (by omega), fun q hq hn => ?_⟩
    rw [mv_off hq (fun e => hn (by rw [e]; exact List.mem_cons_self))]
    exact h2 q hq fun h => hn (List.mem_cons_of_mem _ h)

/-- The counter goes through all tables and comes back. -/
theorem allE_steps : ∀ (ps : List (Nat × Nat)) (T : Tab), (∀ p ∈ ps, inP p) → ps.Nodup → okT T → (∀ p ∈ ps, T p.1 p.2 = 0) → Steps (advG ps) (allE ps T) T
  | [], T, _, _, _, _ => rfl
  | p :: ps, T, hin, hn, hT, h0 => by
    obtain ⟨n1, n2⟩ := List.nodup_cons.1 hn
    have ih := allE_steps ps T (fun q hq => hin q (List.mem_cons_of_mem _ hq)) n2 hT fun q hq => h0 q (List.mem_cons_of_mem _ hq)
    refine blocks_steps p (hin p List.mem_cons_self) ps T _ (fun y hy => ?_) ih
    obtain ⟨k1, k2⟩ := allE_ok ps T (fun q hq => hin q (List.mem_cons_of_mem _ hq)) hT y hy
    exact ⟨k1, by rw [k2 p (hin p List.mem_cons_self) n1, h0 p List.mem_cons_self]⟩
/-- The first one, and the others, which have something at a place. -/
theorem allE_head : ∀ (ps : List (Nat × Nat)) (T : Tab), (∀ p ∈ ps, inP p) → ps.Nodup → okT T → (∀ p ∈ ps, T p.1 p.2 = 0) → ∃ l, allE ps T = T :: l ∧ ∀ y ∈ l, ∃ p ∈ ps, y p.1 p.2 ≠ 0
  | [], T, _, _, _, _ => ⟨[], rfl, fun y hy => by cases hy⟩
  | p :: ps, T, hin, hn, hT, h0 => by
    obtain ⟨n1, n2⟩ := List.nodup_cons.1 hn
    have hp := hin p List.mem_cons_self
    obtain ⟨l, e, hl⟩ := allE_head ps T (fun q hq => hin q (List.mem_cons_of_mem _ hq)) n2 hT fun q hq => h0 q (List.mem_cons_of_mem _ hq)
    have e0 : allE (p :: ps) T = T :: (((List.range (mx p T)).map fun v : Nat => mv p.1 p.2 ((v + 1 : Nat) : Int) T) ++ l.flatMap fun y => (List.range (mx p y + 1)).map fun v : Nat => mv p.1 p.2 (v : Int) y) := by
      rw [allE, e, List.flatMap_cons, List.range_succ_eq_map, List.map_cons, show ((0 : Nat) : Int) = 0 from rfl, mv_zero, List.map_map, List.cons_append]
      rfl
    refine ⟨_, e0, fun y hy => ?_⟩
    rcases List.mem_append.1 hy with hy | hy
    · obtain ⟨v, _, rfl⟩ := List.mem_map.1 hy
      exact ⟨p, List.mem_cons_self, by rw [mv_at, h0 p List.mem_cons_self]; omega⟩
    · obtain ⟨u, hu, hy⟩ := List.mem_flatMap.1 hy
      obtain ⟨v, _, rfl⟩ := List.mem_map.1 hy
      obtain ⟨q, hq, hne⟩ := hl u hu
      exact ⟨q, List.mem_cons_of_mem _ hq, by rw [mv_off (hin q (List.mem_cons_of_mem _ hq)) (fun e => n1 (by rw [e]; exact hq))]; exact hne⟩

/-! ### Sums over the counter's tables -/
def sumE (c : Tab → Nat) (L : List Tab) : Nat := (L.map c).sum
theorem sum_range (f : Nat → Nat) : ∀ n, ((List.range n).map f).sum = sumR f n
  | 0 => rfl
  | n + 1 => by rw [List.range_succ, List.map_append, List.sum_append, sum_range f n, sumR]; simp
theorem sumE_flat (c : Tab → Nat) (B : Tab → List Tab) : ∀ L : List Tab, sumE c (L.flatMap B) = sumE (fun y => sumE c (B y)) L
  | [] => rfl
  | y :: l => by
    have := sumE_flat c B l
    unfold sumE at this ⊢
    rw [List.flatMap_cons, List.map_append, List.sum_append, this]
    rfl
theorem sumT_snoc (c : Tab → Nat) (p : Nat × Nat) : ∀ (qs : List (Nat × Nat)) (T : Tab), sumT c (qs ++ [p]) T = sumT (fun y => sumR (fun v => c (mv p.1 p.2 (v : Int) y)) (mx p y + 1)) qs T
  | [], T => rfl
  | q :: qs, T => sumR_congr _ fun v _ => sumT_snoc c p qs _
theorem sumE_all : ∀ (ps : List (Nat × Nat)) (c : Tab → Nat) (T : Tab), sumE c (allE ps T) = sumT c ps.reverse T
  | [], c, T => by simp [sumE, allE, sumT]
  | p :: ps, c, T => by
    rw [allE, sumE_flat, List.reverse_cons, sumT_snoc, ← sumE_all ps]
    unfold sumE
    congr 1
    refine List.map_congr_left fun y _ => ?_
    rw [List.map_map, ← sum_range]
    rfl
end Go.Proofs.Ytggebkcmokpcmaa
end
section
namespace Go.Proofs.Ytggebkcmokpcmaa
set_option linter.unusedVariables false
set_option maxRecDepth 100000

/-- The places of the counter; those of a table with n rows and m columns, row by row. -/
def posI : List (Nat × Nat) := [(1, 1), (1, 2), (1, 3), (1, 4), (2, 1), (2, 2), (2, 3), (3, 1), (3, 2), (4, 1)]
def rm (n m : Nat) : List (Nat × Nat) := (List.range n).flatMap fun i => (List.range m).map fun j => (i + 1, j + 1)
def restA (n m : Nat) : List (Nat × Nat) := posI.filter fun p => !(rm n m).contains p
def restB (n m : Nat) : List (Nat × Nat) := (rm n m).filter fun p => !posI.contains p
def okPlaces (n m : Nat) : Bool :=
  (rm n m ++ restA n m).isPerm (posI ++ restB n m) && (decide (rm n m ++ restA n m).Nodup && ((rm n m ++ restA n m).all (fun p => decide (0 < p.1 ∧ 0 < p.2)) && ((restA n m).all (fun p => decide (n < p.1 ∨ m < p.2)) && (restB n m).all (fun p => decide (6 ≤ p.1 + p.2 ∧ p.1 ≤ 5 ∧ p.2 ≤ 5)))))
theorem places_b : ∀ n, n < 6 → ∀ m, m < 6 → okPlaces n m = true := by decide +kernel
theorem places (n : Nat) (hn : n < 6) (m : Nat) (hm : m < 6) : (rm n m ++ restA n m).isPerm (posI ++ restB n m) = true ∧ (rm n m ++ restA n m).Nodup ∧ (∀ p ∈ rm n m ++ restA n m, 0 < p.1 ∧ 0 < p.2) ∧ (∀ p ∈ restA n m, n < p.1 ∨ m < p.2) ∧ (∀ p ∈ restB n m, 6 ≤ p.1 + p.2 ∧ p.1 ≤ 5 ∧ p.2 ≤ 5) := by
  have h := places_b n hn m hm
  unfold okPlaces at h
  rw [Bool.and_eq_true, Bool.and_eq_true, Bool.and_eq_true, Bool.and_eq_true, List.all_eq_true, List.all_eq_true, List.all_eq_true, decide_eq_true_iff] at h
  exact ⟨h.1, h.2.1, fun p hp => of_decide_eq_true (h.2.2.1 p hp), fun p hp => of_decide_eq_true (h.2.2.2.1 p hp), fun p hp => of_decide_eq_true (h.2.2.2.2 p hp)⟩
theorem posI_in : ∀ p ∈ posI, 0 < p.1 ∧ 0 < p.2 := by decide
theorem posI_nodup : posI.Nodup := by decide
theorem rm_mem {n m : Nat} {p : Nat × Nat} : p ∈ rm n m ↔ (1 ≤ p.1 ∧ p.1 ≤ n) ∧ (1 ≤ p.2 ∧ p.2 ≤ m) := by
  obtain ⟨i, j⟩ := p
  unfold rm
  rw [List.mem_flatMap]
  constructor
  · rintro ⟨a, ha, h⟩
    obtain ⟨b, hb, e⟩ := List.mem_map.1 h
    have := List.mem_range.1 ha
    have := List.mem_range.1 hb
    cases e
    exact ⟨⟨by omega, by omega⟩, ⟨by omega, by omega⟩⟩
  · rintro ⟨⟨h1, h2⟩, h3, h4⟩
    simp only at h1 h2 h3 h4
    exact ⟨i - 1, List.mem_range.2 (by omega), List.mem_map.2 ⟨j - 1, List.mem_range.2 (by omega), by rw [Nat.sub_add_cancel h1, Nat.sub_add_cancel h3]⟩⟩

/-- What is asked of the table at the start. -/
structure Start (n m : Nat) (T : Tab) : Prop where
  ok : okT T
  nn : n < 6
  mm : m < 6
  row : ∀ i, n < i → T i 0 = 0
  col : ∀ j, m < j → T 0 j = 0
  far : ∀ i j, 6 ≤ i + j → i ≤ 5 → j ≤ 5 → T i 0 < 2 ^ j ∨ T 0 j = 0
theorem mx_row {p : Nat × Nat} {T : Tab} (h : okT T) (hz : T p.1 0 < 2 ^ p.2 ∨ T 0 p.2 = 0) : mx p T = 0 := by
  apply Nat.eq_zero_of_not_pos
  intro hpos
  have h1 := (le_mx h 1).1 hpos
  have h2 : ((1 : Nat) : Int) * 2 ^ p.2 = 2 ^ p.2 := by rw [show ((1 : Nat) : Int) = 1 from rfl, Int.one_mul]
  rw [h2] at h1
  omega

/-- Row by row, or by the counter: the sums are the same. -/
theorem same_sums {n m : Nat} {T : Tab} (h : Start n m T) (c : Tab → Nat) : sumE c (allE posI T) = sumT c (rm n m) T := by
  obtain ⟨p1, p2, p3, p4, p5⟩ := places n h.nn m h.mm
  have pp := List.isPerm_iff.1 p1
  have hinA : ∀ p ∈ rm n m, inP p := fun p hp => p3 p (List.mem_append_left _ hp)
  have hA : ∀ p ∈ restA n m, mx p T = 0 := fun p hp => mx_row h.ok (by
    rcases p4 p hp with k | k
    · left; rw [h.row _ k]; exact pow_pos' _
    · right; exact h.col _ k)
  have hB : ∀ p ∈ restB n m, mx p T = 0 := fun p hp => mx_row h.ok (h.far _ _ (p5 p hp).1 (p5 p hp).2.1 (p5 p hp).2.2)
  have e1 := sumT_append_none c (rm n m) (restA n m) T hA hinA (fun p hp => p3 p (List.mem_append_right _ hp)) h.ok
  have e2 := sumT_perm c pp p3 p2 T h.ok
  have e3 := sumT_append_none c posI (restB n m) T hB posI_in (fun p hp => hinA p ((List.mem_filter.1 hp).1)) h.ok
  have e4 := sumT_perm c (List.reverse_perm posI).symm posI_in posI_nodup T h.ok
  rw [sumE_all, ← e4, ← e3, ← e2, e1]

/-! ### Results -/
/-- All results, row by row, with repetitions. -/
def resF (res : Tab → Option (List Int)) : List (Nat × Nat) → Tab → List (List Int)
  | [], T => (res T).toList
  | p :: ps, T => (List.range (mx p T + 1)).flatMap fun v : Nat => resF res ps (mv p.1 p.2 (v : Int) T)
theorem count_flat {α : Type} (f : α → List (List Int)) (z : List Int) : ∀ l : List α, (l.flatMap f).count z = (l.map fun a => (f a).count z).sum
  | [] => rfl
  | a :: l => by rw [List.flatMap_cons, List.count_append, count_flat f z l, List.map_cons, List.sum_cons]
theorem count_resF (res : Tab → Option (List Int)) (z : List Int) : ∀ (ps : List (Nat × Nat)) (T : Tab), (resF res ps T).count z = sumT (fun T => (res T).toList.count z) ps T
  | [], T => rfl
  | p :: ps, T => by
    rw [resF, count_flat, sum_range]
    exact sumR_congr _ fun v _ => count_resF res z ps _
theorem count_filterMap (res : Tab → Option (List Int)) (z : List Int) : ∀ L : List Tab, (L.filterMap res).count z = sumE (fun T => (res T).toList.count z) L
  | [] => rfl
  | T :: L => by
    have := count_filterMap res z L
    unfold sumE at this ⊢
    rw [List.map_cons, List.sum_cons, ← this]
    cases h : res T with
    | none => rw [List.filterMap_cons_none h]; simp
    | some x => rw [List.filterMap_cons_some h]; simp [List.count_cons]; omega
theorem par_count (z : List Int) : ∀ l : List (List Int), par l z ↔ l.count z % 2 = 1
  | [] => by simp [par]
  | x :: l => by
    show (x = z ∧ ¬ par l z) ∨ (x ≠ z ∧ par l z) ↔ _
    rw [par_count z l, List.count_cons]
    by_cases e : x = z
    · subst e; simp; omega
    · have : (x == z) = false := by rw [beq_eq_false_iff_ne]; exact e
      simp [e, this]
/-- The results that occur an odd number of times are the same. -/
theorem same_results {n m : Nat} {T : Tab} (h : Start n m T) (res : Tab → Option (List Int)) (z : List Int) : par ((allE posI T).filterMap res) z ↔ par (resF res (rm n m) T) z := by
  rw [par_count, par_count, count_filterMap, count_resF, same_sums h]
end Go.Proofs.Ytggebkcmokpcmaa
end
