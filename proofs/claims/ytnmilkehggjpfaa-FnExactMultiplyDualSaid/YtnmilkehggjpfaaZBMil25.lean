/-
  Joined: PFew, PRng.
-/
import Derived.Test.YtnmilkehggjpfaaZBMil19
import Derived.Test.YtnmilkehggjpfaaZBMil24
section
namespace Go.Proofs.Ytnmilkehggjpfaa
open Go.RowKit
set_option linter.unusedVariables false
set_option maxRecDepth 100000

/-! ### Exponent lists are among the partitions -/
def wt : Nat → List Int → Int
  | _, [] => 0
  | k, y :: r => y * (sp k : Int) + wt (k + 1) r
theorem wt_snoc (y : Int) : ∀ (l : List Int) (k : Nat), wt k (l ++ [y]) = wt k l + y * (sp (k + l.length) : Int)
  | [], k => by simp [wt]
  | x :: l, k => by
    rw [List.cons_append, wt, wt, wt_snoc y l (k + 1), List.length_cons, show k + 1 + l.length = k + (l.length + 1) by omega]
    omega
theorem dgr_wt {xs : List Int} (h : okNums (gOf xs) xs.length) (h10 : xs.length ≤ 10) : ∀ i, i ≤ xs.length → dgr (gOf xs) i = wt 0 (xs.take i)
  | 0, _ => rfl
  | i + 1, hi => by
    have h1 := dgr_wt h h10 i (by omega)
    obtain ⟨d1, d2, _⟩ := dgr_part (gOf xs) i (by omega) fun j hj => h j (by omega)
    obtain ⟨p1, p2, _⟩ := sp_ten i (by omega)
    obtain ⟨g1, g2⟩ := h i (by omega)
    have q1 : 0 ≤ gOf xs i * (sp i : Int) := Int.mul_nonneg g1 (by omega)
    have q2 : gOf xs i * (sp i : Int) ≤ 1000000000000 * 1023 := Int.mul_le_mul g2 (by omega) (by omega) (by omega)
    have e : dgr (gOf xs) (i + 1) = wrap64 (dgr (gOf xs) i + wrap64 (gOf xs i * (sp i : Int))) := rfl
    have eg : gOf xs i = xs[i] := by unfold gOf; rw [List.getElem?_eq_getElem (by omega)]; rfl
    rw [e, List.take_succ_eq_append_getElem (by omega), wt_snoc, List.length_take, show min i xs.length = i by omega, ← h1, Nat.zero_add, ← eg]
    generalize gOf xs i * (sp i : Int) = pr at q1 q2 ⊢
    generalize dgr (gOf xs) i = y at d1 d2 ⊢
    rw [wrap_same (x := pr) (by omega) (by omega), wrap_same (x := y + pr) (by omega) (by omega)]
theorem dgL_wt {xs : List Int} (h : isE xs) : dgL xs = wt 0 xs := by
  have := dgr_wt (xs := xs) h.2.2 h.1 xs.length (Nat.le_refl _)
  rwa [List.take_length] at this

theorem wt_nonneg : ∀ (ys : List Int) (k : Nat), (∀ y ∈ ys, 0 ≤ y) → 0 ≤ wt k ys
  | [], _, _ => Int.le_refl 0
  | y :: r, k, h => by
    have h1 := wt_nonneg r (k + 1) fun z hz => h z (List.mem_cons_of_mem _ hz)
    have h2 : 0 ≤ y * (sp k : Int) := Int.mul_nonneg (h y List.mem_cons_self) (by omega)
    rw [wt]; omega
/-- The last number is not 0. -/
def lastOk (ys : List Int) : Prop := ys = [] ∨ ys[ys.length - 1]?.getD 0 ≠ 0
theorem lastOk_tail {y : Int} {r : List Int} (h : lastOk (y :: r)) : lastOk r := by
  rcases h with h | h
  · cases h
  · cases r with
    | nil => exact .inl rfl
    | cons z r =>
      right
      have e : (y :: z :: r).length - 1 = (z :: r).length - 1 + 1 := by simp
      rw [e, List.getElem?_cons_succ] at h
      exact h
theorem wt_pos : ∀ (ys : List Int) (k : Nat), (∀ y ∈ ys, 0 ≤ y) → lastOk ys → ys ≠ [] → (sp k : Int) ≤ wt k ys
  | [], _, _, _, h => absurd rfl h
  | [y], k, h, hl, _ => by
    have h0 : y ≠ 0 := by
      rcases hl with hl | hl
      · cases hl
      · simpa using hl
    have h1 : (1 : Int) ≤ y := by have := h y List.mem_cons_self; omega
    have : (1 : Int) * (sp k : Int) ≤ y * (sp k : Int) := Int.mul_le_mul_of_nonneg_right h1 (by omega)
    simp only [wt]; omega
  | y :: z :: r, k, h, hl, _ => by
    have h1 := wt_pos (z :: r) (k + 1) (fun u hu => h u (List.mem_cons_of_mem _ hu)) (lastOk_tail hl) (by simp)
    have h2 : 0 ≤ y * (sp k : Int) := Int.mul_nonneg (h y List.mem_cons_self) (by omega)
    have h3 : sp (k + 1) = 2 * sp k + 1 := rfl
    rw [wt]; omega
theorem parts_mem : ∀ (f : Nat) (ys zs : List Int) (d : Nat), ys.length ≤ f → (∀ y ∈ ys, 0 ≤ y) → lastOk ys → wt zs.length ys = (d : Int) → zs ++ ys ∈ parts f zs d
  | f, [], zs, d, _, _, _, hw => by
    have hd : d = 0 := by simp only [wt] at hw; omega
    subst hd
    rw [parts_zero, List.append_nil]
    exact List.mem_singleton.2 rfl
  | 0, y :: r, zs, d, hf, _, _, _ => by simp at hf
  | f + 1, y :: r, zs, d, hf, hp, hl, hw => by
    have h1 := wt_pos (y :: r) zs.length hp hl (by simp)
    have s1 := sp_pos zs.length
    obtain ⟨n, rfl⟩ : ∃ n : Nat, y = (n : Int) := ⟨y.toNat, by have := hp y List.mem_cons_self; omega⟩
    have h2 := wt_nonneg r (zs.length + 1) fun u hu => hp u (List.mem_cons_of_mem _ hu)
    rw [wt] at hw
    have e : ((n * sp zs.length : Nat) : Int) = (n : Int) * (sp zs.length : Int) := Int.natCast_mul _ _
    have hle : n * sp zs.length ≤ d := by omega
    have hsd : sp zs.length ≤ d := by rw [wt] at h1; omega
    unfold parts
    rw [if_neg (by omega)]
    refine List.mem_flatMap.2 ⟨n, List.mem_range.2 ((cnt_le _ _ _ s1 hsd).2 hle), ?_⟩
    have := parts_mem f r (zs ++ [(n : Int)]) (d - n * sp zs.length) (by simpa using hf) (fun u hu => hp u (List.mem_cons_of_mem _ hu)) (lastOk_tail hl) (by
      rw [List.length_append, List.length_singleton]
      omega)
    rwa [List.append_assoc] at this
theorem good_mem {xs : List Int} (h : goodE xs) : xs ∈ parts 6 [] (dgL xs).toNat := by
  have h5 := good_len h
  have h0 := (good_part h 0).2.2
  have hs := good_small h
  have := parts_mem 6 xs [] (dgL xs).toNat (by omega) (fun y hy => (hs y hy).1) (by
    rcases h.1.2.1 with e | e
    · left; exact List.eq_nil_of_length_eq_zero e
    · right; exact e) (by
    rw [List.length_nil, ← dgL_wt h.1]
    omega)
  rwa [List.nil_append] at this

/-! ### How many tables -/
def bRow : List Nat → Nat → Nat
  | [], _ => 1
  | j :: js, n => sumR (fun v => bRow js (n - v * 2 ^ j)) (n / 2 ^ j + 1)
def posG : List (Nat × List Nat) := [(1, [1, 2, 3, 4]), (2, [1, 2, 3]), (3, [1, 2]), (4, [1])]
def flatG (gs : List (Nat × List Nat)) : List (Nat × Nat) := gs.flatMap fun g => g.2.map fun j => (g.1, j)
def bAll : List (Nat × List Nat) → (Nat → Int) → Nat
  | [], _ => 1
  | g :: gs, e => bRow g.2 (e g.1).toNat * bAll gs e
theorem bAll_congr : ∀ (gs : List (Nat × List Nat)) (e e' : Nat → Int), (∀ g ∈ gs, e g.1 = e' g.1) → bAll gs e = bAll gs e'
  | [], _, _, _ => rfl
  | g :: gs, e, e', h => by
    rw [bAll, bAll, h g List.mem_cons_self, bAll_congr gs e e' fun x hx => h x (List.mem_cons_of_mem _ hx)]
theorem sumR_mono {f g : Nat → Nat} : ∀ n m, n ≤ m → (∀ i, i < n → f i ≤ g i) → sumR f n ≤ sumR g m
  | 0, _, _, _ => Nat.zero_le _
  | n + 1, 0, h, _ => absurd h (by omega)
  | n + 1, m + 1, h, hfg => by
    by_cases e : n = m
    · subst e
      have := sumR_mono n n (Nat.le_refl _) fun i hi => hfg i (by omega)
      have := hfg n (by omega)
      rw [sumR, sumR]; omega
    · have := sumR_mono (n + 1) m (by omega) hfg
      show _ ≤ sumR g m + g m
      omega
theorem sumR_scale (f : Nat → Nat) (k : Nat) : ∀ n, sumR (fun i => f i * k) n = sumR f n * k
  | 0 => by simp [sumR]
  | n + 1 => by rw [sumR, sumR, sumR_scale f k n, Nat.add_mul]
theorem mx_le {p : Nat × Nat} {T : Tab} (h : okT T) : mx p T ≤ (T p.1 0).toNat / 2 ^ p.2 := by
  have h0 := (h p.1).1
  unfold mx
  have e : ((T p.1 0).toNat / 2 ^ p.2 : Nat) = (T p.1 0 / 2 ^ p.2).toNat := by
    obtain ⟨n, hn⟩ := Int.eq_ofNat_of_zero_le h0
    rw [hn]
    simp only [Int.toNat_natCast]
    have : ((n : Int) / 2 ^ p.2) = ((n / 2 ^ p.2 : Nat) : Int) := by simp
    rw [this]; rfl
  rw [e]
  exact Nat.min_le_left _ _
theorem row_bound (i : Nat) (hi : 0 < i) (rest : List (Nat × Nat)) (K : Nat) : ∀ (js : List Nat), (∀ j ∈ js, 0 < j) → ∀ T, okT T → (∀ T', okT T' → (∀ k, k ≠ i → T' k 0 = T k 0) → sumT (fun _ => 1) rest T' ≤ K) →
    sumT (fun _ => 1) (js.map (fun j => (i, j)) ++ rest) T ≤ bRow js (T i 0).toNat * K
  | [], _, T, hT, hK => by
    show sumT (fun _ => 1) rest T ≤ 1 * K
    rw [Nat.one_mul]
    exact hK T hT fun _ _ => rfl
  | j :: js, hj, T, hT, hK => by
    have hj0 := hj j List.mem_cons_self
    show sumR (fun v => sumT (fun _ => 1) (js.map (fun j => (i, j)) ++ rest) (mv i j (v : Int) T)) (mx (i, j) T + 1) ≤ sumR (fun v => bRow js ((T i 0).toNat - v * 2 ^ j)) ((T i 0).toNat / 2 ^ j + 1) * K
    rw [← sumR_scale]
    refine sumR_mono _ _ (by have := mx_le (p := (i, j)) hT; simp only at this; omega) fun v hv => ?_
    have hok := mv_ok (p := (i, j)) ⟨hi, hj0⟩ hT (v := v) (by omega)
    have ih := row_bound i hi rest K js (fun x hx => hj x (List.mem_cons_of_mem _ hx)) (mv i j (v : Int) T) hok fun T' h1 h2 => hK T' h1 fun k hk => by
      rw [h2 k hk, mv_edge_r hi hj0, if_neg hk]
    rw [mv_edge_r hi hj0, if_pos rfl] at ih
    have e : (T i 0 - (v : Int) * 2 ^ j).toNat = (T i 0).toNat - v * 2 ^ j := by
      have : ((v * 2 ^ j : Nat) : Int) = (v : Int) * 2 ^ j := by simp
      omega
    rwa [e] at ih
theorem all_bound : ∀ (gs : List (Nat × List Nat)), (∀ g ∈ gs, 0 < g.1 ∧ ∀ j ∈ g.2, 0 < j) → (gs.map (·.1)).Nodup → ∀ T, okT T → sumT (fun _ => 1) (flatG gs) T ≤ bAll gs (fun i => T i 0)
  | [], _, _, T, _ => Nat.le_refl 1
  | g :: gs, h, hn, T, hT => by
    obtain ⟨n1, n2⟩ := List.nodup_cons.1 (show (g.1 :: gs.map (·.1)).Nodup from hn)
    have hg := h g List.mem_cons_self
    refine row_bound g.1 hg.1 (flatG gs) (bAll gs fun i => T i 0) g.2 hg.2 T hT fun T' h1 h2 => ?_
    have ih := all_bound gs (fun x hx => h x (List.mem_cons_of_mem _ hx)) n2 T' h1
    refine Nat.le_trans ih (Nat.le_of_eq (bAll_congr gs _ _ fun x hx => h2 x.1 fun e => n1 ?_))
    rw [← e]
    exact List.mem_map.2 ⟨x, hx, rfl⟩
theorem posG_flat : flatG posG = posI := by decide
theorem posG_ok : (∀ g ∈ posG, 0 < g.1 ∧ ∀ j ∈ g.2, 0 < j) ∧ (posG.map (·.1)).Nodup := by decide
/-- At most so many tables. -/
def bE (r : List Int) : Nat := bAll posG fun i => T0 r [] i 0
theorem tabs_len {r s : List Int} (hr : goodE r) (hs : goodE s) : (cntL r s).length ≤ bE r := by
  have h1 : (cntL r s).length ≤ (allE posI (T0 r s)).length := List.length_filterMap_le _ _
  have h2 : (allE posI (T0 r s)).length = sumE (fun _ => 1) (allE posI (T0 r s)) := by
    unfold sumE
    rw [List.map_const', List.sum_replicate_nat]
    simp
  have h3 := all_bound posG posG_ok.1 posG_ok.2 (T0 r s) (T0_ok hr hs)
  rw [posG_flat, sumT_perm (fun _ => 1) (List.reverse_perm posI).symm posI_in posI_nodup _ (T0_ok hr hs), ← sumE_all] at h3
  have h4 : bAll posG (fun i => T0 r s i 0) = bE r := bAll_congr posG _ _ fun g hg => by
    have := (posG_ok.1 g hg).1
    obtain ⟨a, ha⟩ : ∃ a, g.1 = a + 1 := ⟨g.1 - 1, by omega⟩
    rw [ha]; rfl
  omega
def sumB (l : List (List Int)) : Nat := (l.map bE).sum
theorem few_parts : ∀ d, d < 41 → (parts 6 [] d).length ≤ 82 := by decide +kernel
def okFew (a : Nat) : Bool := (List.range (41 - a)).all fun b => decide (sumB (parts 6 [] a) * (parts 6 [] b).length ≤ 15000)
theorem few_tabs : ∀ a, a < 41 → okFew a = true := by decide +kernel

theorem sum_sub (f : List Int → Nat) : ∀ (L M : List (List Int)), L.Nodup → (∀ x ∈ L, x ∈ M) → (L.map f).sum ≤ (M.map f).sum
  | [], M, _, _ => Nat.zero_le _
  | x :: L, M, hn, hs => by
    obtain ⟨n1, n2⟩ := List.nodup_cons.1 hn
    have hx := hs x List.mem_cons_self
    have hp : M.Perm (x :: M.erase x) := List.perm_cons_erase hx
    have e : (M.map f).sum = f x + ((M.erase x).map f).sum := by
      have := (hp.map f).sum_nat
      rw [this, List.map_cons, List.sum_cons]
    have ih := sum_sub f L (M.erase x) n2 fun y hy => (List.mem_erase_of_ne (fun e2 : y = x => n1 (by rw [← e2]; exact hy))).2 (hs y (List.mem_cons_of_mem _ hy))
    rw [List.map_cons, List.sum_cons, e]
    omega
/-- An element's terms are few. -/
theorem okMl_parts {X : Nat → List Int} {m : Nat} (h : okMl X m) : ∀ x ∈ rowsL X m, x ∈ parts 6 [] (dgL (X 0)).toNat := fun x hx => by
  obtain ⟨i, hi, rfl⟩ := mem_rowsL hx
  have := good_mem (h.2 i hi).1
  rwa [(h.2 i hi).2] at this
theorem okMl_nodup {X : Nat → List Int} {m : Nat} (h : okMl X m) : (rowsL X m).Nodup := (asc_rows X m h.1.2.2).nodup
theorem okMl_deg {X : Nat → List Int} {m : Nat} (h : okMl X m) (hm : 0 < m) : 0 ≤ dgL (X 0) ∧ dgL (X 0) ≤ 40 := ⟨(good_part (h.2 0 hm).1 0).2.2, (h.2 0 hm).1.2⟩
theorem okMl_few {X : Nat → List Int} {m : Nat} (h : okMl X m) : m ≤ 82 := by
  by_cases hm : m = 0
  · omega
  have h1 := nodup_len _ _ (okMl_nodup h) (okMl_parts h)
  have h2 := okMl_deg h (by omega)
  have h3 := few_parts (dgL (X 0)).toNat (by omega)
  rw [rowsL_len] at h1
  omega
/-- All results of impl's product, in its order. -/
noncomputable def crow (Y : Nat → List Int) (r : List Int) (k : Nat) : List (List Int) := (List.range k).flatMap fun j => cntL r (Y j)
noncomputable def call (X Y : Nat → List Int) (q i : Nat) : List (List Int) := (List.range i).flatMap fun i => crow Y (X i) q
theorem crow_succ (Y : Nat → List Int) (r : List Int) (k : Nat) : crow Y r (k + 1) = crow Y r k ++ cntL r (Y k) := by
  unfold crow; rw [List.range_succ, List.flatMap_append]; simp
theorem call_succ (X Y : Nat → List Int) (q i : Nat) : call X Y q (i + 1) = call X Y q i ++ crow Y (X i) q := by
  unfold call; rw [List.range_succ, List.flatMap_append]; simp
theorem crow_len {Y : Nat → List Int} {r : List Int} (hr : goodE r) : ∀ k, (∀ j, j < k → goodE (Y j)) → (crow Y r k).length ≤ bE r * k
  | 0, _ => by simp [crow]
  | k + 1, h => by
    have h1 := crow_len hr k fun j hj => h j (by omega)
    have h2 := tabs_len hr (h k (by omega))
    rw [crow_succ, List.length_append, Nat.mul_succ]
    omega
theorem call_len {X Y : Nat → List Int} {q : Nat} (hY : ∀ j, j < q → goodE (Y j)) : ∀ i, (∀ j, j < i → goodE (X j)) → (call X Y q i).length ≤ sumB (rowsL X i) * q
  | 0, _ => by simp [call]
  | i + 1, h => by
    have h1 := call_len hY i fun j hj => h j (by omega)
    have h2 := crow_len (h i (by omega)) q hY
    have e : sumB (rowsL X (i + 1)) = sumB (rowsL X i) + bE (X i) := by
      unfold sumB
      rw [rowsL_succ, List.map_append, List.sum_append]
      simp
    rw [call_succ, List.length_append, e, Nat.add_mul]
    omega
/-- Never more than 15000 results. -/
theorem call_few {X Y : Nat → List Int} {p q : Nat} (hX : okMl X p) (hY : okMl Y q) (hd : 0 < p → 0 < q → dgL (X 0) + dgL (Y 0) ≤ 40) (i k : Nat) (hi : i < p) (hk : k ≤ q) : (call X Y q i ++ crow Y (X i) k).length ≤ 15000 := by
  by_cases hq : q = 0
  · subst hq
    obtain rfl : k = 0 := by omega
    have h1 := call_len (X := X) (Y := Y) (q := 0) (fun j hj => absurd hj (Nat.not_lt_zero _)) i fun j hj => (hX.2 j (by omega)).1
    have : (crow Y (X i) 0).length = 0 := rfl
    rw [List.length_append]
    omega
  have gX : ∀ j, j < i + 1 → goodE (X j) := fun j hj => (hX.2 j (by omega)).1
  have gY : ∀ j, j < q → goodE (Y j) := fun j hj => (hY.2 j hj).1
  have h1 := call_len gY (i + 1) gX
  have h2 := crow_len (gX i (by omega)) k fun j hj => gY j (by omega)
  have h3 := call_len gY i fun j hj => gX j (by omega)
  have e : sumB (rowsL X (i + 1)) = sumB (rowsL X i) + bE (X i) := by
    unfold sumB
    rw [rowsL_succ, List.map_append, List.sum_append]
    simp
  have h4 : sumB (rowsL X (i + 1)) ≤ sumB (rowsL X p) := by
    have hn : (rowsL X (i + 1)).Nodup := by
      have := okMl_nodup hX
      have e2 : rowsL X (i + 1) = (rowsL X p).take (i + 1) := by
        unfold rowsL
        rw [← List.map_take, List.take_range, show min (i + 1) p = i + 1 by omega]
      rw [e2]
      exact this.sublist (List.take_sublist _ _)
    exact sum_sub bE _ _ hn fun x hx => by
      obtain ⟨j, hj, rfl⟩ := mem_rowsL hx
      exact List.mem_map.2 ⟨j, List.mem_range.2 (by omega), rfl⟩
  have h5 := sum_sub bE _ _ (okMl_nodup hX) (okMl_parts hX)
  have h6 := nodup_len _ _ (okMl_nodup hY) (okMl_parts hY)
  rw [rowsL_len] at h6
  have dX := okMl_deg hX (by omega)
  have dY := okMl_deg hY (by omega)
  have hs := hd (by omega) (by omega)
  have h7 := few_tabs (dgL (X 0)).toNat (by omega)
  unfold okFew at h7
  have h8 := of_decide_eq_true (List.all_eq_true.1 h7 (dgL (Y 0)).toNat (List.mem_range.2 (by omega)))
  have h9 : sumB (rowsL X (i + 1)) * q ≤ sumB (parts 6 [] (dgL (X 0)).toNat) * (parts 6 [] (dgL (Y 0)).toNat).length := Nat.mul_le_mul (Nat.le_trans h4 h5) h6
  have h10 : bE (X i) * k ≤ bE (X i) * q := Nat.mul_le_mul_left _ hk
  rw [List.length_append]
  rw [e, Nat.add_mul] at h9
  omega
end Go.Proofs.Ytnmilkehggjpfaa
end
section
namespace Go.Proofs.Ytnmilkehggjpfaa
open Go.RowKit
set_option linter.unusedVariables false
set_option maxRecDepth 100000

/-- The iterator's word in a world that goes on from w0. -/
def SeqT (P : Program) (gf : Nat) (lb : Array Value) (N : Nat) (enc : Nat → Array Value) (w0 : World) : Prop :=
  ∀ (l : Nat) (J : Nat → World → Prop) (Jx : World → Prop) (W : World), Below w0.heap.size w0 W → (∀ W', Below W.heap.size W W' → J 0 W → J 0 W') → (∀ k W1 W2, J k W1 → OffB (W.heap.size + 3) W1 W2 → J k W2) →
    (∀ k W1, k < N → W.heap.size + 4 ≤ W1.heap.size → J k W1 → YieldAt Fence.wide 1 P l (enc k) W1 fun e W' => (e = .returned (.bool true) ∧ J (k + 1) W' ∧ KeepT W.heap.size W1 W') ∨ (e = .returned (.bool false) ∧ Jx W')) →
    J 0 W → CallsIn Fence.wide 2 P gf (#[.func (.yield l) #[] #[]] ++ lb) W fun e W' => (∃ v, e = .returned v) ∧ (J N W' ∨ Jx W')

/-- How a round's body is left. -/
def RoundT (n : Nat) (I : World → Prop) (W : World) : Exit → Act → World → Prop
  | .normal, _, W' => KeepsFrom n W W' ∧ KeepT (n + 2) W W' ∧ I W'
  | _, _, _ => False
theorem KeepT.trans {n : Nat} {A B C : World} (h : KeepT n A B) (k : KeepT n B C) : KeepT n A C := ⟨Nat.le_trans h.1 k.1, fun b h1 h2 h3 => (k.2 b h1 h2 (Nat.lt_of_lt_of_le h3 h.1)).trans (h.2 b h1 h2 h3)⟩
theorem KeepT.put (n : Nat) (W : World) (o : Obj) : KeepT (n + 2) W (W.putObj (n + 1) o) := ⟨by simp, fun b h1 h2 _ => World.putObj_heap_other (by omega)⟩

section
variable {P : Program} {ps : Array Tmp} {assign body : Code}
theorem Marks.off {D q : Nat} {r : Loop} {W W' : World} (h : Marks D r W) (k : OffB q W W') (h1 : q ≠ D) (h2 : q ≠ D + 1) : Marks D r W' :=
  ⟨(k.block _ (fun e => h2 e.symm)).trans h.lp, (k.block _ (fun e => h1 e.symm)).trans h.df⟩
theorem Marks.up {D : Nat} {r : Loop} {W W' : World} (h : Marks D r W) (k : Below W.heap.size W W') : Marks D r W' :=
  ⟨(k.block _ (Array.getElem?_eq_some_iff.1 h.lp).1).trans h.lp, (k.block _ (Array.getElem?_eq_some_iff.1 h.df).1).trans h.df⟩

theorem range_tabs {Q : Exit → Act → World → Prop} {a : Act} {w : World} {g : Operand} {gf : Nat} {lb : Array Value} (hg : a.eval g = .func (.func gf) #[] lb) (eg : ∀ args w, (callFunc gf args).run P w = .ok (.enter gf args) w)
    {N : Nat} {enc : Nat → Array Value} (hseq : SeqT P gf lb N enc w) (hps : ∀ k, (enc k).size = ps.size)
    (I : Nat → World → Prop) (ip : ∀ k W o o', I k W → W.heap[w.heap.size + 1]? = some o → o.isCells = false → I k (W.putObj (w.heap.size + 1) o'))
    (i0 : ∀ o o', I 0 ((w.alloc o).alloc o')) (ib : ∀ W W', I 0 W → Below W.heap.size W W' → I 0 W') (io : ∀ k W W', I k W → OffB (w.heap.size + 5) W W' → I k W') (A : Nat → Act → World → Prop) (ap : ∀ k a' W o o', A k a' W → W.heap[w.heap.size + 1]? = some o → o.isCells = false → A k a' (W.putObj (w.heap.size + 1) o'))
    (hassign : ∀ (l k : Nat) (W : World) (K : Act → World → Prop), w.heap.size + 6 ≤ W.heap.size → I k W → (∀ a' W', A k a' W' → I k W' → KeepsFrom w.heap.size W W' → KeepT (w.heap.size + 2) W W' → K a' W') → assign.wpIn (Fence.wide.inRound l) 1 P (Exit.then K (fun _ _ _ => False)) { tmps := (ps.zip (enc k)).foldl (fun t (p, v) => t.setIfInBounds p v) a.tmps, defers := [] } W)
    (hbody : ∀ (l k : Nat) (a' : Act) (W : World), k < N → A k a' W → I k W → body.wpIn (Fence.wide.inRound l) 1 P (RoundT w.heap.size (I (k + 1)) W) a' W)
    (hdone : ∀ W, I N W → W.heap[w.heap.size]? = some (.deferred (some [])) → Q .normal { a with defers := { target := .collected w.heap.size, args := #[] } :: a.defers } W) :
    (Code.rangeFunc g ps assign body).wpIn Fence.wide 3 P Q a w := by
  refine wpIn_rangeFunc fun fn hfn => ?_
  have M1 : Marks w.heap.size (recOf fn a.tmps ps assign body w.heap.size .ready none) ((w.alloc (.deferred (some []))).alloc (.loop (recOf fn a.tmps ps assign body w.heap.size .ready none))) := by
    refine ⟨?_, (Below.heap_alloc _ _ _ (by simp)).trans (World.alloc_heap_new w _)⟩
    have := World.alloc_heap_new (w.alloc (.deferred (some []))) (.loop (recOf fn a.tmps ps assign body w.heap.size .ready none))
    rwa [World.size_alloc] at this
  have hb0 : Below w.heap.size w ((w.alloc (.deferred (some []))).alloc (.loop (recOf fn a.tmps ps assign body w.heap.size .ready none))) := ((Below.refl _ w).alloc (Nat.le_refl _) _).alloc (by simp) _
  have hsz : ((w.alloc (.deferred (some []))).alloc (.loop (recOf fn a.tmps ps assign body w.heap.size .ready none))).heap.size = w.heap.size + 2 := by simp
  refine ⟨_, _, _, _, _, gf, _, _, run_enterLoop_outer fn a.tmps ps assign body, by simp only [resolve, hg]; simp [go_sem]; exact ⟨rfl, rfl⟩, fun _ _ => trivial, by simp [invoke, go_sem, eg]; exact ⟨rfl, rfl⟩, fun h => by simp [Fence.wide] at h, ?_⟩
  refine (hseq (w.heap.size + 1) (fun k W => I k W ∧ Marks w.heap.size (recOf fn a.tmps ps assign body w.heap.size .ready none) W) (fun _ => False) _ hb0
    (fun W' hb h => ⟨ib _ _ h.1 hb, h.2.up hb⟩) (fun k W1 W2 h ho => ?_) ?_ ⟨i0 _ _, M1⟩).mono ?_
  · rw [hsz] at ho
    exact ⟨io _ _ _ h.1 ho, h.2.off ho (by omega) (by omega)⟩
  · rintro k W hk hs6 ⟨hi, hm⟩
    rw [hsz] at hs6
    have hy := run_yield (P := P) (args := enc k) hm.lp (hps k)
    rw [hsz]
    refine ⟨fn, _, assign, body, hy, roundIn_of_wpIn hfn (hassign _ k W _ (by omega) hi fun a' Wa haa hia hka hkt => ?_)⟩
    have hm1 := hm.keep (Nat.le_refl _) hka
    refine ⟨_, run_beginRound hm1.lp rfl, ?_⟩
    have hm2 := hm1.put (r' := recOf fn a.tmps ps assign body w.heap.size .busy none)
    refine wpIn_mono (hbody _ k a' _ hk (ap _ _ _ _ _ haa hm1.lp rfl) (ip _ _ _ _ hia hm1.lp rfl)) ?_
    rintro e a3 W3 hp
    cases e with
    | normal =>
      obtain ⟨h3, h4, h5⟩ := hp
      have m3 := hm2.keep (Nat.le_refl _) h3
      exact ⟨_, _, run_endRound (P := P) none m3.lp, .inl ⟨rfl, ⟨ip _ _ _ _ h5 m3.lp rfl, m3.put⟩, ((hkt.trans (KeepT.put _ _ _)).trans h4).trans (KeepT.put _ _ _)⟩⟩
    | exit id => exact hp.elim
    | ret => exact hp.elim
    | goto t => exact hp.elim
    | panic ch => exact hp.elim
    | outgrown => exact hp.elim
  · rintro e W2 ⟨⟨v, rfl⟩, (⟨hi, hm⟩ | h)⟩
    · exact ⟨none, _, run_endLoop (P := P) hm.lp (by simp [recOf]), hdone _ (ip _ _ _ _ hi hm.lp rfl) (hm.put (r' := { recOf fn a.tmps ps assign body w.heap.size .ready none with state := .exhausted })).df⟩
    · exact h.elim
end
end Go.Proofs.Ytnmilkehggjpfaa
end
