/-
  Joined: KSumT, WPascal, KAdm, KCount.
-/
import Derived.Test.YtgalfhdeldjmpaaZmissibleForm10
import Derived.Test.YtgalfhdeldjmpaaZmissibleForm11
import Derived.Test.YtgalfhdeldjmpaaZmissibleForm01
section
namespace Go.Proofs.Ytgalfhdeldjmpaa
open Go.RowKit Go.Maps
set_option linter.unusedVariables false
set_option maxRecDepth 100000

theorem flat_at (s : Nat) : ∀ (ks : List (Array Value)), (∀ k ∈ ks, k.size = s) → ∀ i, i < ks.length → ∀ j, j < s → (ks.flatMap Array.toList)[i * s + j]? = (ks[i]?.getD #[]).toList[j]?
  | [], _, i, hi, _, _ => absurd hi (Nat.not_lt_zero _)
  | k :: ks, h, 0, _, j, hj => by
    have hk := h k List.mem_cons_self
    rw [List.flatMap_cons, List.getElem?_append_left (by rw [Array.length_toList]; omega)]
    simp
  | k :: ks, h, i + 1, hi, j, hj => by
    have hk := h k List.mem_cons_self
    have e : (i + 1) * s + j = s + (i * s + j) := by rw [Nat.succ_mul]; omega
    rw [List.flatMap_cons, List.getElem?_append_right (by rw [Array.length_toList, e]; omega), Array.length_toList, hk, e, Nat.add_sub_cancel_left]
    have := flat_at s ks (fun k' hk' => h k' (List.mem_cons_of_mem _ hk')) i (by simpa using hi) j hj
    simpa using this

theorem rdK_of_own {w : World} {B : Nat} {T : TypeId} {s : Nat} {v : Value} {ks : List (Array Value)} (h : w.ownsRow B T s v ks.length (ks.flatMap Array.toList)) (hk : ∀ k ∈ ks, k.size = s) :
    ∃ a cap, v = .slice a ks.length cap ∧ ks.length ≤ maxLen ∧ (ks.length = 0 ∨ ∃ b off, a = some ⟨b, off, none⟩ ∧ b < w.heap.size ∧ ∀ i, i < ks.length → w.rangeAt b (off + i * s) (ks[i]?.getD #[]).toList) := by
  rcases h.2 with ⟨rfl, h0⟩ | ⟨g, cap, cur, rfl, hb, hg, h1, h2, h3, h4⟩
  · exact ⟨none, 0, by rw [h0], by rw [h0]; exact Nat.zero_le _, .inl h0⟩
  · refine ⟨_, cap, rfl, Nat.le_trans h1 h2, .inr ⟨g, 0, rfl, (Array.getElem?_eq_some_iff.1 hg).1, fun i hi j u hj => ?_⟩⟩
    have hks : (ks[i]?.getD #[]).size = s := by
      rw [List.getElem?_eq_getElem hi]
      exact hk _ (List.getElem_mem hi)
    have hjs : j < s := by
      have := (List.getElem?_eq_some_iff.1 hj).1
      rw [Array.length_toList, hks] at this
      exact this
    have e := flat_at s ks hk i hi j hjs
    rw [hj] at e
    have hlen : i * s + j < (ks.flatMap Array.toList).length := (List.getElem?_eq_some_iff.1 e).1
    rw [Nat.zero_add, h.cellAt (i * s + j) (by have := h.1; omega)]
    exact e
theorem rdP_of_own {w : World} {B : Nat} {v : Value} {ks : List (Array Value)} (h : OwnP w B v ks) (hk : ∀ k ∈ ks, KOKP k) : RdP w v ks := rdK_of_own h (fun k hk' => (hk k hk').size)
theorem rdW_of_own {w : World} {B : Nat} {v : Value} {ks : List (Array Value)} (h : OwnW w B v ks) (hk : ∀ k ∈ ks, KOKW k) : RdW w v ks := rdK_of_own h (fun k hk' => (hk k hk').size)

theorem pkL_ok (l : List (List Int)) : ∀ k ∈ pkL l, KOKP k := by
  intro k hk
  obtain ⟨x, hx, rfl⟩ := List.mem_map.1 hk
  exact packK_ok x (of_decide_eq_true (List.mem_filter.1 hx).2)
theorem wdL_ok (l : List (List Int)) (h20 : ∀ x ∈ l, x.length ≤ 20) (hwf : ∀ x ∈ l, ∀ z ∈ x, (Lit.int .i64 z).wf = true) : ∀ k ∈ wdL l, KOKW k := by
  intro k hk
  obtain ⟨x, hx, rfl⟩ := List.mem_map.1 hk
  have := (List.mem_filter.1 hx).1
  exact wideK_ok x (h20 x this) (hwf x this)

theorem packK_inj (x y : List Int) (hx : fits x) (hy : fits y) (h : packK x = packK y) : x = y := by
  have key : ∀ j, j < 8 → (if j < x.length then x[j]?.getD 0 + 1 else 0) = (if j < y.length then y[j]?.getD 0 + 1 else (0 : Int)) := by
    intro j hj
    have h1 := packK_at x hx j hj
    rw [h, packK_at y hy j hj] at h1
    simpa using h1.symm
  have hl : ∀ (x y : List Int), fits x → fits y → (∀ j, j < 8 → (if j < x.length then x[j]?.getD 0 + 1 else 0) = (if j < y.length then y[j]?.getD 0 + 1 else (0 : Int))) → ¬ x.length < y.length := by
    intro x y hx hy key hlt
    have h8 := hy.1
    have h1 := key x.length (by omega)
    rw [if_neg (Nat.lt_irrefl _), if_pos hlt] at h1
    have := (hy.2 x.length hlt).1
    omega
  have h1 := hl x y hx hy key
  have h2 := hl y x hy hx (fun j hj => (key j hj).symm)
  have e : x.length = y.length := by omega
  refine List.ext_getElem e fun i h3 h4 => ?_
  have h8 := hx.1
  have h5 := key i (by omega)
  rw [if_pos h3, if_pos h4, List.getElem?_eq_getElem h3, List.getElem?_eq_getElem h4] at h5
  simpa using h5
theorem wideK_inj (x y : List Int) (hx : x.length ≤ 20) (hy : y.length ≤ 20) (h : wideK x = wideK y) : x = y := by
  have h0 := wideK_zero x
  rw [h, wideK_zero y] at h0
  have e : x.length = y.length := by
    have := h0
    simp at this
    omega
  refine List.ext_getElem e fun i h3 h4 => ?_
  have h5 := wideK_at x i h3
  rw [h, wideK_at y i h4, List.getElem?_eq_getElem h3, List.getElem?_eq_getElem h4] at h5
  simpa using h5.symm

/-- What the sorting is asked. -/
def SortAll : Prop := ∀ (w : World) (B : Nat) (V : Value) (VS : Nat → Value) (L : List (List Int)), FamL w B V VS L → Sep L.length VS → L.Nodup → L.length ≤ 100000 → B ≤ w.heap.size →
  Calls Try.prog 45 #[V, .func (.func 46) #[] #[]] w fun e w' => e = .returned (.tuple #[]) ∧ ∃ VS' zs, FamL w' B V VS' zs ∧ Sep zs.length VS' ∧ Asc zs ∧ (∀ x, x ∈ zs ↔ x ∈ L) ∧ Below B w w'

end Go.Proofs.Ytgalfhdeldjmpaa
end
section
namespace Go.Proofs.Ytgalfhdeldjmpaa
set_option maxRecDepth 100000

/-- The parity of the binomial number, by digits. -/
def bpar (n k : Nat) : Nat := if n &&& k = k then 1 else 0

theorem and_step (n k : Nat) : (n &&& k = k) ↔ (n % 2 &&& k % 2 = k % 2) ∧ (n / 2 &&& k / 2 = k / 2) := by
  have h1 : (n &&& k) / 2 = n / 2 &&& k / 2 := Nat.and_div_two
  have h2 : (n &&& k) % 2 = n % 2 &&& k % 2 := by
    have := Nat.and_mod_two_pow (a := n) (b := k) (n := 1)
    simpa using this
  constructor
  · intro h
    rw [h] at h1 h2
    exact ⟨h2.symm, h1.symm⟩
  · rintro ⟨h3, h4⟩
    rw [h3] at h2
    rw [h4] at h1
    omega

theorem bpar_step (a b i j : Nat) (hi : i < 2) (hj : j < 2) : bpar (2 * a + i) (2 * b + j) = if i &&& j = j then bpar a b else 0 := by
  unfold bpar
  have e := and_step (2 * a + i) (2 * b + j)
  rw [show (2 * a + i) % 2 = i by omega, show (2 * b + j) % 2 = j by omega, show (2 * a + i) / 2 = a by omega, show (2 * b + j) / 2 = b by omega] at e
  by_cases h1 : i &&& j = j
  · rw [if_pos h1]
    by_cases h2 : a &&& b = b
    · rw [if_pos (e.2 ⟨h1, h2⟩), if_pos h2]
    · rw [if_neg (fun h => h2 (e.1 h).2), if_neg h2]
  · rw [if_neg h1, if_neg (fun h => h1 (e.1 h).1)]

theorem bpar_oo (a b : Nat) : bpar (2 * a + 1) (2 * b + 1) = bpar a b := bpar_step a b 1 1 (by omega) (by omega)
theorem bpar_oe (a b : Nat) : bpar (2 * a + 1) (2 * b) = bpar a b := bpar_step a b 1 0 (by omega) (by omega)
theorem bpar_eo (a b : Nat) : bpar (2 * a) (2 * b + 1) = 0 := bpar_step a b 0 1 (by omega) (by omega)
theorem bpar_ee (a b : Nat) : bpar (2 * a) (2 * b) = bpar a b := bpar_step a b 0 0 (by omega) (by omega)

theorem pascal : ∀ n k : Nat, (bpar n (k + 1) + bpar n k) % 2 = bpar (n + 1) (k + 1) := by
  intro n
  induction n using Nat.strongRecOn with
  | _ n ih =>
    intro k
    obtain ⟨a, ha | ha⟩ : ∃ a, n = 2 * a ∨ n = 2 * a + 1 := ⟨n / 2, by omega⟩
    · obtain ⟨b, hb | hb⟩ : ∃ b, k = 2 * b ∨ k = 2 * b + 1 := ⟨k / 2, by omega⟩
      · subst ha hb
        rw [bpar_eo, bpar_ee, bpar_oo]
        unfold bpar
        split <;> rfl
      · subst ha hb
        rw [show 2 * b + 1 + 1 = 2 * (b + 1) by omega, bpar_ee, bpar_eo, bpar_oe]
        unfold bpar
        split <;> rfl
    · obtain ⟨b, hb | hb⟩ : ∃ b, k = 2 * b ∨ k = 2 * b + 1 := ⟨k / 2, by omega⟩
      · subst ha hb
        rw [bpar_oo, bpar_oe, show 2 * a + 1 + 1 = 2 * (a + 1) by omega, bpar_eo]
        omega
      · subst ha hb
        rw [show 2 * b + 1 + 1 = 2 * (b + 1) by omega, bpar_oe, bpar_oo, show 2 * a + 1 + 1 = 2 * (a + 1) by omega, bpar_ee]
        exact ih a (by omega) b
end Go.Proofs.Ytgalfhdeldjmpaa
end
section
namespace Go.Proofs.Ytgalfhdeldjmpaa
set_option maxRecDepth 100000
set_option linter.unusedVariables false

/-! ### Parities of lists -/
theorem par_perm_cons {α : Type} (x k : α) (A B : List α) : par (A ++ x :: B) k ↔ par (x :: (A ++ B)) k := by
  rw [par_append]
  show ((par A k ∧ ¬ ((x = k ∧ ¬ par B k) ∨ (x ≠ k ∧ par B k))) ∨ (¬ par A k ∧ ((x = k ∧ ¬ par B k) ∨ (x ≠ k ∧ par B k)))) ↔ ((x = k ∧ ¬ par (A ++ B) k) ∨ (x ≠ k ∧ par (A ++ B) k))
  rw [par_append]
  by_cases h1 : x = k <;> by_cases h2 : par A k <;> by_cases h3 : par B k <;> simp [h1, h2, h3]
theorem par_twice {α : Type} (k : α) (A B : List α) : par (A ++ (A ++ B)) k ↔ par B k := by
  rw [par_append, par_append]
  by_cases h2 : par A k <;> by_cases h3 : par B k <;> simp [h2, h3]
/-- What occurs an even number of times adds nothing. -/
theorem even_flatMap {α β : Type} (f : α → List β) (k : β) : ∀ (n : Nat) (U : List α), U.length ≤ n → (∀ y, ¬ par U y) → ¬ par (U.flatMap f) k
  | _, [], _, _ => by simp [par]
  | 0, _ :: _, hn, _ => by simp at hn
  | n + 1, y :: U, hn, h => by
    have h1 : par U y := by
      have := h y
      apply Classical.byContradiction
      intro hc
      exact this (.inl ⟨rfl, hc⟩)
    obtain ⟨A, B, rfl⟩ := List.append_of_mem (par_mem _ _ h1)
    have h2 : ∀ z, ¬ par (A ++ B) z := fun z hz => by
      refine h z ?_
      by_cases e : y = z
      · refine .inl ⟨e, ?_⟩
        rw [par_perm_cons]
        rintro (⟨_, h3⟩ | ⟨h3, _⟩)
        · exact h3 hz
        · exact h3 e
      · refine .inr ⟨e, ?_⟩
        rw [par_perm_cons]
        exact .inr ⟨e, hz⟩
    have h3 := even_flatMap f k n (A ++ B) (by simp at hn ⊢; omega) h2
    rw [List.flatMap_cons, List.flatMap_append, List.flatMap_cons]
    rw [List.flatMap_append] at h3
    intro hp
    apply h3
    rw [par_append] at hp ⊢
    rw [par_append, par_append] at hp
    by_cases a1 : par (f y) k <;> by_cases a2 : par (A.flatMap f) k <;> by_cases a3 : par (B.flatMap f) k <;> simp [a1, a2, a3] at hp ⊢
theorem par_flatMap {α β : Type} (f : α → List β) (k : β) (S T : List α) (h : ∀ y, par S y ↔ par T y) : par (S.flatMap f) k ↔ par (T.flatMap f) k := by
  have h1 := even_flatMap f k (S ++ T).length (S ++ T) (Nat.le_refl _) (fun y => by rw [par_append, h y]; by_cases a : par T y <;> simp [a])
  rw [List.flatMap_append, par_append] at h1
  by_cases a : par (S.flatMap f) k <;> by_cases b : par (T.flatMap f) k <;> simp [a, b] at h1 ⊢

/-! ### Admissible words -/
def isAdm : List Int → Prop
  | [] => True
  | [a] => 1 ≤ a
  | a :: b :: r => 2 * b ≤ a ∧ isAdm (b :: r)
theorem isAdm_tail {a : Int} {r : List Int} (h : isAdm (a :: r)) : isAdm r := by
  cases r with
  | nil => trivial
  | cons b r => exact h.2
theorem isAdm_pos : ∀ {a : Int} {r : List Int}, isAdm (a :: r) → 1 ≤ a
  | a, [], h => h
  | a, b :: r, h => by have := isAdm_pos h.2; have := h.1; omega
theorem isAdm_cons {i : Int} {w : List Int} (hi : 1 ≤ i) (hw : isAdm w) (h : ∀ b r, w = b :: r → 2 * b ≤ i) : isAdm (i :: w) := by
  cases w with
  | nil => exact hi
  | cons b r => exact ⟨h b r rfl, hw⟩
theorem isAdm_sum : ∀ {w : List Int}, isAdm w → 0 ≤ w.sum
  | [], _ => by simp
  | a :: r, h => by have := isAdm_sum (isAdm_tail h); have := isAdm_pos h; rw [List.sum_cons]; omega
theorem isAdm_head : ∀ {a : Int} {r : List Int}, isAdm (a :: r) → (2 : Int) ^ r.length ≤ a
  | a, [], h => by simpa using (show (1 : Int) ≤ a from h)
  | a, b :: r, h => by have h1 := isAdm_head h.2; have := h.1; rw [List.length_cons, Int.pow_succ]; omega
theorem two_pow_ge : ∀ k : Nat, (1 : Int) ≤ 2 ^ k
  | 0 => by simp
  | k + 1 => by have := two_pow_ge k; rw [Int.pow_succ]; omega
theorem isAdm_len {w : List Int} (h : isAdm w) (h40 : w.sum ≤ 40) : w.length ≤ 6 := by
  cases w with
  | nil => simp
  | cons a r =>
    have h1 := isAdm_head h
    have h2 := isAdm_sum (isAdm_tail h)
    rw [List.sum_cons] at h40
    apply Classical.byContradiction
    intro hc
    have h3 : 6 ≤ r.length := by simp at hc; omega
    obtain ⟨k, hk⟩ : ∃ k, r.length = k + 1 + 1 + 1 + 1 + 1 + 1 := ⟨r.length - 6, by omega⟩
    have h4 := two_pow_ge k
    rw [hk] at h1
    simp only [Int.pow_succ] at h1
    omega

/-- The places of Adem's relation. -/
def js (b i : Int) : List Int := ((List.range (i.toNat / 2 + 1)).filter (fun j => decide (bpar (b.toNat - j - 1) (i.toNat - 2 * j) = 1))).map (fun j : Nat => (j : Int))
theorem js_mem {b i j : Int} (hi : 0 ≤ i) (h : j ∈ js b i) : 0 ≤ j ∧ 2 * j ≤ i := by
  obtain ⟨k, hk, rfl⟩ := List.mem_map.1 h
  have := List.mem_range.1 (List.mem_filter.1 hk).1
  omega

/-- Sq^i times an admissible word, with repetitions. -/
def admF : Nat → Int → List Int → List (List Int)
  | 0, _, _ => []
  | f + 1, i, [] => if i = 0 then [[]] else [[i]]
  | f + 1, i, b :: r => if i = 0 then [b :: r] else if 2 * b ≤ i then [i :: b :: r] else (js b i).flatMap fun j => (admF f j r).flatMap fun w => admF f (i + b - j) w
def mu (i : Int) (w : List Int) : Nat := (i + w.sum).toNat * 41 + w.sum.toNat

theorem mu_rest {i b j : Int} {r : List Int} (hi : 0 < i) (hb : 1 ≤ b) (hj : 0 ≤ j ∧ 2 * j ≤ i) (hr : 0 ≤ r.sum) (h40 : i + (b :: r).sum ≤ 40) : mu j r < mu i (b :: r) := by
  rw [List.sum_cons] at h40
  unfold mu
  rw [List.sum_cons]
  omega
theorem mu_step {i b j : Int} {r w : List Int} (hi : 0 < i) (hb : 1 ≤ b) (hlt : i < 2 * b) (hj : 0 ≤ j ∧ 2 * j ≤ i) (hr : 0 ≤ r.sum) (hw : w.sum = j + r.sum) (h40 : i + (b :: r).sum ≤ 40) : mu (i + b - j) w < mu i (b :: r) := by
  rw [List.sum_cons] at h40
  unfold mu
  rw [List.sum_cons, hw]
  have : i + b - j + (j + r.sum) = i + (b + r.sum) := by omega
  rw [this]
  omega

theorem admF_ok : ∀ (f : Nat) (i : Int) (w : List Int), 0 ≤ i → isAdm w → i + w.sum ≤ 40 → mu i w < f → ∀ x ∈ admF f i w, isAdm x ∧ x.sum = i + w.sum
  | 0, _, _, _, _, _, h, _, _ => absurd h (Nat.not_lt_zero _)
  | f + 1, i, [], hi, _, _, _, x, hx => by
    unfold admF at hx
    split at hx
    · rename_i h0; rw [List.mem_singleton.1 hx, h0]; exact ⟨trivial, by simp⟩
    · rw [List.mem_singleton.1 hx]; exact ⟨show 1 ≤ i by omega, by simp⟩
  | f + 1, i, b :: r, hi, hw, h40, hf, x, hx => by
    have hb := isAdm_pos hw
    have hrt := isAdm_tail hw
    have hrs := isAdm_sum hrt
    unfold admF at hx
    split at hx
    · rename_i h0; rw [List.mem_singleton.1 hx, h0]; exact ⟨hw, by simp⟩
    · split at hx
      · rename_i h0 h2; rw [List.mem_singleton.1 hx]; exact ⟨⟨h2, hw⟩, by simp⟩
      · rename_i h0 h2
        obtain ⟨j, hj, hx⟩ := List.mem_flatMap.1 hx
        obtain ⟨w', hw', hx⟩ := List.mem_flatMap.1 hx
        have hj := js_mem hi hj
        have hs := h40
        rw [List.sum_cons] at hs
        obtain ⟨a1, a2⟩ := admF_ok f j r hj.1 hrt (by omega) (by have := mu_rest (by omega) hb hj hrs h40; omega) w' hw'
        obtain ⟨c1, c2⟩ := admF_ok f (i + b - j) w' (by omega) a1 (by rw [a2]; omega) (by have := mu_step (i := i) (by omega) hb (by omega) hj hrs a2 h40; omega) x hx
        exact ⟨c1, by rw [c2, a2, List.sum_cons]; omega⟩

theorem flatMap_congr {α β : Type} {f g : α → List β} : ∀ {l : List α}, (∀ x ∈ l, f x = g x) → l.flatMap f = l.flatMap g
  | [], _ => rfl
  | x :: l, h => by
    rw [List.flatMap_cons, List.flatMap_cons, h x List.mem_cons_self, flatMap_congr (fun y hy => h y (List.mem_cons_of_mem _ hy))]

theorem admF_fuel : ∀ (f f' : Nat) (i : Int) (w : List Int), 0 ≤ i → isAdm w → i + w.sum ≤ 40 → mu i w < f → mu i w < f' → admF f i w = admF f' i w
  | 0, _, _, _, _, _, _, h, _ => absurd h (Nat.not_lt_zero _)
  | _ + 1, 0, _, _, _, _, _, _, h => absurd h (Nat.not_lt_zero _)
  | f + 1, f' + 1, i, [], _, _, _, _, _ => by unfold admF; rfl
  | f + 1, f' + 1, i, b :: r, hi, hw, h40, hf, hf' => by
    have hb := isAdm_pos hw
    have hrt := isAdm_tail hw
    have hrs := isAdm_sum hrt
    unfold admF
    split
    · rfl
    · split
      · rfl
      · rename_i h0 h2
        have hs := h40
        rw [List.sum_cons] at hs
        refine flatMap_congr fun j hj => ?_
        have hj := js_mem hi hj
        have hm := mu_rest (by omega) hb hj hrs h40
        rw [admF_fuel f f' j r hj.1 hrt (by omega) (by omega) (by omega)]
        refine flatMap_congr fun w' hw' => ?_
        obtain ⟨a1, a2⟩ := admF_ok f' j r hj.1 hrt (by omega) (by omega) w' hw'
        have hm2 := mu_step (i := i) (by omega) hb (by omega) hj hrs a2 h40
        exact admF_fuel f f' (i + b - j) w' (by omega) a1 (by rw [a2]; omega) (by omega) (by omega)

/-! ### How many there are at most -/
def allW : Nat → List (List Int)
  | 0 => [[]]
  | n + 1 => [] :: (List.range 41).flatMap fun a : Nat => (allW n).map ((a : Int) :: ·)
theorem allW_mem : ∀ (n : Nat) (w : List Int), w.length ≤ n → (∀ x ∈ w, 0 ≤ x ∧ x ≤ 40) → w ∈ allW n
  | 0, [], _, _ => by simp [allW]
  | 0, _ :: _, h, _ => by simp at h
  | n + 1, [], _, _ => by simp [allW]
  | n + 1, a :: w, h, hx => by
    obtain ⟨h0, h1⟩ := hx a List.mem_cons_self
    refine List.mem_cons_of_mem _ (List.mem_flatMap.2 ⟨a.toNat, List.mem_range.2 (by omega), List.mem_map.2 ⟨w, allW_mem n w (by simpa using h) (fun x hxx => hx x (List.mem_cons_of_mem _ hxx)), ?_⟩⟩)
    rw [Int.toNat_of_nonneg h0]
theorem len_each {α : Type} (L : List α) (g : Nat → α → α) : ∀ m : Nat, ((List.range m).flatMap fun a => L.map (g a)).length = m * L.length
  | 0 => by simp
  | m + 1 => by
    rw [List.range_succ, List.flatMap_append, List.length_append, len_each L g m, List.flatMap_cons, List.flatMap_nil, List.append_nil, List.length_map, Nat.succ_mul]
theorem allW_len : ∀ (n : Nat), (allW n).length ≤ 42 ^ n
  | 0 => Nat.le_refl _
  | n + 1 => by
    have ih := allW_len n
    have h1 := len_each (allW n) (fun (a : Nat) (w : List Int) => (a : Int) :: w) 41
    unfold allW
    rw [List.length_cons, h1, Nat.pow_succ]
    have : 0 < 42 ^ n := Nat.pow_pos (by decide)
    omega
theorem adm_entries : ∀ {w : List Int}, isAdm w → w.sum ≤ 40 → ∀ x ∈ w, 0 ≤ x ∧ x ≤ 40
  | [], _, _, x, hx => by cases hx
  | a :: r, h, hs, x, hx => by
    have h1 := isAdm_pos h
    have h2 := isAdm_sum (isAdm_tail h)
    rw [List.sum_cons] at hs
    rcases List.mem_cons.1 hx with e | hx
    · subst e; omega
    · exact adm_entries (isAdm_tail h) (by omega) x hx
/-- Different admissible words of degree 40 at most. -/
theorem adm_count (L : List (List Int)) (hn : L.Nodup) (h : ∀ w ∈ L, isAdm w ∧ w.sum ≤ 40) : L.length ≤ 6000000000 := by
  have h1 := nodup_len L (allW 6) hn (fun w hw => allW_mem 6 w (isAdm_len (h w hw).1 (h w hw).2) (adm_entries (h w hw).1 (h w hw).2))
  have h2 := allW_len 6
  have h3 : 42 ^ 6 ≤ 6000000000 := by decide
  omega
end Go.Proofs.Ytgalfhdeldjmpaa
end
section
namespace Go.Proofs.Ytgalfhdeldjmpaa
set_option maxRecDepth 100000
set_option linter.unusedVariables false

def enumN : Nat → Nat → Nat → List (List Int)
  | 0, _, d => if d = 0 then [[]] else []
  | f + 1, most, d => if d = 0 then [[]] else (List.range (min most d)).flatMap fun i => (enumN f ((i + 1) / 2) (d - (i + 1))).map fun r => ((i + 1 : Nat) : Int) :: r
def cntN : Nat → Nat → Nat → Nat
  | 0, _, d => if d = 0 then 1 else 0
  | f + 1, most, d => if d = 0 then 1 else ((List.range (min most d)).map fun i => cntN f ((i + 1) / 2) (d - (i + 1))).sum
theorem enumN_len : ∀ f most d, (enumN f most d).length = cntN f most d
  | 0, _, d => by unfold enumN cntN; split <;> rfl
  | f + 1, most, d => by
    unfold enumN cntN
    split
    · rfl
    · rw [List.length_flatMap]
      congr 1
      apply List.map_congr_left
      intro i _
      rw [List.length_map, enumN_len f]
theorem cnt_40 : ∀ d, d < 41 → cntN 6 d d ≤ 100 := by decide +kernel

theorem enumN_mem : ∀ (f most d : Nat) (w : List Int), w.length ≤ f → isAdm w → w.sum = (d : Int) → (∀ a r, w = a :: r → a ≤ (most : Int)) → w ∈ enumN f most d
  | f, most, d, [], _, _, hs, _ => by
    have hd : d = 0 := by simp at hs; omega
    subst hd
    cases f <;> simp [enumN]
  | 0, most, d, a :: r, hl, _, _, _ => by simp at hl
  | f + 1, most, d, a :: r, hl, hw, hs, hm => by
    have ha := isAdm_pos hw
    have hr := isAdm_tail hw
    have hrs := isAdm_sum hr
    rw [List.sum_cons] at hs
    have ham := hm a r rfl
    obtain ⟨i, rfl⟩ : ∃ i : Nat, a = ((i + 1 : Nat) : Int) := ⟨a.toNat - 1, by omega⟩
    unfold enumN
    rw [if_neg (by omega)]
    refine List.mem_flatMap.2 ⟨i, List.mem_range.2 (by omega), List.mem_map.2 ⟨r, ?_, rfl⟩⟩
    refine enumN_mem f _ _ r (by simp at hl; omega) hr (by omega) fun b q e => ?_
    subst e
    have := hw.1
    omega
/-- At most 100. -/
theorem adm_few (L : List (List Int)) (hn : L.Nodup) (d : Nat) (hd : d ≤ 40) (h : ∀ w ∈ L, isAdm w ∧ w.sum = (d : Int)) : L.length ≤ 100 := by
  have h1 := nodup_len L (enumN 6 d d) hn fun w hw => by
    obtain ⟨a, b⟩ := h w hw
    refine enumN_mem 6 d d w (isAdm_len a (by omega)) a b fun x r e => ?_
    subst e
    have := isAdm_sum (isAdm_tail a)
    rw [List.sum_cons] at b
    omega
  rw [enumN_len] at h1
  have := cnt_40 d (by omega)
  omega
end Go.Proofs.Ytgalfhdeldjmpaa
end
