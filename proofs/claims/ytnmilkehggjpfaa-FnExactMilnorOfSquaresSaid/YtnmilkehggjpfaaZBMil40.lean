/-
  Joined: KAdm, PSumW, PMulB, PCom.
-/
import Derived.Test.YtnmilkehggjpfaaZBMil05
import Derived.Test.YtnmilkehggjpfaaZBMil39
import Derived.Test.YtnmilkehggjpfaaZBMil36
import Derived.Test.YtnmilkehggjpfaaZBMil38
section
namespace Go.Proofs.Ytnmilkehggjpfaa
set_option maxRecDepth 100000
set_option linter.unusedVariables false

/-! ### Parities of lists -/
theorem par_perm_cons {α : Type} (x k : α) (A B : List α) : par (A ++ x :: B) k ↔ par (x :: (A ++ B)) k := by
  rw [par_append]
  show ((par A k ∧ ¬ ((x = k ∧ ¬ par B k) ∨ (x ≠ k ∧ par B k))) ∨ (¬ par A k ∧ ((x = k ∧ ¬ par B k) ∨ (x ≠ k ∧ par B k)))) ↔ ((x = k ∧ ¬ par (A ++ B) k) ∨ (x ≠ k ∧ par (A ++ B) k))
  rw [par_append]
  by_cases h1 : x = k <;> by_cases h2 : par A k <;> by_cases h3 : par B k <;> simp [h1, h2, h3]
theorem par_twice {α : Type} (k : α) (A B : List α) : par (A ++ (A ++ B)) k ↔ par B k := by
  rw [par_append, par_append]
  by_cases h2 : par A k <;> by_cases h3 : par B k <;> simp [h2, h3]
/-- What occurs an even number of times adds nothing. -/
theorem even_flatMap {α β : Type} (f : α → List β) (k : β) : ∀ (n : Nat) (U : List α), U.length ≤ n → (∀ y, ¬ par U y) → ¬ par (U.flatMap f) k
  | _, [], _, _ => by simp [par]
  | 0, _ :: _, hn, _ => by simp at hn
  | n + 1, y :: U, hn, h => by
    have h1 : par U y := by
      have := h y
      apply Classical.byContradiction
      intro hc
      exact this (.inl ⟨rfl, hc⟩)
    obtain ⟨A, B, rfl⟩ := List.append_of_mem (par_mem _ _ h1)
    have h2 : ∀ z, ¬ par (A ++ B) z := fun z hz => by
      refine h z ?_
      by_cases e : y = z
      · refine .inl ⟨e, ?_⟩
        rw [par_perm_cons]
        rintro (⟨_, h3⟩ | ⟨h3, _⟩)
        · exact h3 hz
        · exact h3 e
      · refine .inr ⟨e, ?_⟩
        rw [par_perm_cons]
        exact .inr ⟨e, hz⟩
    have h3 := even_flatMap f k n (A ++ B) (by simp at hn ⊢; omega) h2
    rw [List.flatMap_cons, List.flatMap_append, List.flatMap_cons]
    rw [List.flatMap_append] at h3
    intro hp
    apply h3
    rw [par_append] at hp ⊢
    rw [par_append, par_append] at hp
    by_cases a1 : par (f y) k <;> by_cases a2 : par (A.flatMap f) k <;> by_cases a3 : par (B.flatMap f) k <;> simp [a1, a2, a3] at hp ⊢
theorem par_flatMap {α β : Type} (f : α → List β) (k : β) (S T : List α) (h : ∀ y, par S y ↔ par T y) : par (S.flatMap f) k ↔ par (T.flatMap f) k := by
  have h1 := even_flatMap f k (S ++ T).length (S ++ T) (Nat.le_refl _) (fun y => by rw [par_append, h y]; by_cases a : par T y <;> simp [a])
  rw [List.flatMap_append, par_append] at h1
  by_cases a : par (S.flatMap f) k <;> by_cases b : par (T.flatMap f) k <;> simp [a, b] at h1 ⊢

/-! ### Admissible words -/
def isAdm : List Int → Prop
  | [] => True
  | [a] => 1 ≤ a
  | a :: b :: r => 2 * b ≤ a ∧ isAdm (b :: r)
theorem isAdm_tail {a : Int} {r : List Int} (h : isAdm (a :: r)) : isAdm r := by
  cases r with
  | nil => trivial
  | cons b r => exact h.2
theorem isAdm_pos : ∀ {a : Int} {r : List Int}, isAdm (a :: r) → 1 ≤ a
  | a, [], h => h
  | a, b :: r, h => by have := isAdm_pos h.2; have := h.1; omega
theorem isAdm_cons {i : Int} {w : List Int} (hi : 1 ≤ i) (hw : isAdm w) (h : ∀ b r, w = b :: r → 2 * b ≤ i) : isAdm (i :: w) := by
  cases w with
  | nil => exact hi
  | cons b r => exact ⟨h b r rfl, hw⟩
theorem isAdm_sum : ∀ {w : List Int}, isAdm w → 0 ≤ w.sum
  | [], _ => by simp
  | a :: r, h => by have := isAdm_sum (isAdm_tail h); have := isAdm_pos h; rw [List.sum_cons]; omega
theorem isAdm_head : ∀ {a : Int} {r : List Int}, isAdm (a :: r) → (2 : Int) ^ r.length ≤ a
  | a, [], h => by simpa using (show (1 : Int) ≤ a from h)
  | a, b :: r, h => by have h1 := isAdm_head h.2; have := h.1; rw [List.length_cons, Int.pow_succ]; omega
theorem two_pow_ge : ∀ k : Nat, (1 : Int) ≤ 2 ^ k
  | 0 => by simp
  | k + 1 => by have := two_pow_ge k; rw [Int.pow_succ]; omega
theorem isAdm_len {w : List Int} (h : isAdm w) (h40 : w.sum ≤ 40) : w.length ≤ 6 := by
  cases w with
  | nil => simp
  | cons a r =>
    have h1 := isAdm_head h
    have h2 := isAdm_sum (isAdm_tail h)
    rw [List.sum_cons] at h40
    apply Classical.byContradiction
    intro hc
    have h3 : 6 ≤ r.length := by simp at hc; omega
    obtain ⟨k, hk⟩ : ∃ k, r.length = k + 1 + 1 + 1 + 1 + 1 + 1 := ⟨r.length - 6, by omega⟩
    have h4 := two_pow_ge k
    rw [hk] at h1
    simp only [Int.pow_succ] at h1
    omega

/-- The places of Adem's relation. -/
def js (b i : Int) : List Int := ((List.range (i.toNat / 2 + 1)).filter (fun j => decide (bpar (b.toNat - j - 1) (i.toNat - 2 * j) = 1))).map (fun j : Nat => (j : Int))
theorem js_mem {b i j : Int} (hi : 0 ≤ i) (h : j ∈ js b i) : 0 ≤ j ∧ 2 * j ≤ i := by
  obtain ⟨k, hk, rfl⟩ := List.mem_map.1 h
  have := List.mem_range.1 (List.mem_filter.1 hk).1
  omega

/-- Sq^i times an admissible word, with repetitions. -/
def admF : Nat → Int → List Int → List (List Int)
  | 0, _, _ => []
  | f + 1, i, [] => if i = 0 then [[]] else [[i]]
  | f + 1, i, b :: r => if i = 0 then [b :: r] else if 2 * b ≤ i then [i :: b :: r] else (js b i).flatMap fun j => (admF f j r).flatMap fun w => admF f (i + b - j) w
def mu (i : Int) (w : List Int) : Nat := (i + w.sum).toNat * 41 + w.sum.toNat

theorem mu_rest {i b j : Int} {r : List Int} (hi : 0 < i) (hb : 1 ≤ b) (hj : 0 ≤ j ∧ 2 * j ≤ i) (hr : 0 ≤ r.sum) (h40 : i + (b :: r).sum ≤ 40) : mu j r < mu i (b :: r) := by
  rw [List.sum_cons] at h40
  unfold mu
  rw [List.sum_cons]
  omega
theorem mu_step {i b j : Int} {r w : List Int} (hi : 0 < i) (hb : 1 ≤ b) (hlt : i < 2 * b) (hj : 0 ≤ j ∧ 2 * j ≤ i) (hr : 0 ≤ r.sum) (hw : w.sum = j + r.sum) (h40 : i + (b :: r).sum ≤ 40) : mu (i + b - j) w < mu i (b :: r) := by
  rw [List.sum_cons] at h40
  unfold mu
  rw [List.sum_cons, hw]
  have : i + b - j + (j + r.sum) = i + (b + r.sum) := by omega
  rw [this]
  omega

theorem admF_ok : ∀ (f : Nat) (i : Int) (w : List Int), 0 ≤ i → isAdm w → i + w.sum ≤ 40 → mu i w < f → ∀ x ∈ admF f i w, isAdm x ∧ x.sum = i + w.sum
  | 0, _, _, _, _, _, h, _, _ => absurd h (Nat.not_lt_zero _)
  | f + 1, i, [], hi, _, _, _, x, hx => by
    unfold admF at hx
    split at hx
    · rename_i h0; rw [List.mem_singleton.1 hx, h0]; exact ⟨trivial, by simp⟩
    · rw [List.mem_singleton.1 hx]; exact ⟨show 1 ≤ i by omega, by simp⟩
  | f + 1, i, b :: r, hi, hw, h40, hf, x, hx => by
    have hb := isAdm_pos hw
    have hrt := isAdm_tail hw
    have hrs := isAdm_sum hrt
    unfold admF at hx
    split at hx
    · rename_i h0; rw [List.mem_singleton.1 hx, h0]; exact ⟨hw, by simp⟩
    · split at hx
      · rename_i h0 h2; rw [List.mem_singleton.1 hx]; exact ⟨⟨h2, hw⟩, by simp⟩
      · rename_i h0 h2
        obtain ⟨j, hj, hx⟩ := List.mem_flatMap.1 hx
        obtain ⟨w', hw', hx⟩ := List.mem_flatMap.1 hx
        have hj := js_mem hi hj
        have hs := h40
        rw [List.sum_cons] at hs
        obtain ⟨a1, a2⟩ := admF_ok f j r hj.1 hrt (by omega) (by have := mu_rest (by omega) hb hj hrs h40; omega) w' hw'
        obtain ⟨c1, c2⟩ := admF_ok f (i + b - j) w' (by omega) a1 (by rw [a2]; omega) (by have := mu_step (i := i) (by omega) hb (by omega) hj hrs a2 h40; omega) x hx
        exact ⟨c1, by rw [c2, a2, List.sum_cons]; omega⟩

theorem flatMap_congr {α β : Type} {f g : α → List β} : ∀ {l : List α}, (∀ x ∈ l, f x = g x) → l.flatMap f = l.flatMap g
  | [], _ => rfl
  | x :: l, h => by
    rw [List.flatMap_cons, List.flatMap_cons, h x List.mem_cons_self, flatMap_congr (fun y hy => h y (List.mem_cons_of_mem _ hy))]

theorem admF_fuel : ∀ (f f' : Nat) (i : Int) (w : List Int), 0 ≤ i → isAdm w → i + w.sum ≤ 40 → mu i w < f → mu i w < f' → admF f i w = admF f' i w
  | 0, _, _, _, _, _, _, h, _ => absurd h (Nat.not_lt_zero _)
  | _ + 1, 0, _, _, _, _, _, _, h => absurd h (Nat.not_lt_zero _)
  | f + 1, f' + 1, i, [], _, _, _, _, _ => by unfold admF; rfl
  | f + 1, f' + 1, i, b :: r, hi, hw, h40, hf, hf' => by
    have hb := isAdm_pos hw
    have hrt := isAdm_tail hw
    have hrs := isAdm_sum hrt
    unfold admF
    split
    · rfl
    · split
      · rfl
      · rename_i h0 h2
        have hs := h40
        rw [List.sum_cons] at hs
        refine flatMap_congr fun j hj => ?_
        have hj := js_mem hi hj
        have hm := mu_rest (by omega) hb hj hrs h40
        rw [admF_fuel f f' j r hj.1 hrt (by omega) (by omega) (by omega)]
        refine flatMap_congr fun w' hw' => ?_
        obtain ⟨a1, a2⟩ := admF_ok f' j r hj.1 hrt (by omega) (by omega) w' hw'
        have hm2 := mu_step (i := i) (by omega) hb (by omega) hj hrs a2 h40
        exact admF_fuel f f' (i + b - j) w' (by omega) a1 (by rw [a2]; omega) (by omega) (by omega)

/-! ### How many there are at most -/
def allW : Nat → List (List Int)
  | 0 => [[]]
  | n + 1 => [] :: (List.range 41).flatMap fun a : Nat => (allW n).map ((a : Int) :: ·)
theorem allW_mem : ∀ (n : Nat) (w : List Int), w.length ≤ n → (∀ x ∈ w, 0 ≤ x ∧ x ≤ 40) → w ∈ allW n
  | 0, [], _, _ => by simp [allW]
  | 0, _ :: _, h, _ => by simp at h
  | n + 1, [], _, _ => by simp [allW]
  | n + 1, a :: w, h, hx => by
    obtain ⟨h0, h1⟩ := hx a List.mem_cons_self
    refine List.mem_cons_of_mem _ (List.mem_flatMap.2 ⟨a.toNat, List.mem_range.2 (by omega), List.mem_map.2 ⟨w, allW_mem n w (by simpa using h) (fun x hxx => hx x (List.mem_cons_of_mem _ hxx)), ?_⟩⟩)
    rw [Int.toNat_of_nonneg h0]
theorem len_each {α : Type} (L : List α) (g : Nat → α → α) : ∀ m : Nat, ((List.range m).flatMap fun a => L.map (g a)).length = m * L.length
  | 0 => by simp
  | m + 1 => by
    rw [List.range_succ, List.flatMap_append, List.length_append, len_each L g m, List.flatMap_cons, List.flatMap_nil, List.append_nil, List.length_map, Nat.succ_mul]
theorem allW_len : ∀ (n : Nat), (allW n).length ≤ 42 ^ n
  | 0 => Nat.le_refl _
  | n + 1 => by
    have ih := allW_len n
    have h1 := len_each (allW n) (fun (a : Nat) (w : List Int) => (a : Int) :: w) 41
    unfold allW
    rw [List.length_cons, h1, Nat.pow_succ]
    have : 0 < 42 ^ n := Nat.pow_pos (by decide)
    omega
theorem adm_entries : ∀ {w : List Int}, isAdm w → w.sum ≤ 40 → ∀ x ∈ w, 0 ≤ x ∧ x ≤ 40
  | [], _, _, x, hx => by cases hx
  | a :: r, h, hs, x, hx => by
    have h1 := isAdm_pos h
    have h2 := isAdm_sum (isAdm_tail h)
    rw [List.sum_cons] at hs
    rcases List.mem_cons.1 hx with e | hx
    · subst e; omega
    · exact adm_entries (isAdm_tail h) (by omega) x hx
/-- Different admissible words of degree 40 at most. -/
theorem adm_count (L : List (List Int)) (hn : L.Nodup) (h : ∀ w ∈ L, isAdm w ∧ w.sum ≤ 40) : L.length ≤ 6000000000 := by
  have h1 := nodup_len L (allW 6) hn (fun w hw => allW_mem 6 w (isAdm_len (h w hw).1 (h w hw).2) (adm_entries (h w hw).1 (h w hw).2))
  have h2 := allW_len 6
  have h3 : 42 ^ 6 ≤ 6000000000 := by decide
  omega
end Go.Proofs.Ytnmilkehggjpfaa
end
section
namespace Go.Proofs.Ytnmilkehggjpfaa.Ml
open Go.RowKit
set_option linter.unusedVariables false
set_option maxRecDepth 100000

theorem par_oddL (L : List (List Int)) (z : List Int) : par (oddL L) z ↔ par L z := by rw [par_nodup _ (oddL_spec L).1.nodup, (oddL_spec L).2]
theorem par_congr1 {α : Type} {f g : α → List (List Int)} (z : List Int) : ∀ l : List α, (∀ i ∈ l, par (f i) z ↔ par (g i) z) → (par (l.flatMap f) z ↔ par (l.flatMap g) z)
  | [], _ => Iff.rfl
  | a :: l, h => by
    rw [List.flatMap_cons, List.flatMap_cons, par_append, par_append, h a List.mem_cons_self, par_congr1 z l fun i hi => h i (List.mem_cons_of_mem _ hi)]
/-- The results of one list and those of L. -/
theorem call_one (r : List Int) (L : List (List Int)) : call (rowsOf [r]) (rowsOf L) L.length 1 = L.flatMap (cntL r) := by
  have e : call (rowsOf [r]) (rowsOf L) L.length 1 = crow (rowsOf L) r L.length := by
    rw [call_succ]
    rfl
  rw [e]
  have h := rowsOf_all L
  unfold crow
  conv => rhs; rw [← h]
  unfold rowsL
  rw [List.flatMap_map]
theorem par_prod1 (r : List Int) (L : List (List Int)) (z : List Int) : par (prodT (rowsOf [r]) (rowsOf L) 1 L.length) z ↔ par (L.flatMap (cntL r)) z := by
  unfold prodT
  rw [par_oddL, call_one]
theorem prod_odd (r : List Int) (L : List (List Int)) (z : List Int) : par (prodT (rowsOf [r]) (rowsOf (oddL L)) 1 (oddL L).length) z ↔ par (L.flatMap (cntL r)) z := by
  rw [par_prod1]
  exact par_flatMap _ z _ _ (par_oddL L)
/-- The terms of the element for which a list of words stands. -/
noncomputable def sumW (W : List (List Int)) : List (List Int) := oddL (W.flatMap wT)
theorem sumW_asc (W : List (List Int)) : Asc (sumW W) := (oddL_spec _).1
theorem sumW_mem (W : List (List Int)) (z : List Int) : z ∈ sumW W ↔ par (W.flatMap wT) z := (oddL_spec _).2 z
theorem sumW_eq {T W : List (List Int)} (ha : Asc T) (h : ∀ z, z ∈ T ↔ par (W.flatMap wT) z) : T = sumW W := oddL_eq ha h
/-- A square ahead of a sum of words. -/
theorem sumW_head (n : Int) (V : List (List Int)) (z : List Int) : par (prodT (rowsOf [[n]]) (rowsOf (sumW V)) 1 (sumW V).length) z ↔ par ((V.map (n :: ·)).flatMap wT) z := by
  unfold sumW
  rw [prod_odd, List.flatMap_assoc, List.flatMap_map]
  exact par_congr1 z V fun v _ => (par_prod1 [n] (wT v) z).symm
/-- What is behind the letter k. -/
def tails (k : Int) : List (List Int) → List (List Int)
  | [] => []
  | [] :: W => tails k W
  | (x :: v) :: W => if x = k then v :: tails k W else tails k W
theorem add_at {x : Int} {A : List (List Int)} {h : Int → List (List Int)} (z : List Int) : ∀ keys : List Int, keys.Nodup → x ∈ keys → (par (keys.flatMap fun k => if x = k then A ++ h k else h k) z ↔ par (A ++ keys.flatMap h) z)
  | [], _, hx => absurd hx (by simp)
  | k :: ks, hn, hx => by
    have hk := List.nodup_cons.1 hn
    by_cases e : x = k
    · subst e
      have : (ks.flatMap fun k => if x = k then A ++ h k else h k) = ks.flatMap h := by
        have : ∀ l : List Int, x ∉ l → (l.flatMap fun k => if x = k then A ++ h k else h k) = l.flatMap h := fun l => by
          induction l with
          | nil => intro _; rfl
          | cons a l ih =>
            intro hl
            rw [List.flatMap_cons, List.flatMap_cons, ih fun h => hl (List.mem_cons_of_mem _ h), if_neg fun e => hl (by rw [e]; exact List.mem_cons_self)]
        exact this ks hk.1
      rw [List.flatMap_cons, this, if_pos rfl, List.flatMap_cons, List.append_assoc]
    · have hx2 : x ∈ ks := by
        rcases List.mem_cons.1 hx with h | h
        · exact absurd h e
        · exact h
      have ih := add_at (A := A) (h := h) z ks hk.2 hx2
      rw [List.flatMap_cons, if_neg e, List.flatMap_cons, par_append, ih, par_append, par_append, par_append]
      by_cases a : par A z <;> by_cases b : par (h k) z <;> by_cases c : par (ks.flatMap h) z <;> simp [a, b, c]
/-- The sums over the first letters, in any order, are the sum. -/
theorem group_par (keys : List Int) (hn : keys.Nodup) (z : List Int) : ∀ W : List (List Int), (∀ w ∈ W, ∃ x v, w = x :: v ∧ x ∈ keys) → (par (keys.flatMap fun k => ((tails k W).map (k :: ·)).flatMap wT) z ↔ par (W.flatMap wT) z)
  | [], _ => by
    have : ∀ ks : List Int, (ks.flatMap fun k => ((tails k []).map (k :: ·)).flatMap wT) = [] := fun ks => by
      induction ks with
      | nil => rfl
      | cons a l ih => rw [List.flatMap_cons, ih]; rfl
    rw [this keys]
    rfl
  | w :: W, h => by
    obtain ⟨x, v, rfl, hx⟩ := h w List.mem_cons_self
    have ih := group_par keys hn z W fun u hu => h u (List.mem_cons_of_mem _ hu)
    have e : (keys.flatMap fun k => ((tails k ((x :: v) :: W)).map (k :: ·)).flatMap wT) = keys.flatMap fun k => if x = k then wT (x :: v) ++ ((tails k W).map (k :: ·)).flatMap wT else ((tails k W).map (k :: ·)).flatMap wT := by
      congr 1
      funext k
      rw [tails]
      by_cases c : x = k
      · subst c
        rw [if_pos rfl, if_pos rfl, List.map_cons, List.flatMap_cons]
      · rw [if_neg c, if_neg c]
    rw [e, add_at z keys hn hx, List.flatMap_cons, par_append, ih, par_append]
/-- What the program adds up is the sum. -/
theorem sumW_group {T : List (List Int)} (W : List (List Int)) (keys : List Int) (hn : keys.Nodup) (hW : ∀ w ∈ W, ∃ x v, w = x :: v ∧ x ∈ keys) (ha : Asc T)
    (h : ∀ z, z ∈ T ↔ par (keys.flatMap fun k => prodT (rowsOf [[k]]) (rowsOf (sumW (tails k W))) 1 (sumW (tails k W)).length) z) : T = sumW W :=
  sumW_eq ha fun z => by
    rw [h, par_congr1 z keys fun k _ => sumW_head k (tails k W) z]
    exact group_par keys hn z W hW

/-! ### Sums of words of one degree are elements -/
theorem wT_mem {l x : List Int} (h : okW l) (hx : x ∈ wT l) : goodE x ∧ dgL x = l.sum := by
  have hl := w_ok h
  obtain ⟨i, hi, rfl⟩ := List.mem_iff_getElem.1 hx
  have e : rowsOf (wT l) i = (wT l)[i] := by unfold rowsOf; rw [List.getElem?_eq_getElem hi]; rfl
  have h1 := hl.el.2 i hi
  rw [stepM, e] at h1
  exact ⟨h1.1, by rw [h1.2]; exact hl.deg (by omega)⟩
theorem sumW_good {W : List (List Int)} {d : Int} (h : ∀ l ∈ W, okW l ∧ l.sum = d) : ∀ x ∈ sumW W, goodE x ∧ dgL x = d := fun x hx => by
  have h1 := par_mem _ _ ((sumW_mem W x).1 hx)
  obtain ⟨l, hl, hx⟩ := List.mem_flatMap.1 h1
  have h2 := wT_mem (h l hl).1 hx
  exact ⟨h2.1, by rw [h2.2]; exact (h l hl).2⟩
theorem sumW_el {W : List (List Int)} {d : Int} (h : ∀ l ∈ W, okW l ∧ l.sum = d) : okMl (rowsOf (sumW W)) (sumW W).length := okMl_of (sumW_asc W) d (sumW_good h)
theorem tails_mem {k : Int} {v : List Int} : ∀ {W : List (List Int)}, v ∈ tails k W → (k :: v) ∈ W
  | [], h => by cases h
  | [] :: W, h => List.mem_cons_of_mem _ (tails_mem (W := W) h)
  | (x :: u) :: W, h => by
    rw [tails] at h
    by_cases e : x = k
    · rw [if_pos e] at h
      subst e
      rcases List.mem_cons.1 h with h | h
      · subst h; exact List.mem_cons_self
      · exact List.mem_cons_of_mem _ (tails_mem h)
    · rw [if_neg e] at h
      exact List.mem_cons_of_mem _ (tails_mem h)
theorem tails_ok {k d : Int} {W : List (List Int)} (h : ∀ l ∈ W, okW l ∧ l.sum = d) : ∀ l ∈ tails k W, okW l ∧ l.sum = d - k := fun l hl => by
  have h1 := h _ (tails_mem hl)
  refine ⟨okW_tail h1.1, ?_⟩
  have := h1.2
  rw [List.sum_cons] at this
  omega
/-- A letter and what is behind it may be multiplied. -/
theorem sumW_fac {k d : Int} {W : List (List Int)} (h : ∀ l ∈ W, okW l ∧ l.sum = d) (hk : 1 ≤ k) (hd : d ≤ 40) (h0 : k ≤ d) : Fac (rowsOf [[k]]) (rowsOf (sumW (tails k W))) 1 (sumW (tails k W)).length := by
  have hT := tails_ok (k := k) h
  refine ⟨ok_one hk (by omega), sumW_el hT, fun _ b => ?_⟩
  show dgL [k] + _ ≤ 40
  rw [(good_one hk (by omega)).2]
  have e : dgL (rowsOf (sumW (tails k W)) 0) = d - k := by
    refine (sumW_good hT _ ?_).2
    unfold rowsOf
    rw [List.getElem?_eq_getElem b]
    exact List.getElem_mem b
  rw [e]
  omega
end Go.Proofs.Ytnmilkehggjpfaa.Ml
end
section
namespace Go.Proofs.Ytnmilkehggjpfaa.Ml
open Go.RowKit
set_option linter.unusedVariables false
set_option maxRecDepth 100000

/-! ### MultiplyMilnor -/
theorem fac_of {X Y : Nat → List Int} {m n : Nat} (h : codeOf X Y m n = 0) : Fac X Y m n := by
  by_cases hA : okMl X m ∧ okMl Y n
  · rw [codeOf_ok hA.1 hA.2] at h
    refine ⟨hA.1, hA.2, fun a b => ?_⟩
    by_cases c : 0 < m ∧ 0 < n ∧ 40 < dgL (X 0) + dgL (Y 0)
    · rw [if_pos c] at h; cases h
    · omega
  · rw [codeOf_bad hA] at h; cases h
end Go.Proofs.Ytnmilkehggjpfaa.Ml
end
section
namespace Go.Proofs.Ytnmilkehggjpfaa.Ml
open Go.RowKit
set_option linter.unusedVariables false
set_option maxRecDepth 100000

theorem Two.up' {w0 w w' : World} {va vb : Value} (h : Two w0 va vb w) (k : Below w.heap.size w w') : Two w0 va vb w' := ⟨h.bel.step1 k, h.bA.up k, h.bB.up k⟩
theorem Two.setR {w0 w : World} {va vb : Value} (h : Two w0 va vb w) (v : Value) : Two w0 va vb (w.setCell ⟨w0.heap.size + 1 + 1, 0, none⟩ v) :=
  ⟨h.bel.setCell (p := ⟨w0.heap.size + 1 + 1, 0, none⟩) (by simp; omega) v, (heap_setCell_other w _ _ v (by simp; omega)).trans h.bA, (heap_setCell_other w _ _ v (by simp)).trans h.bB⟩
theorem Tri.two {w0 w : World} {va vb : Value} (h : Tri w0 va vb w) : Two w0 va vb w := ⟨h.bel, h.bA, h.bB⟩

theorem comSum {L1 L2 : List (List Int)} (h1 : ∀ x ∈ L1, x.length ≤ 5 ∧ ∀ z ∈ x, 0 ≤ z ∧ z ≤ 10000000) (h2 : ∀ x ∈ L2, x.length ≤ 5 ∧ ∀ z ∈ x, 0 ≤ z ∧ z ≤ 10000000) (n1 : L1.length ≤ 15000) (n2 : L2.length ≤ 15000) (wx : World) (V1 V2 : Value) (U1 U2 : Nat → Value) (B1 B2 : Nat) (f1 : FamL wx B1 V1 U1 L1) (f2 : FamL wx B2 V2 U2 L2) :
    Calls Try.prog 58 #[V1, V2] wx (TermsPost (mrg L1 L2) wx) := by
  have k := l01Sum_any V1 V2 L1.length L2.length (rowsOf L1) (rowsOf L2) U1 U2 B1 B2 wx f1 f2 (by omega) (by omega) (fun i _ => by have := rows_short h1 i; omega) (fun i _ => by have := rows_short h2 i; omega)
  rw [rowsOf_all, rowsOf_all] at k
  exact k
theorem comPlus {L1 L2 : List (List Int)} (a1 : Asc L1) (a2 : Asc L2) (h1 : ∀ x ∈ L1, x.length ≤ 5 ∧ ∀ z ∈ x, 0 ≤ z ∧ z ≤ 10000000) (h2 : ∀ x ∈ L2, x.length ≤ 5 ∧ ∀ z ∈ x, 0 ≤ z ∧ z ≤ 10000000) (n1 : L1.length ≤ 15000) (n2 : L2.length ≤ 15000) (wx : World) (V1 V2 : Value) (U1 U2 : Nat → Value) (B1 B2 : Nat) (f1 : FamL wx B1 V1 U1 L1) (f2 : FamL wx B2 V2 U2 L2) :
    Calls Try.prog 93 #[.agg #[V1], .agg #[V2]] wx (ResT (mrg L1 L2) wx) := by
  obtain ⟨aa, ca, rfl, _, _⟩ := f1.head
  obtain ⟨ab, cb, rfl, _, _⟩ := f2.head
  refine plus_any aa ab L1.length L2.length ca cb wx (mrg L1 L2) (Lib.hid fun wy hy => ?_)
  have k := sumOfTerms_any (.slice aa L1.length ca) (.slice ab L2.length cb) L1.length L2.length (rowsOf L1) (rowsOf L2) wy (Fam.below f1 hy).rdss (Fam.below f2 hy).rdss (by omega) (by omega) (fun i _ => rows_short h1 i) (fun i _ => rows_short h2 i) (fun i _ => rows_wf h1 i) (fun i _ => rows_wf h2 i) (by rw [rowsOf_all]; exact a1) (by rw [rowsOf_all]; exact a2) sort_any
  rw [rowsOf_all, rowsOf_all] at k
  exact k
theorem mrg_ok {L1 L2 : List (List Int)} (h1 : ∀ x ∈ L1, x.length ≤ 5 ∧ ∀ z ∈ x, 0 ≤ z ∧ z ≤ 10000000) (h2 : ∀ x ∈ L2, x.length ≤ 5 ∧ ∀ z ∈ x, 0 ≤ z ∧ z ≤ 10000000) : ∀ x ∈ mrg L1 L2, x.length ≤ 5 ∧ ∀ z ∈ x, 0 ≤ z ∧ z ≤ 10000000 := fun x hx =>
  (mrg_sub _ _ _ hx).elim (h1 x) (h2 x)
end Go.Proofs.Ytnmilkehggjpfaa.Ml
end
