/-
  Joined: KAdm, WFam.
-/
import Derived.Test.YtldlpeohdindaaaZeneratorForm03
import Derived.Test.YtldlpeohdindaaaZeneratorForm02
section
namespace Go.Proofs.Ytldlpeohdindaaa
set_option maxRecDepth 100000
set_option linter.unusedVariables false

/-! ### Parities of lists -/
theorem par_perm_cons {α : Type} (x k : α) (A B : List α) : par (A ++ x :: B) k ↔ par (x :: (A ++ B)) k := by
  rw [par_append]
  show ((par A k ∧ ¬ ((x = k ∧ ¬ par B k) ∨ (x ≠ k ∧ par B k))) ∨ (¬ par A k ∧ ((x = k ∧ ¬ par B k) ∨ (x ≠ k ∧ par B k)))) ↔ ((x = k ∧ ¬ par (A ++ B) k) ∨ (x ≠ k ∧ par (A ++ B) k))
  rw [par_append]
  by_cases h1 : x = k <;> by_cases h2 : par A k <;> by_cases h3 : par B k <;> simp [h1, h2, h3]
theorem par_twice {α : Type} (k : α) (A B : List α) : par (A ++ (A ++ B)) k ↔ par B k := by
  rw [par_append, par_append]
  by_cases h2 : par A k <;> by_cases h3 : par B k <;> simp [h2, h3]
/-- What occurs an even number of times adds nothing. -/
theorem even_flatMap {α β : Type} (f : α → List β) (k : β) : ∀ (n : Nat) (U : List α), U.length ≤ n → (∀ y, ¬ par U y) → ¬ par (U.flatMap f) k
  | _, [], _, _ => by simp [par]
  | 0, _ :: _, hn, _ => by simp at hn
  | n + 1, y :: U, hn, h => by
    have h1 : par U y := by
      have := h y
      apply Classical.byContradiction
      intro hc
      exact this (.inl ⟨rfl, hc⟩)
    obtain ⟨A, B, rfl⟩ := List.append_of_mem (par_mem _ _ h1)
    have h2 : ∀ z, ¬ par (A ++ B) z := fun z hz => by
      refine h z ?_
      by_cases e : y = z
      · refine .inl ⟨e, ?_⟩
        rw [par_perm_cons]
        rintro (⟨_, h3⟩ | ⟨h3, _⟩)
        · exact h3 hz
        · exact h3 e
      · refine .inr ⟨e, ?_⟩
        rw [par_perm_cons]
        exact .inr ⟨e, hz⟩
    have h3 := even_flatMap f k n (A ++ B) (by simp at hn ⊢; omega) h2
    rw [List.flatMap_cons, List.flatMap_append, List.flatMap_cons]
    rw [List.flatMap_append] at h3
    intro hp
    apply h3
    rw [par_append] at hp ⊢
    rw [par_append, par_append] at hp
    by_cases a1 : par (f y) k <;> by_cases a2 : par (A.flatMap f) k <;> by_cases a3 : par (B.flatMap f) k <;> simp [a1, a2, a3] at hp ⊢
theorem par_flatMap {α β : Type} (f : α → List β) (k : β) (S T : List α) (h : ∀ y, par S y ↔ par T y) : par (S.flatMap f) k ↔ par (T.flatMap f) k := by
  have h1 := even_flatMap f k (S ++ T).length (S ++ T) (Nat.le_refl _) (fun y => by rw [par_append, h y]; by_cases a : par T y <;> simp [a])
  rw [List.flatMap_append, par_append] at h1
  by_cases a : par (S.flatMap f) k <;> by_cases b : par (T.flatMap f) k <;> simp [a, b] at h1 ⊢

/-! ### Admissible words -/
def isAdm : List Int → Prop
  | [] => True
  | [a] => 1 ≤ a
  | a :: b :: r => 2 * b ≤ a ∧ isAdm (b :: r)
theorem isAdm_tail {a : Int} {r : List Int} (h : isAdm (a :: r)) : isAdm r := by
  cases r with
  | nil => trivial
  | cons b r => exact h.2
theorem isAdm_pos : ∀ {a : Int} {r : List Int}, isAdm (a :: r) → 1 ≤ a
  | a, [], h => h
  | a, b :: r, h => by have := isAdm_pos h.2; have := h.1; omega
theorem isAdm_cons {i : Int} {w : List Int} (hi : 1 ≤ i) (hw : isAdm w) (h : ∀ b r, w = b :: r → 2 * b ≤ i) : isAdm (i :: w) := by
  cases w with
  | nil => exact hi
  | cons b r => exact ⟨h b r rfl, hw⟩
theorem isAdm_sum : ∀ {w : List Int}, isAdm w → 0 ≤ w.sum
  | [], _ => by simp
  | a :: r, h => by have := isAdm_sum (isAdm_tail h); have := isAdm_pos h; rw [List.sum_cons]; omega
theorem isAdm_head : ∀ {a : Int} {r : List Int}, isAdm (a :: r) → (2 : Int) ^ r.length ≤ a
  | a, [], h => by simpa using (show (1 : Int) ≤ a from h)
  | a, b :: r, h => by have h1 := isAdm_head h.2; have := h.1; rw [List.length_cons, Int.pow_succ]; omega
theorem two_pow_ge : ∀ k : Nat, (1 : Int) ≤ 2 ^ k
  | 0 => by simp
  | k + 1 => by have := two_pow_ge k; rw [Int.pow_succ]; omega
theorem isAdm_len {w : List Int} (h : isAdm w) (h40 : w.sum ≤ 40) : w.length ≤ 6 := by
  cases w with
  | nil => simp
  | cons a r =>
    have h1 := isAdm_head h
    have h2 := isAdm_sum (isAdm_tail h)
    rw [List.sum_cons] at h40
    apply Classical.byContradiction
    intro hc
    have h3 : 6 ≤ r.length := by simp at hc; omega
    obtain ⟨k, hk⟩ : ∃ k, r.length = k + 1 + 1 + 1 + 1 + 1 + 1 := ⟨r.length - 6, by omega⟩
    have h4 := two_pow_ge k
    rw [hk] at h1
    simp only [Int.pow_succ] at h1
    omega

/-- The places of Adem's relation. -/
def js (b i : Int) : List Int := ((List.range (i.toNat / 2 + 1)).filter (fun j => decide (bpar (b.toNat - j - 1) (i.toNat - 2 * j) = 1))).map (fun j : Nat => (j : Int))
theorem js_mem {b i j : Int} (hi : 0 ≤ i) (h : j ∈ js b i) : 0 ≤ j ∧ 2 * j ≤ i := by
  obtain ⟨k, hk, rfl⟩ := List.mem_map.1 h
  have := List.mem_range.1 (List.mem_filter.1 hk).1
  omega

/-- Sq^i times an admissible word, with repetitions. -/
def admF : Nat → Int → List Int → List (List Int)
  | 0, _, _ => []
  | f + 1, i, [] => if i = 0 then [[]] else [[i]]
  | f + 1, i, b :: r => if i = 0 then [b :: r] else if 2 * b ≤ i then [i :: b :: r] else (js b i).flatMap fun j => (admF f j r).flatMap fun w => admF f (i + b - j) w
def mu (i : Int) (w : List Int) : Nat := (i + w.sum).toNat * 41 + w.sum.toNat

theorem mu_rest {i b j : Int} {r : List Int} (hi : 0 < i) (hb : 1 ≤ b) (hj : 0 ≤ j ∧ 2 * j ≤ i) (hr : 0 ≤ r.sum) (h40 : i + (b :: r).sum ≤ 40) : mu j r < mu i (b :: r) := by
  rw [List.sum_cons] at h40
  unfold mu
  rw [List.sum_cons]
  omega
theorem mu_step {i b j : Int} {r w : List Int} (hi : 0 < i) (hb : 1 ≤ b) (hlt : i < 2 * b) (hj : 0 ≤ j ∧ 2 * j ≤ i) (hr : 0 ≤ r.sum) (hw : w.sum = j + r.sum) (h40 : i + (b :: r).sum ≤ 40) : mu (i + b - j) w < mu i (b :: r) := by
  rw [List.sum_cons] at h40
  unfold mu
  rw [List.sum_cons, hw]
  have : i + b - j + (j + r.sum) = i + (b + r.sum) := by omega
  rw [this]
  omega

theorem admF_ok : ∀ (f : Nat) (i : Int) (w : List Int), 0 ≤ i → isAdm w → i + w.sum ≤ 40 → mu i w < f → ∀ x ∈ admF f i w, isAdm x ∧ x.sum = i + w.sum
  | 0, _, _, _, _, _, h, _, _ => absurd h (Nat.not_lt_zero _)
  | f + 1, i, [], hi, _, _, _, x, hx => by
    unfold admF at hx
    split at hx
    · rename_i h0; rw [List.mem_singleton.1 hx, h0]; exact ⟨trivial, by simp⟩
    · rw [List.mem_singleton.1 hx]; exact ⟨show 1 ≤ i by omega, by simp⟩
  | f + 1, i, b :: r, hi, hw, h40, hf, x, hx => by
    have hb := isAdm_pos hw
    have hrt := isAdm_tail hw
    have hrs := isAdm_sum hrt
    unfold admF at hx
    split at hx
    · rename_i h0; rw [List.mem_singleton.1 hx, h0]; exact ⟨hw, by simp⟩
    · split at hx
      · rename_i h0 h2; rw [List.mem_singleton.1 hx]; exact ⟨⟨h2, hw⟩, by simp⟩
      · rename_i h0 h2
        obtain ⟨j, hj, hx⟩ := List.mem_flatMap.1 hx
        obtain ⟨w', hw', hx⟩ := List.mem_flatMap.1 hx
        have hj := js_mem hi hj
        have hs := h40
        rw [List.sum_cons] at hs
        obtain ⟨a1, a2⟩ := admF_ok f j r hj.1 hrt (by omega) (by have := mu_rest (by omega) hb hj hrs h40; omega) w' hw'
        obtain ⟨c1, c2⟩ := admF_ok f (i + b - j) w' (by omega) a1 (by rw [a2]; omega) (by have := mu_step (i := i) (by omega) hb (by omega) hj hrs a2 h40; omega) x hx
        exact ⟨c1, by rw [c2, a2, List.sum_cons]; omega⟩

theorem flatMap_congr {α β : Type} {f g : α → List β} : ∀ {l : List α}, (∀ x ∈ l, f x = g x) → l.flatMap f = l.flatMap g
  | [], _ => rfl
  | x :: l, h => by
    rw [List.flatMap_cons, List.flatMap_cons, h x List.mem_cons_self, flatMap_congr (fun y hy => h y (List.mem_cons_of_mem _ hy))]

theorem admF_fuel : ∀ (f f' : Nat) (i : Int) (w : List Int), 0 ≤ i → isAdm w → i + w.sum ≤ 40 → mu i w < f → mu i w < f' → admF f i w = admF f' i w
  | 0, _, _, _, _, _, _, h, _ => absurd h (Nat.not_lt_zero _)
  | _ + 1, 0, _, _, _, _, _, _, h => absurd h (Nat.not_lt_zero _)
  | f + 1, f' + 1, i, [], _, _, _, _, _ => by unfold admF; rfl
  | f + 1, f' + 1, i, b :: r, hi, hw, h40, hf, hf' => by
    have hb := isAdm_pos hw
    have hrt := isAdm_tail hw
    have hrs := isAdm_sum hrt
    unfold admF
    split
    · rfl
    · split
      · rfl
      · rename_i h0 h2
        have hs := h40
        rw [List.sum_cons] at hs
        refine flatMap_congr fun j hj => ?_
        have hj := js_mem hi hj
        have hm := mu_rest (by omega) hb hj hrs h40
        rw [admF_fuel f f' j r hj.1 hrt (by omega) (by omega) (by omega)]
        refine flatMap_congr fun w' hw' => ?_
        obtain ⟨a1, a2⟩ := admF_ok f' j r hj.1 hrt (by omega) (by omega) w' hw'
        have hm2 := mu_step (i := i) (by omega) hb (by omega) hj hrs a2 h40
        exact admF_fuel f f' (i + b - j) w' (by omega) a1 (by rw [a2]; omega) (by omega) (by omega)

/-! ### How many there are at most -/
def allW : Nat → List (List Int)
  | 0 => [[]]
  | n + 1 => [] :: (List.range 41).flatMap fun a : Nat => (allW n).map ((a : Int) :: ·)
theorem allW_mem : ∀ (n : Nat) (w : List Int), w.length ≤ n → (∀ x ∈ w, 0 ≤ x ∧ x ≤ 40) → w ∈ allW n
  | 0, [], _, _ => by simp [allW]
  | 0, _ :: _, h, _ => by simp at h
  | n + 1, [], _, _ => by simp [allW]
  | n + 1, a :: w, h, hx => by
    obtain ⟨h0, h1⟩ := hx a List.mem_cons_self
    refine List.mem_cons_of_mem _ (List.mem_flatMap.2 ⟨a.toNat, List.mem_range.2 (by omega), List.mem_map.2 ⟨w, allW_mem n w (by simpa using h) (fun x hxx => hx x (List.mem_cons_of_mem _ hxx)), ?_⟩⟩)
    rw [Int.toNat_of_nonneg h0]
theorem len_each {α : Type} (L : List α) (g : Nat → α → α) : ∀ m : Nat, ((List.range m).flatMap fun a => L.map (g a)).length = m * L.length
  | 0 => by simp
  | m + 1 => by
    rw [List.range_succ, List.flatMap_append, List.length_append, len_each L g m, List.flatMap_cons, List.flatMap_nil, List.append_nil, List.length_map, Nat.succ_mul]
theorem allW_len : ∀ (n : Nat), (allW n).length ≤ 42 ^ n
  | 0 => Nat.le_refl _
  | n + 1 => by
    have ih := allW_len n
    have h1 := len_each (allW n) (fun (a : Nat) (w : List Int) => (a : Int) :: w) 41
    unfold allW
    rw [List.length_cons, h1, Nat.pow_succ]
    have : 0 < 42 ^ n := Nat.pow_pos (by decide)
    omega
theorem adm_entries : ∀ {w : List Int}, isAdm w → w.sum ≤ 40 → ∀ x ∈ w, 0 ≤ x ∧ x ≤ 40
  | [], _, _, x, hx => by cases hx
  | a :: r, h, hs, x, hx => by
    have h1 := isAdm_pos h
    have h2 := isAdm_sum (isAdm_tail h)
    rw [List.sum_cons] at hs
    rcases List.mem_cons.1 hx with e | hx
    · subst e; omega
    · exact adm_entries (isAdm_tail h) (by omega) x hx
/-- Different admissible words of degree 40 at most. -/
theorem adm_count (L : List (List Int)) (hn : L.Nodup) (h : ∀ w ∈ L, isAdm w ∧ w.sum ≤ 40) : L.length ≤ 6000000000 := by
  have h1 := nodup_len L (allW 6) hn (fun w hw => allW_mem 6 w (isAdm_len (h w hw).1 (h w hw).2) (adm_entries (h w hw).1 (h w hw).2))
  have h2 := allW_len 6
  have h3 : 42 ^ 6 ≤ 6000000000 := by decide
  omega
end Go.Proofs.Ytldlpeohdindaaa
end
section
namespace Go.Proofs.Ytldlpeohdindaaa
open Go.RowKit
set_option maxRecDepth 100000
set_option linter.unusedVariables false

/-- V owns a row of m slice values VS 0, .., each of which owns the numbers Y i. -/
structure Fam (w : World) (B : Nat) (V : Value) (m : Nat) (VS : Nat → Value) (Y : Nat → List Int) : Prop where
  out : w.ownsRow B 46 1 V m ((List.range m).map VS)
  inn : ∀ i, i < m → w.ownsRow B 2 1 (VS i) (Y i).length ((Y i).map (Value.int .i64))

/-- The rows do not share memory. -/
def Sep (m : Nat) (VS : Nat → Value) : Prop := ∀ i j, i < m → j < m → i ≠ j → (VS i).ownBlock = none ∨ (VS i).ownBlock ≠ (VS j).ownBlock

theorem Fam.below {w w' : World} {B : Nat} {V : Value} {m : Nat} {VS : Nat → Value} {Y : Nat → List Int} (h : Fam w B V m VS Y) (k : Below w.heap.size w w') : Fam w' B V m VS Y :=
  ⟨own_below h.out k, fun i hi => own_below (h.inn i hi) k⟩

theorem Fam.drewN {w : World} {B : Nat} {V : Value} {m : Nat} {VS : Nat → Value} {Y : Nat → List Int} (h : Fam w B V m VS Y) (q : Nat) : Fam (w.drewN q) B V m VS Y := ⟨h.out, h.inn⟩

/-- What lies below C stays when all that lies below C stays. -/
theorem own_lowC {w w' : World} {B C : Nat} {v : Value} {n : Nat} {xs : List Value} {e : TypeId} {s : Nat} (h : w.ownsRow B e s v n xs) (hc : ∀ g, v.ownBlock = some g → g < C) (k : Below C w w') : w'.ownsRow B e s v n xs :=
  own_sameblock h fun g hg => k.block g (hc g hg)

theorem Fam.lowC {w w' : World} {B C : Nat} {V : Value} {m : Nat} {VS : Nat → Value} {Y : Nat → List Int} (h : Fam w B V m VS Y) (hV : ∀ g, V.ownBlock = some g → g < C) (hS : ∀ i, i < m → ∀ g, (VS i).ownBlock = some g → g < C) (k : Below C w w') : Fam w' B V m VS Y :=
  ⟨own_lowC h.out hV k, fun i hi => own_lowC (h.inn i hi) (hS i hi) k⟩

/-- The shape of a family's head. -/
theorem Fam.head {w : World} {B : Nat} {V : Value} {m : Nat} {VS : Nat → Value} {Y : Nat → List Int} (h : Fam w B V m VS Y) : ∃ a cap, V = .slice a m cap ∧ m ≤ maxLen ∧ (m = 0 ∨ ∃ b, a = some ⟨b, 0, none⟩ ∧ ∀ i, i < m → w.cell? ⟨b, i, none⟩ = some (VS i)) := by
  rcases h.out.2 with ⟨rfl, h0⟩ | ⟨g, cap, cur, rfl, hb, hg, h1, h2, h3, h4⟩
  · exact ⟨none, 0, by rw [h0], by rw [h0]; exact Nat.zero_le _, .inl h0⟩
  · refine ⟨_, cap, rfl, Nat.le_trans h1 h2, .inr ⟨g, rfl, fun i hi => ?_⟩⟩
    rw [h.out.cellAt i (by omega)]
    simp [hi]

theorem Fam.rd {w : World} {B : Nat} {V : Value} {m : Nat} {VS : Nat → Value} {Y : Nat → List Int} (h : Fam w B V m VS Y) (i : Nat) (hi : i < m) : RdI w (VS i) (Y i).length (fun j => (Y i)[j]?.getD 0) :=
  rd_of_own (h.inn i hi) rfl

theorem eqInt64SS_same (Va Vb : Value) (m : Nat) (Ba Bb : Nat) (VA VB : Nat → Value) (Y : Nat → List Int) (w : World) (ha : Fam w Ba Va m VA Y) (hb : Fam w Bb Vb m VB Y) :
    Calls Try.prog 19 #[Va, Vb] w fun e w' => e = .returned (.bool true) ∧ ∃ q, w' = w.drewN q := by
  obtain ⟨aa, capa, rfl, hm, hca⟩ := ha.head
  obtain ⟨ab, capb, rfl, _, hcb⟩ := hb.head
  unfold maxLen at hm
  have RA := Lib.hid ha.rd
  have RB := Lib.hid hb.rd
  clear ha hb
  by_cases h0 : m = 0
  · subst h0
    clear hca hcb RA RB
    go_enter Try.func19, Try.ntmps19
    go_wp2
    refine wp_loop_rounds 1 ?_
    rw [rounds_succ]
    go_wp2
    go_ret
    exact ⟨rfl, 0, rfl⟩
  · obtain ⟨ba, rfl, hca'⟩ := hca.resolve_left h0
    obtain ⟨bb, rfl, hcb'⟩ := hcb.resolve_left h0
    have hpos : 0 < m := by omega
    have HA := Lib.hid hca'
    have HB := Lib.hid hcb'
    clear hca hcb hca' hcb' h0
    go_enter Try.func19, Try.ntmps19
    go_wp2
    go_loopw [5] (fun i wr => ∃ k q : Nat, k ≤ m ∧ i = .int .i64 k ∧ Hid (wr = w.drewN q)) (fun i _ => m - (intOf i).toNat)
    case atStart => exact ⟨0, 0, by omega, rfl, Lib.hid rfl⟩
    case round =>
      obtain ⟨k, q, hk, rfl, hw⟩ := hrel
      by_cases hlt : k < m
      · have c1 : wr.cell? ⟨ba, k, none⟩ = some (VA k) := by rw [hw.out]; exact HA.out k hlt
        have c2 : wr.cell? ⟨bb, k, none⟩ = some (VB k) := by rw [hw.out]; exact HB.out k hlt
        have hlt' : (k : Int) < (m : Int) := by omega
        have E : ∀ n, Calls Try.prog 39 #[VA k, VB k] (wr.drewN n) fun e w' => e = .returned (.bool true) ∧ ∃ p, w' = (wr.drewN n).drewN p := by
          intro n
          have e1 : RdI (wr.drewN n) (VA k) (Y k).length (fun j => (Y k)[j]?.getD 0) := by rw [hw.out]; exact RA.out k hlt
          have e2 : RdI (wr.drewN n) (VB k) (Y k).length (fun j => (Y k)[j]?.getD 0) := by rw [hw.out]; exact RB.out k hlt
          exact eqInt64S_same _ _ _ _ _ e1 e2
        have E := Lib.hid E
        generalize VA k = va at c1 E
        generalize VB k = vb at c2 E
        go_wp2
        go_quiet ((go_at_call 39; exact Calls.quiet_of (E.out _)))
        go_wp2
        go_roundw
        case rel => exact ⟨k + 1, q + nq, by omega, by go_num, Lib.hid (by rw [hw.out]; exact World.drewN_drewN ..)⟩
        case measure => simp [intOf]; omega
      · go_wp2
        go_ret
        exact ⟨rfl, q, hw.out⟩

/-- The first number of row i, if the numbers k, k + 1, .. are laid into the rows one after the other. -/
def off (k : Int) (L : Nat → Nat) : Nat → Int
  | 0 => k
  | i + 1 => off k L i + (L i : Int)
theorem off_mono (k : Int) (L : Nat → Nat) (i j : Nat) : off k L i ≤ off k L (i + j) := by
  induction j with
  | zero => exact Int.le_refl _
  | succ j ih => rw [← Nat.add_assoc, off]; omega
theorem off_le (k : Int) (L : Nat → Nat) (i m : Nat) (h : i ≤ m) : off k L i ≤ off k L m := by
  obtain ⟨j, rfl⟩ : ∃ j, m = i + j := ⟨m - i, by omega⟩
  exact off_mono k L i j
theorem off_low (k : Int) (L : Nat → Nat) (i : Nat) : k ≤ off k L i := by
  have h := off_mono k L 0 i
  rw [Nat.zero_add] at h
  exact h

/-- The rows behind the marking of the first j. -/
def mkd (k : Int) (Y : Nat → List Int) (j : Nat) (i : Nat) : List Int := if i < j then marks (off k (fun i => (Y i).length) i) (Y i).length else Y i
theorem mkd_len (k : Int) (Y : Nat → List Int) (j i : Nat) : (mkd k Y j i).length = (Y i).length := by
  unfold mkd
  split
  · exact marks_length _ _
  · rfl

theorem markInt64SS_own (V : Value) (m : Nat) (B : Nat) (VS : Nat → Value) (Y : Nat → List Int) (w : World) (h : Fam w B V m VS Y) (hs : Sep m VS)
    (hk : off 1 (fun i => (Y i).length) m ≤ 1152921504606846976) :
    Calls Try.prog 20 #[V, .int .i64 1] w fun e w' => e = .returned (.int .i64 (off 1 (fun i => (Y i).length) m)) ∧ Fam w' B V m VS (mkd 1 Y m) ∧ Below B w w' := by
  obtain ⟨a, cap, hV, hm, hc⟩ := h.head
  unfold maxLen at hm
  by_cases h0 : m = 0
  · subst h0
    subst hV
    clear hc
    have H := Lib.hid h
    go_enter Try.func20, Try.ntmps20
    go_wp2
    refine wp_loop_rounds 1 ?_
    rw [rounds_succ]
    go_wp2
    go_ret
    exact ⟨rfl, ⟨H.out.out, fun i hi => absurd hi (by omega)⟩, Below.refl _ _⟩
  · obtain ⟨b, rfl, hc'⟩ := hc.resolve_left h0
    have hB0 : B ≤ b := by
      have := h.out.lt b (by rw [hV]; rfl)
      exact this.1
    have HK := Lib.hid hk
    have HS := Lib.hid hs
    have H := Lib.hid h
    have HV := Lib.hid hV
    generalize hL : (fun i => (Y i).length) = L at hk ⊢
    have HL := Lib.hid hL
    clear hL hc hc' h0 hs h
    rw [HV.out]
    clear hV
    go_enter Try.func20, Try.ntmps20
    go_wp2
    go_loopw [1, 5] (fun c i wr => ∃ j : Nat, j ≤ m ∧ i = .int .i64 j ∧ c = .int .i64 (off 1 L j) ∧ Hid (Fam wr B V m VS (mkd 1 Y j)) ∧ Hid (Below B w wr)) (fun _ i _ => m - (intOf i).toNat)
    case atStart => exact ⟨0, by omega, rfl, rfl, Lib.hid ⟨H.out.out, fun i hi => by rw [show mkd 1 Y 0 i = Y i by unfold mkd; rw [if_neg (by omega)]]; exact H.out.inn i hi⟩, Lib.hid (Below.refl _ _)⟩
    case round =>
      obtain ⟨j, hj, rfl, rfl, hF, hB⟩ := hrel
      by_cases hlt : j < m
      · have hlt' : (j : Int) < (m : Int) := by omega
        have c1 : wr.cell? ⟨b, j, none⟩ = some (VS j) := by
          obtain ⟨a', cap', hV', _, hc'⟩ := hF.out.head
          rw [HV.out] at hV'
          cases hV'
          obtain ⟨b', e, hc''⟩ := hc'.resolve_left (by omega)
          cases e
          exact hc'' j hlt
        have hlow := off_low 1 L j
        have hup := off_le 1 L (j + 1) m (by omega)
        have hsm : off 1 L m ≤ 1152921504606846976 := by rw [← HL.out]; exact HK.out
        have hnx : off 1 L (j + 1) = off 1 L j + (L j : Int) := rfl
        have hY : mkd 1 Y j j = Y j := by unfold mkd; rw [if_neg (by omega)]
        have hLj : (Y j).length = L j := by rw [← HL.out]
        have hin := hF.out.inn j hlt
        rw [hY, hLj] at hin
        have M := Lib.hid (markInt64S_own (VS j) (L j) _ (off 1 L j) B wr (by omega) (by omega) (by omega) hin)
        have NX : Hid (off 1 L (j + 1) = off 1 L j + (L j : Int)) := Lib.hid hnx
        clear hin hY hLj hnx hup hlow hsm hk
        generalize hvj : VS j = vj at c1 M
        have HVJ := Lib.hid hvj
        clear hvj
        go_wp2_with fail
        refine M.out.mono ?_
        rintro e w2 ⟨rfl, ho2, hg2, hs2⟩
        have F2 : Hid (Fam w2 B V m VS (mkd 1 Y (j + 1))) := by
          refine Lib.hid ⟨?_, fun i hi => ?_⟩
          · refine hF.out.out.kept hg2 ?_
            rw [← HVJ.out]
            exact own_types hF.out.out (hF.out.inn j hlt) (by decide)
          · by_cases e : i = j
            · subst e
              have e2 : mkd 1 Y (i + 1) i = marks (off 1 L i) (L i) := by unfold mkd; rw [if_pos (by omega), HL.out, ← HL.out]
              rw [e2, marks_length, HVJ.out]
              exact ho2
            · have e2 : mkd 1 Y (j + 1) i = mkd 1 Y j i := by
                unfold mkd
                by_cases h1 : i < j
                · rw [if_pos h1, if_pos (by omega)]
                · rw [if_neg h1, if_neg (by omega)]
              rw [e2]
              refine (hF.out.inn i hi).kept hg2 ?_
              rw [← HVJ.out]
              exact HS.out i j hi hlt e
        have hsz : B ≤ wr.heap.size := by
          have h1 := (hF.out.out.lt b (by rw [HV.out]; rfl))
          omega
        have B2 : Hid (Below B w w2) := Lib.hid (hB.out.grown hg2 hsz (fun k hk2 => ((hF.out.inn j hlt).lt k (by rw [HVJ.out]; exact hk2.symm ▸ rfl)).1))
        clear hg2 ho2 hs2 hF hB M
        go_wp2
        go_roundw
        case rel => exact ⟨j + 1, by omega, by go_num, by rw [NX.out], F2, B2⟩
        case measure => simp [intOf]; omega
      · obtain rfl : j = m := by omega
        go_wp2
        go_ret
        exact ⟨rfl, by rw [← HV.out]; exact hF.out, hB.out⟩

theorem heldInt64SS_own (V : Value) (m : Nat) (B : Nat) (VS : Nat → Value) (Y : Nat → List Int) (w : World) (h : Fam w B V m VS (mkd 1 Y m))
    (hk : off 1 (fun i => (Y i).length) m ≤ 1152921504606846976) :
    Calls Try.prog 21 #[V, .int .i64 1] w fun e w' => e = .returned (.int .i64 (off 1 (fun i => (Y i).length) m)) ∧ w = w' := by
  obtain ⟨a, cap, rfl, hm, hc⟩ := h.head
  unfold maxLen at hm
  by_cases h0 : m = 0
  · subst h0
    clear hc h
    go_enter Try.func21, Try.ntmps21
    go_wp2
    refine wp_loop_rounds 1 ?_
    rw [rounds_succ]
    go_wp2
    go_ret
    exact ⟨rfl, rfl⟩
  · obtain ⟨b, rfl, hc'⟩ := hc.resolve_left h0
    have HK := Lib.hid hk
    have H := Lib.hid h
    have HC := Lib.hid hc'
    generalize hL : (fun i => (Y i).length) = L at hk ⊢
    have HL := Lib.hid hL
    clear hL hc hc' h0 h
    go_enter Try.func21, Try.ntmps21
    go_wp2
    go_loop [1, 5] (fun c i => ∃ j : Nat, j ≤ m ∧ i = .int .i64 j ∧ c = .int .i64 (off 1 L j)) (fun _ i => m - (intOf i).toNat)
    case atStart => exact ⟨0, by omega, rfl, rfl⟩
    case round =>
      obtain ⟨j, hj, rfl, rfl⟩ := hrel
      by_cases hlt : j < m
      · have hlt' : (j : Int) < (m : Int) := by omega
        have c1 := HC.out j hlt
        have hlow := off_low 1 L j
        have hup := off_le 1 L (j + 1) m (by omega)
        have hsm : off 1 L m ≤ 1152921504606846976 := by rw [← HL.out]; exact HK.out
        have hnx : off 1 L (j + 1) = off 1 L j + (L j : Int) := rfl
        have hY : mkd 1 Y m j = marks (off 1 L j) (L j) := by unfold mkd; rw [if_pos hlt, ← HL.out]
        have hin := H.out.inn j hlt
        rw [hY, marks_length] at hin
        have M := Lib.hid (heldInt64S_own (VS j) (L j) (off 1 L j) B w (by omega) (by omega) (by omega) hin)
        have NX : Hid (off 1 L (j + 1) = off 1 L j + (L j : Int)) := Lib.hid hnx
        have hge : ¬ off 1 L j + (L j : Int) < 0 := by omega
        clear hin hY hnx hup hlow hsm hk
        generalize VS j = vj at c1 M
        go_wp2_with (go_at_call 41; refine M.out.mono ?_; rintro e w2 ⟨rfl, rfl⟩)
        go_round
        case rel => exact ⟨j + 1, by omega, by go_num, by rw [NX.out]⟩
        case measure => simp [intOf]; omega
      · obtain rfl : j = m := by omega
        go_wp2
        go_ret
        exact ⟨rfl, rfl⟩
end Go.Proofs.Ytldlpeohdindaaa
end
