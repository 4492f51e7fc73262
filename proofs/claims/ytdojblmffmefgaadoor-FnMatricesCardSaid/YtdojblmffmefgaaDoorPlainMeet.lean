/-
  Meets and complements: the list's way and the array's way find the same masks. No program in sight.
-/
import Derived.Test.YtdojblmffmefgaaDoorDKerOf
import Derived.Test.YtdojblmffmefgaaDoorDSum
namespace Go.Proofs.YtdojblmffmefgaaDoor
set_option linter.unusedVariables false

/-- The list's way behind the first i rows of any kind. -/
def mruns (Q : Nat → TR) : Nat → KS
  | 0 => ⟨[], [], []⟩
  | i + 1 => kst (mruns Q i) (Q i)

structure MOk (Q : Nat → TR) (i : Nat) : Prop where
  ok : KOk (mruns Q i)
  ol : ∀ o ∈ (mruns Q i).O, o < 2 ^ 60
  all : ∀ C : Nat → Nat → Prop, Clo C → (∀ k, k < (mruns Q i).D.length → C (fam (mruns Q i).D (mruns Q i).M k).1 (fam (mruns Q i).D (mruns Q i).M k).2) → (∀ o ∈ (mruns Q i).O, C 0 o) → ∀ j, j < i → C (Q j).1 (Q j).2
  sound : ∀ C : Nat → Nat → Prop, Clo C → (∀ j, j < i → C (Q j).1 (Q j).2) → (∀ k, k < (mruns Q i).D.length → C (fam (mruns Q i).D (mruns Q i).M k).1 (fam (mruns Q i).D (mruns Q i).M k).2) ∧ ∀ o ∈ (mruns Q i).O, C 0 o

theorem mruns_ok (Q : Nat → TR) (n : Nat) (hQ : ∀ j, j < n → (Q j).1 < 2 ^ 60 ∧ (Q j).2 < 2 ^ 60) : ∀ i, i ≤ n → MOk Q i := by
  intro i
  induction i with
  | zero => intro _; exact ⟨KOk.nil, fun o ho => (by simp [mruns] at ho), fun C _ _ _ j hj => by omega, fun C _ _ => ⟨fun k hk => (by simp [mruns] at hk), fun o ho => (by simp [mruns] at ho)⟩⟩
  | succ i ih =>
    intro hi
    have h := ih (by omega)
    obtain ⟨q1, q2⟩ := hQ i (by omega)
    have hok := h.ok.step (Q i) q1 q2
    obtain ⟨b1, b2⟩ := rml_lt h.ok (Q i) q1 q2
    by_cases h0 : (rml (mruns Q i).D (mruns Q i).M (Q i)).1 = 0
    · have e : mruns Q (i + 1) = ⟨(mruns Q i).D, (mruns Q i).M, (mruns Q i).O ++ [(rml (mruns Q i).D (mruns Q i).M (Q i)).2]⟩ := kst_zero h0
      refine ⟨hok, ?_, ?_, ?_⟩
      · rw [e]
        intro o ho
        rcases List.mem_append.1 ho with m | m
        · exact h.ol o m
        · rw [List.mem_singleton] at m; rw [m]; exact b2
      · rw [e]
        intro C hC hr hO j hj
        by_cases ej : j = i
        · subst ej
          refine hC.back hr (Q j) (p := pvt (mruns Q j).D) ?_
          have := hO _ (List.mem_append_right _ (List.mem_singleton.2 rfl))
          have e2 : (rmp (fam (mruns Q j).D (mruns Q j).M) (pvt (mruns Q j).D) (Q j) (mruns Q j).D.length).1 = 0 := h0
          rw [e2]
          exact this
        · exact h.all C hC hr (fun o ho => hO o (List.mem_append_left _ ho)) j (by omega)
      · rw [e]
        intro C hC hq
        obtain ⟨s1, s2⟩ := h.sound C hC (fun j hj => hq j (by omega))
        refine ⟨s1, fun o ho => ?_⟩
        rcases List.mem_append.1 ho with m | m
        · exact s2 o m
        · rw [List.mem_singleton] at m
          rw [m]
          have := hC.rem s1 (p := pvt (mruns Q i).D) (Q i) (hq i (by omega))
          have e2 : (rmp (fam (mruns Q i).D (mruns Q i).M) (pvt (mruns Q i).D) (Q i) (mruns Q i).D.length).1 = 0 := h0
          rw [e2] at this
          exact this
    · have e : mruns Q (i + 1) = ⟨(mruns Q i).D ++ [(rml (mruns Q i).D (mruns Q i).M (Q i)).1], (mruns Q i).M ++ [(rml (mruns Q i).D (mruns Q i).M (Q i)).2], (mruns Q i).O⟩ := kst_more h0
      refine ⟨hok, ?_, ?_, ?_⟩
      · rw [e]; exact h.ol
      · rw [e]
        intro C hC hr hO j hj
        simp only [List.length_append, List.length_singleton] at hr
        have hr1 : ∀ k, k < (mruns Q i).D.length → C (fam (mruns Q i).D (mruns Q i).M k).1 (fam (mruns Q i).D (mruns Q i).M k).2 := fun k hk => by
          have := hr k (by omega)
          rw [fam_app h.ok.len, if_pos hk] at this
          exact this
        by_cases ej : j = i
        · subst ej
          refine hC.back hr1 (Q j) (p := pvt (mruns Q j).D) ?_
          have := hr (mruns Q j).D.length (by omega)
          rw [fam_app h.ok.len, if_neg (by omega), if_pos rfl] at this
          exact this
        · exact h.all C hC hr1 hO j (by omega)
      · rw [e]
        intro C hC hq
        obtain ⟨s1, s2⟩ := h.sound C hC (fun j hj => hq j (by omega))
        refine ⟨fun k hk => ?_, s2⟩
        simp only [List.length_append, List.length_singleton] at hk
        rw [fam_app h.ok.len]
        by_cases hlt : k < (mruns Q i).D.length
        · rw [if_pos hlt]; exact s1 k hlt
        · rw [if_neg hlt, if_pos (by omega)]
          exact hC.rem s1 (p := pvt (mruns Q i).D) (Q i) (hq i (by omega))

/-- The array's way: what it makes of a predicate. -/
theorem addN_sound {C : Nat → Nat → Prop} (hC : Clo C) {S Q : Nat → TR} (hS : ∀ k, k < 60 → C (S k).1 (S k).2) (n : Nat) (hQ : ∀ j, j < n → C (Q j).1 (Q j).2) :
    (∀ k, k < 60 → C (addN S Q n k).1 (addN S Q n k).2) ∧ ∀ o ∈ tzs (lft S Q) n, C 0 o := by
  induction n with
  | zero => exact ⟨hS, fun o ho => (by simp [tzs] at ho)⟩
  | succ n ih =>
    obtain ⟨s1, s2⟩ := ih (fun j hj => hQ j (by omega))
    refine ⟨Clo.addS' hC s1 (Q n) (hQ n (by omega)), fun o ho => ?_⟩
    rw [tzs] at ho
    rcases List.mem_append.1 ho with m | m
    · exact s2 o m
    · split at m
      · rename_i h0
        rw [List.mem_singleton] at m
        have := hC.rem s1 (p := fun j => j) (Q n) (hQ n (by omega))
        rw [← rmd_rmp] at this
        rw [m, ← h0]
        exact this
      · simp at m
theorem addN_zeros {S Q : Nat → TR} (hp : Piv S) (hz : ∀ k, k < 60 → (S k).1 = 0 → (S k).2 = 0) (n : Nat) (hQ : ∀ j, j < n → (Q j).1 < 2 ^ 60 ∧ (Q j).2 < 2 ^ 60) (j : Nat) (hj : j ≤ n) : ∀ k, k < 60 → (addN S Q j k).1 = 0 → (addN S Q j k).2 = 0 := by
  induction j with
  | zero => exact hz
  | succ j ih => exact addS_zeros (addN_piv hp n hQ j (by omega)) (ih (by omega)) (Q j) (hQ j (by omega)).1 (hQ j (by omega)).2
theorem addN_was {C : Nat → Nat → Prop} (hC : Clo C) {S Q : Nat → TR} (hp : Piv S) (hz : ∀ k, k < 60 → (S k).1 = 0 → (S k).2 = 0) (n : Nat) (hb : ∀ j, j < n → (Q j).1 < 2 ^ 60 ∧ (Q j).2 < 2 ^ 60)
    (hS : ∀ k, k < 60 → C (addN S Q n k).1 (addN S Q n k).2) (hO : ∀ o ∈ tzs (lft S Q) n, C 0 o) : (∀ k, k < 60 → C (S k).1 (S k).2) ∧ ∀ j, j < n → C (Q j).1 (Q j).2 := by
  induction n with
  | zero => exact ⟨hS, fun j hj => by omega⟩
  | succ n ih =>
    have hP := addN_piv hp (n + 1) hb n (by omega)
    have hZ := addN_zeros hp hz (n + 1) hb n (by omega)
    have hO1 : ∀ o ∈ tzs (lft S Q) n, C 0 o := fun o ho => hO o (by rw [tzs]; exact List.mem_append_left _ ho)
    by_cases h0 : (lft S Q n).1 = 0
    · have e : addN S Q (n + 1) = addN S Q n := addS_zero h0
      rw [e] at hS
      obtain ⟨s1, s2⟩ := ih (fun j hj => hb j (by omega)) hS hO1
      refine ⟨s1, fun j hj => ?_⟩
      by_cases ej : j = n
      · subst ej
        have := hO (lft S Q j).2 (by rw [tzs, if_pos h0]; simp)
        refine hC.back hS (Q j) (p := fun j => j) ?_
        rw [← rmd_rmp]
        have e2 : (rmd (addN S Q j) (Q j) 60).1 = 0 := h0
        rw [e2]
        exact this
      · exact s2 j (by omega)
    · obtain ⟨t1, t2⟩ := Clo.wasS hC hP hZ (Q n) (hb n (by omega)).1 (hb n (by omega)).2 h0 hS
      obtain ⟨s1, s2⟩ := ih (fun j hj => hb j (by omega)) t1 hO1
      refine ⟨s1, fun j hj => ?_⟩
      by_cases ej : j = n
      · subst ej; exact t2
      · exact s2 j (by omega)
theorem tzs_lt {S Q : Nat → TR} (hp : Piv S) (n : Nat) (hb : ∀ j, j < n → (Q j).1 < 2 ^ 60 ∧ (Q j).2 < 2 ^ 60) : ∀ j, j ≤ n → ∀ o ∈ tzs (lft S Q) j, o < 2 ^ 60 := by
  intro j
  induction j with
  | zero => intro _ o ho; simp [tzs] at ho
  | succ j ih =>
    intro hj o ho
    rw [tzs] at ho
    rcases List.mem_append.1 ho with m | m
    · exact ih (by omega) o m
    · split at m
      · rw [List.mem_singleton] at m
        rw [m]
        exact (rmd_lt (addN_piv hp n hb j (by omega)) (Q j) (hb j (by omega)).1 (hb j (by omega)).2 60 (Nat.le_refl _)).2
      · simp at m

/-- The masks that vanish span the meet. -/
theorem meet_span {R : Nat → TR} {p : Nat → Nat} {n : Nat} (fe : FE R p n) (hz : ∀ k, k < n → (R k).1 = 0 → (R k).2 = 0) (O A B : List Nat)
    (all : ∀ C : Nat → Nat → Prop, Clo C → (∀ k, k < n → C (R k).1 (R k).2) → (∀ o ∈ O, C 0 o) → (∀ a ∈ A, C a a) ∧ ∀ b ∈ B, C b 0)
    (sound : ∀ C : Nat → Nat → Prop, Clo C → (∀ a ∈ A, C a a) → (∀ b ∈ B, C b 0) → ∀ o ∈ O, C 0 o) (v : Nat) : InL O v ↔ InL A v ∧ InL B v := by
  constructor
  · intro h
    have hC : Clo (fun x t => InL A t ∧ InL B (x ^^^ t)) := by
      refine ⟨⟨InL.zero A, InL.zero B⟩, fun a b c d h k => ⟨h.1.xor k.1, ?_⟩⟩
      have := h.2.xor k.2
      rw [xor4] at this
      exact this
    have hs := sound _ hC (fun a ha => ⟨InL.mem ha, by rw [Nat.xor_self]; exact InL.zero B⟩) (fun b hb => ⟨InL.zero A, by rw [Nat.xor_zero]; exact InL.mem hb⟩)
    refine InL.ind (C := fun v => InL A v ∧ InL B v) ⟨InL.zero A, InL.zero B⟩ (fun a b h k => ⟨h.1.xor k.1, h.2.xor k.2⟩) (fun o ho => ?_) h
    have := hs o ho
    rw [Nat.zero_xor] at this
    exact this
  · rintro ⟨h1, h2⟩
    have hC : Clo (fun x t => ∃ m, x = comb (fun k => (R k).1) n m ∧ InL O (t ^^^ comb (fun k => (R k).2) n m)) := by
      refine ⟨⟨0, (comb_zero _ _).symm, by rw [comb_zero]; exact InL.zero O⟩, ?_⟩
      rintro a b c d ⟨m, e1, k1⟩ ⟨m2, e2, k2⟩
      refine ⟨m ^^^ m2, by rw [comb_xor, e1, e2], ?_⟩
      have := k1.xor k2
      rw [xor4, ← comb_xor] at this
      exact this
    obtain ⟨a1, a2⟩ := all _ hC (fun k hk => ⟨2 ^ k, (comb_pow (fun k => (R k).1) n k hk).symm, by rw [comb_pow (fun k => (R k).2) n k hk, Nat.xor_self]; exact InL.zero O⟩) (fun o ho => ⟨0, (comb_zero _ _).symm, by rw [comb_zero, Nat.xor_zero]; exact InL.mem ho⟩)
    have p1 := InL.ind (C := fun v => ∃ m, v = comb (fun k => (R k).1) n m ∧ InL O (v ^^^ comb (fun k => (R k).2) n m)) hC.1 (fun a b h k => hC.2 a a b b h k) a1 h1
    have p2 := InL.ind (C := fun v => ∃ m, v = comb (fun k => (R k).1) n m ∧ InL O (0 ^^^ comb (fun k => (R k).2) n m)) hC.1 (fun a b h k => by have := hC.2 a 0 b 0 h k; rw [Nat.xor_self 0] at this; exact this) a2 h2
    obtain ⟨m, e, k⟩ := hC.2 _ _ _ _ p1 p2
    rw [Nat.xor_self] at e
    have h0 := fe.indep m n (Nat.le_refl _) (fun i hi _ => by rw [← e]; simp)
    rw [comb_none (fun k => (R k).2) n m (fun i hi hb => hz i hi (h0 i hi hb)), Nat.xor_zero, Nat.xor_zero] at k
    exact k

/-- The rows that the list's way joins for a meet. -/
def mrow (L M : List Nat) (i : Nat) : TR := if i < L.length then (L.getD i 0, L.getD i 0) else (M.getD (i - L.length) 0, 0)
theorem mrow_lt {L M : List Nat} (hL : ∀ x ∈ L, x < 2 ^ 60) (hM : ∀ x ∈ M, x < 2 ^ 60) (j : Nat) (hj : j < L.length + M.length) : (mrow L M j).1 < 2 ^ 60 ∧ (mrow L M j).2 < 2 ^ 60 := by
  unfold mrow
  split
  · rename_i h; exact ⟨getD_lt hL j h, getD_lt hL j h⟩
  · rename_i h; exact ⟨getD_lt hM _ (by omega), Nat.two_pow_pos 60⟩
theorem mrow_all {C : Nat → Nat → Prop} {L M : List Nat} : (∀ j, j < L.length + M.length → C (mrow L M j).1 (mrow L M j).2) ↔ (∀ a ∈ L, C a a) ∧ ∀ b ∈ M, C b 0 := by
  constructor
  · intro h
    refine ⟨fun a ha => ?_, fun b hb => ?_⟩
    · obtain ⟨i, hi, rfl⟩ := List.getElem_of_mem ha
      have := h i (by omega)
      unfold mrow at this
      rw [if_pos hi] at this
      simpa [List.getD_eq_getElem?_getD, hi] using this
    · obtain ⟨i, hi, rfl⟩ := List.getElem_of_mem hb
      have := h (L.length + i) (by omega)
      unfold mrow at this
      rw [if_neg (by omega), Nat.add_sub_cancel_left] at this
      simpa [List.getD_eq_getElem?_getD, hi] using this
  · rintro ⟨h1, h2⟩ j hj
    unfold mrow
    split
    · rename_i h
      refine h1 _ ?_
      rw [List.getD_eq_getElem?_getD, List.getElem?_eq_getElem h]; exact List.getElem_mem h
    · rename_i h
      refine h2 _ ?_
      rw [List.getD_eq_getElem?_getD, List.getElem?_eq_getElem (show j - L.length < M.length by omega)]; exact List.getElem_mem _

def mspec (A B : List Nat) : List Nat := (mruns (mrow (putAll [] A) (putAll [] B)) ((putAll [] A).length + (putAll [] B).length)).O
def mimpl (A B : List Nat) : List Nat := tzs (lft (addN (fun _ => (0, 0)) (fun i => (A.getD i 0, A.getD i 0)) A.length) (fun i => (B.getD i 0, 0))) B.length

theorem mspec_ok {A B : List Nat} (hA : ∀ x ∈ A, x < 2 ^ 60) (hB : ∀ x ∈ B, x < 2 ^ 60) : (∀ o ∈ mspec A B, o < 2 ^ 60) ∧ ∀ v, InL (mspec A B) v ↔ InL A v ∧ InL B v := by
  have hL := putAll_lt hA
  have hM := putAll_lt hB
  have h := mruns_ok (mrow (putAll [] A) (putAll [] B)) ((putAll [] A).length + (putAll [] B).length) (mrow_lt hL hM) _ (Nat.le_refl _)
  refine ⟨h.ol, fun v => ?_⟩
  rw [← putAll_span hA v, ← putAll_span hB v]
  refine meet_span h.ok.fe (fun k hk e => absurd e (h.ok.pos k hk)) _ _ _ (fun C hC hr hO => mrow_all.1 (h.all C hC hr hO)) (fun C hC h1 h2 => (h.sound C hC (mrow_all.2 ⟨h1, h2⟩)).2) v
theorem getD_all {C : Nat → Prop} {L : List Nat} : (∀ j, j < L.length → C (L.getD j 0)) ↔ ∀ a ∈ L, C a := by
  constructor
  · intro h a ha
    obtain ⟨i, hi, rfl⟩ := List.getElem_of_mem ha
    have := h i hi
    simpa [List.getD_eq_getElem?_getD, hi] using this
  · intro h j hj
    refine h _ ?_
    rw [List.getD_eq_getElem?_getD, List.getElem?_eq_getElem hj]; exact List.getElem_mem hj
theorem mimpl_ok {A B : List Nat} (hA : ∀ x ∈ A, x < 2 ^ 60) (hB : ∀ x ∈ B, x < 2 ^ 60) : (∀ o ∈ mimpl A B, o < 2 ^ 60) ∧ ∀ v, InL (mimpl A B) v ↔ InL A v ∧ InL B v := by
  have bA : ∀ j, j < A.length → ((fun i => ((A.getD i 0, A.getD i 0) : TR)) j).1 < 2 ^ 60 ∧ ((fun i => ((A.getD i 0, A.getD i 0) : TR)) j).2 < 2 ^ 60 := fun j hj => ⟨getD_lt hA j hj, getD_lt hA j hj⟩
  have bB : ∀ j, j < B.length → ((fun i => ((B.getD i 0, 0) : TR)) j).1 < 2 ^ 60 ∧ ((fun i => ((B.getD i 0, 0) : TR)) j).2 < 2 ^ 60 := fun j hj => ⟨getD_lt hB j hj, Nat.two_pow_pos 60⟩
  have pA := addN_piv piv_zero A.length bA A.length (Nat.le_refl _)
  have zA := addN_zeros piv_zero (fun _ _ _ => rfl) A.length bA A.length (Nat.le_refl _)
  have pB := addN_piv pA B.length bB B.length (Nat.le_refl _)
  have zB := addN_zeros pA zA B.length bB B.length (Nat.le_refl _)
  refine ⟨tzs_lt pA B.length bB B.length (Nat.le_refl _), fun v => ?_⟩
  refine meet_span pB.fe zB _ A B (fun C hC hr hO => ?_) (fun C hC h1 h2 => ?_) v
  · obtain ⟨s1, s2⟩ := addN_was hC pA zA B.length bB hr hO
    refine ⟨?_, getD_all.1 s2⟩
    have eqs := (addN_sound (C := fun a b => a = b) ⟨rfl, fun a b c d h k => by rw [h, k]⟩ (S := fun _ => (0, 0)) (Q := fun i => (A.getD i 0, A.getD i 0)) (fun k hk => rfl) A.length (fun j hj => rfl)).2
    exact getD_all.1 (addN_was hC piv_zero (fun _ _ _ => rfl) A.length bA s1 (fun o ho => by rw [← eqs o ho]; exact hC.1)).2
  · exact (addN_sound hC (addN_sound hC (S := fun _ => (0, 0)) (fun k hk => hC.1) A.length (getD_all.2 h1)).1 B.length (getD_all.2 h2)).2

/-- Both ways to the meet. -/
theorem meet_same {A B : List Nat} (hA : ∀ x ∈ A, x < 2 ^ 60) (hB : ∀ x ∈ B, x < 2 ^ 60) : putAll [] (mspec A B) = putAll [] (mimpl A B) :=
  putAll_unique (mspec_ok hA hB).1 (mimpl_ok hA hB).1 fun v => by rw [(mspec_ok hA hB).2 v, (mimpl_ok hA hB).2 v]

/-- Complements: the indices at which something remains. -/
def cidx (T : Nat → Nat) : Nat → List Nat
  | 0 => []
  | i + 1 => cidx T i ++ (if T i ≠ 0 then [i] else [])
theorem cidx_len (T : Nat → Nat) (n : Nat) : (cidx T n).length ≤ n := by
  induction n with
  | zero => exact Nat.le_refl _
  | succ n ih => rw [cidx]; split <;> simp <;> omega
theorem cidx_congr {T U : Nat → Nat} (n : Nat) (h : ∀ i, i < n → T i = U i) : cidx T n = cidx U n := by
  induction n with
  | zero => rfl
  | succ n ih => rw [cidx, cidx, ih (fun i hi => h i (by omega)), h n (by omega)]
theorem take_getD (B : List Nat) (i j : Nat) (hi : i ≤ B.length) (h : j < i) : (B.take i).getD j 0 = B.getD j 0 := by
  rw [List.getD_eq_getElem?_getD, List.getD_eq_getElem?_getD, List.getElem?_take_of_lt h]
theorem addN_congr {S Q P : Nat → TR} (n : Nat) (h : ∀ i, i < n → Q i = P i) : addN S Q n = addN S P n := by
  induction n with
  | zero => rfl
  | succ n ih => rw [addN, addN, ih (fun i hi => h i (by omega)), h n (by omega)]
/-- What remains of the row i of B. -/
theorem lft_wo {A B : List Nat} (hA : ∀ x ∈ A, x < 2 ^ 60) (hB : ∀ x ∈ B, x < 2 ^ 60) (i : Nat) (hi : i < B.length) : (lft (spaceL A) (fun i => (B.getD i 0, 0)) i).1 = wo (putAll (putAll [] A) (B.take i)) (B.getD i 0) := by
  have e := rowsK_two hA (mem_takeL hB i)
  have l : (B.take i).length = i := by rw [List.length_take]; omega
  rw [l] at e
  have e2 : addN (spaceL A) (fun j => ((B.take i).getD j 0, 0)) i = addN (spaceL A) (fun j => (B.getD j 0, 0)) i := addN_congr i fun j hj => by rw [take_getD B i j (by omega) hj]
  rw [e2] at e
  have p := addN_piv (spaceL_piv hA) B.length (R := fun j => (B.getD j 0, 0)) (fun j hj => ⟨getD_lt hB j hj, Nat.two_pow_pos 60⟩) i (by omega)
  unfold lft
  rw [rmd_wo p _ 60 (Nat.le_refl _), e]
theorem put_same {L : List Nat} {x : Nat} (h : wo L x = 0) : put L x = L := by unfold put; rw [if_pos h]
end Go.Proofs.YtdojblmffmefgaaDoor
