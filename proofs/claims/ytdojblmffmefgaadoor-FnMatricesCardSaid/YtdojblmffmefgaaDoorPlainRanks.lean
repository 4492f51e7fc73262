/-
  Kernels, inverses, transposes: their ranks. No program in sight.
-/
import Derived.Test.YtdojblmffmefgaaDoorPlainRank
import Derived.Test.YtdojblmffmefgaaDoorPlainRun
namespace Go.Proofs.YtdojblmffmefgaaDoor
set_option linter.unusedVariables false

/-- What the list's way keeps tells the sums that vanish. -/
theorem span_all {R : Nat → TR} {p : Nat → Nat} {n : Nat} (fe : FE R p n) (hz : ∀ k, k < n → (R k).1 = 0 → (R k).2 = 0) (O : List Nat) (Q : Nat → TR) (N : Nat)
    (all : ∀ C : Nat → Nat → Prop, Clo C → (∀ k, k < n → C (R k).1 (R k).2) → (∀ o ∈ O, C 0 o) → ∀ j, j < N → C (Q j).1 (Q j).2) (x : Nat) (h0 : comb (fun j => (Q j).1) N x = 0) : InL O (comb (fun j => (Q j).2) N x) := by
  have hC : Clo (fun x t => ∃ m, x = comb (fun k => (R k).1) n m ∧ InL O (t ^^^ comb (fun k => (R k).2) n m)) := by
    refine ⟨⟨0, (comb_zero _ _).symm, by rw [comb_zero]; exact InL.zero O⟩, ?_⟩
    rintro a b c d ⟨m, e1, k1⟩ ⟨m2, e2, k2⟩
    refine ⟨m ^^^ m2, by rw [comb_xor, e1, e2], ?_⟩
    have := k1.xor k2
    rw [xor4, ← comb_xor] at this
    exact this
  have a := all _ hC (fun k hk => ⟨2 ^ k, (comb_pow (fun k => (R k).1) n k hk).symm, by rw [comb_pow (fun k => (R k).2) n k hk, Nat.xor_self]; exact InL.zero O⟩) (fun o ho => ⟨0, (comb_zero _ _).symm, by rw [comb_zero, Nat.xor_zero]; exact InL.mem ho⟩)
  obtain ⟨m, e, k⟩ := hC.comb (fun j => (Q j).1) (fun j => (Q j).2) N x a
  rw [h0] at e
  have hi := fe.indep m n (Nat.le_refl _) (fun i hi _ => by rw [← e]; simp)
  rwa [comb_none (fun k => (R k).2) n m (fun i hi2 hb => hz i hi2 (hi i hi2 hb)), Nat.xor_zero] at k

theorem comb_pows (n x : Nat) (h : x < 2 ^ n) : comb (fun j => 2 ^ j) n x = x := by
  apply Nat.eq_of_testBit_eq
  intro q
  have key : ∀ m, (comb (fun j => 2 ^ j) m x).testBit q = (decide (q < m) && x.testBit q) := by
    intro m
    induction m with
    | zero => simp [comb]
    | succ m ih =>
      rw [comb_succ, Nat.testBit_xor, ih]
      by_cases e : q = m
      · subst e
        cases hb : x.testBit q
        · simp
        · simp [Nat.testBit_two_pow_self]
      · have h2 : ((if x.testBit m = true then 2 ^ m else 0 : Nat)).testBit q = false := by
          split
          · rw [Nat.testBit_two_pow]; simp; omega
          · simp
        rw [h2, Bool.xor_false]
        by_cases h3 : q < m
        · simp [h3, show q < m + 1 by omega]
        · simp [h3, show ¬ q < m + 1 by omega]
  rw [key]
  by_cases hq : q < n
  · simp [hq]
  · have : x.testBit q = false := Nat.testBit_lt_two_pow (Nat.lt_of_lt_of_le h (Nat.pow_le_pow_right (by decide) (by omega)))
    simp [hq, this]

theorem kruns_mruns (G : Nat → Nat) (i : Nat) : kruns G i = mruns (fun j => (G j, 2 ^ j)) i := by
  induction i with
  | zero => rfl
  | succ i ih => rw [kruns, mruns, ih]

/-- The traces span the kernel. -/
theorem ktr_span (G : Nat → Nat) (n : Nat) (hn : n ≤ 60) (hG : ∀ i, i < n → G i < 2 ^ 60) (v : Nat) : InL (ktr G n) v ↔ v < 2 ^ n ∧ comb G n v = 0 := by
  have B := both_runs G n hn hG n (Nat.le_refl _)
  constructor
  · intro h
    refine InL.ind (C := fun v => v < 2 ^ n ∧ comb G n v = 0) ⟨Nat.two_pow_pos n, comb_zero _ _⟩ (fun a b h k => ⟨Nat.xor_lt_two_pow h.1 k.1, by rw [comb_xor, h.2, k.2]; rfl⟩) (fun o ho => B.out o ho) h
  · rintro ⟨h1, h2⟩
    have M := mruns_ok (fun j => ((G j, 2 ^ j) : TR)) n (fun j hj => ⟨hG j hj, pow_lt60 (by omega)⟩) n (Nat.le_refl _)
    have h3 := span_all M.ok.fe (fun k hk e => absurd e (M.ok.pos k hk)) (mruns (fun j => ((G j, 2 ^ j) : TR)) n).O (fun j => (G j, 2 ^ j)) n (fun C hC hr hO => M.all C hC hr hO) v h2
    rw [← kruns_mruns, B.same] at h3
    have e : comb (fun j => (((fun j => ((G j, 2 ^ j) : TR)) j).2)) n v = v := comb_pows n v h1
    rwa [e] at h3

theorem InL_take (R : List Nat) (n : Nat) (hn : n ≤ R.length) (v : Nat) : InL (R.take n) v ↔ InSp (fun i => R.getD i 0) n v := by
  have l : (R.take n).length = n := by rw [List.length_take]; omega
  unfold InL InSp
  rw [l]
  constructor
  · rintro ⟨x, e⟩; exact ⟨x, by rw [e]; exact comb_congr n x fun i hi => take_getD R n i hn hi⟩
  · rintro ⟨x, e⟩; exact ⟨x, by rw [e]; exact (comb_congr n x fun i hi => take_getD R n i hn hi).symm⟩
theorem comb_bits (R : Nat → Nat) (n x y : Nat) (h : ∀ i, i < n → x.testBit i = y.testBit i) : comb R n x = comb R n y := by
  induction n with
  | zero => rfl
  | succ n ih => rw [comb_succ, comb_succ, ih (fun i hi => h i (by omega)), h n (by omega)]

/-- The rank and that of the kernel add up. -/
theorem rk_ker_ex (R : List Nat) (hR : ∀ x ∈ R, x < 2 ^ 60) (n : Nat) (hn : n ≤ R.length) (h6 : n ≤ 60) : ∃ M : List Nat, (∀ x ∈ M, x < 2 ^ n) ∧ (∀ v, InL M v ↔ v < 2 ^ n ∧ comb (fun i => R.getD i 0) n v = 0) ∧ rk (R.take n) + rk M = n := by
  induction n with
  | zero =>
    refine ⟨[], by simp, fun v => ⟨fun h => ?_, fun h => ?_⟩, by simp [rk, putAll]⟩
    · rw [h.nil]; exact ⟨by decide, rfl⟩
    · have : v = 0 := by have := h.1; omega
      rw [this]; exact InL.zero _
  | succ n ih =>
    obtain ⟨M, hM, hs, hr⟩ := ih (by omega) (by omega)
    have lt : 2 ^ n < 2 ^ (n + 1) := Nat.pow_lt_pow_right (by decide) (by omega)
    have l6 : 2 ^ (n + 1) ≤ 2 ^ 60 := Nat.pow_le_pow_right (by decide) h6
    have hM6 : ∀ x ∈ M, x < 2 ^ 60 := fun x hx => by have := hM x hx; omega
    have hT : ∀ x ∈ R.take n, x < 2 ^ 60 := fun x hx => hR x (List.mem_of_mem_take hx)
    have e : R.take (n + 1) = R.take n ++ [R.getD n 0] := by
      rw [List.take_add_one, List.getD_eq_getElem?_getD, List.getElem?_eq_getElem (by omega)]; rfl
    rw [e]
    have split : ∀ v, v < 2 ^ (n + 1) → (v.testBit n = false → v < 2 ^ n) ∧ (v.testBit n = true → v ^^^ 2 ^ n < 2 ^ n) := by
      intro v hv
      constructor
      · intro hb
        apply Nat.lt_pow_two_of_testBit
        intro i hi
        by_cases e : i = n
        · rw [e]; exact hb
        · exact Nat.testBit_lt_two_pow (Nat.lt_of_lt_of_le hv (Nat.pow_le_pow_right (by decide) (by omega)))
      · intro hb
        apply Nat.lt_pow_two_of_testBit
        intro i hi
        rw [Nat.testBit_xor, Nat.testBit_two_pow]
        by_cases e : i = n
        · subst e; simp [hb]
        · have : v.testBit i = false := Nat.testBit_lt_two_pow (Nat.lt_of_lt_of_le hv (Nat.pow_le_pow_right (by decide) (by omega)))
          simp [this]; omega
    by_cases h1 : InL (R.take n) (R.getD n 0)
    · obtain ⟨m0, hm0⟩ := (InL_take R n (by omega) _).1 h1
      -- a mask below 2^n
      have hm : ∃ m, m < 2 ^ n ∧ R.getD n 0 = comb (fun i => R.getD i 0) n m := by
        refine ⟨m0 % 2 ^ n, Nat.mod_lt _ (Nat.two_pow_pos n), hm0.trans (comb_bits _ _ _ _ fun i hi => ?_)⟩
        rw [Nat.testBit_mod_two_pow]; simp [hi]
      obtain ⟨m, hm1, hm2⟩ := hm
      have hbig : m ^^^ 2 ^ n < 2 ^ (n + 1) := Nat.xor_lt_two_pow (by omega) lt
      have hbit : (m ^^^ 2 ^ n).testBit n = true := by
        rw [Nat.testBit_xor, Nat.testBit_two_pow_self, Nat.testBit_lt_two_pow hm1]; rfl
      have hnot : ¬ InL M (m ^^^ 2 ^ n) := fun h => by
        have := ((hs _).1 h).1
        rw [Nat.testBit_lt_two_pow this] at hbit
        cases hbit
      refine ⟨M ++ [m ^^^ 2 ^ n], fun x hx => ?_, fun v => ?_, ?_⟩
      · rcases List.mem_append.1 hx with h | h
        · exact Nat.lt_trans (hM x h) lt
        · rw [List.mem_singleton] at h; rw [h]; exact hbig
      · rw [InL_snoc, hs, hs]
        have hw : (v ^^^ (m ^^^ 2 ^ n)) = (v ^^^ 2 ^ n) ^^^ m := by rw [Nat.xor_comm m, Nat.xor_assoc]
        constructor
        · rintro (⟨a, b⟩ | ⟨a, b⟩)
          · refine ⟨Nat.lt_trans a lt, ?_⟩
            rw [comb_succ, b, if_neg (by rw [Nat.testBit_lt_two_pow a]; simp)]; rfl
          · have hv : v < 2 ^ (n + 1) := by
              have := Nat.xor_lt_two_pow (Nat.lt_trans a lt) hbig
              rwa [xor_undo] at this
            have hvb : v.testBit n = true := by
              have := Nat.testBit_lt_two_pow a
              rw [Nat.testBit_xor, hbit] at this
              simpa using this
            refine ⟨hv, ?_⟩
            rw [comb_succ, if_pos hvb, hm2, ← comb_xor]
            refine Eq.trans (comb_bits _ _ _ _ ?_) b
            intro i hi
            simp only [Nat.testBit_xor, Nat.testBit_two_pow]
            have : decide (n = i) = false := by simp; omega
            rw [this]; simp
        · rintro ⟨hv, hc⟩
          obtain ⟨s1, s2⟩ := split v hv
          rw [comb_succ] at hc
          cases hb : v.testBit n with
          | false =>
            rw [if_neg (by rw [hb]; simp), Nat.xor_zero] at hc
            exact .inl ⟨s1 hb, hc⟩
          | true =>
            refine .inr ⟨by rw [hw]; exact Nat.xor_lt_two_pow (s2 hb) hm1, ?_⟩
            rw [if_pos hb, hm2, ← comb_xor] at hc
            refine Eq.trans (comb_bits _ _ _ _ ?_) hc
            intro i hi
            simp only [Nat.testBit_xor, Nat.testBit_two_pow]
            have : decide (n = i) = false := by simp; omega
            rw [this]; simp
      · rw [rk_in hT h1, rk_out hM6 hnot]; omega
    · refine ⟨M, fun x hx => Nat.lt_trans (hM x hx) lt, fun v => ?_, ?_⟩
      · rw [hs]
        constructor
        · rintro ⟨a, b⟩
          refine ⟨Nat.lt_trans a lt, ?_⟩
          rw [comb_succ, b, if_neg (by rw [Nat.testBit_lt_two_pow a]; simp)]; rfl
        · rintro ⟨hv, hc⟩
          obtain ⟨s1, s2⟩ := split v hv
          rw [comb_succ] at hc
          cases hb : v.testBit n with
          | false =>
            rw [if_neg (by rw [hb]; simp), Nat.xor_zero] at hc
            exact ⟨s1 hb, hc⟩
          | true =>
            rw [if_pos hb] at hc
            exfalso
            apply h1
            refine (InL_take R n (by omega) _).2 ⟨v, ?_⟩
            have := congrArg (fun z => z ^^^ R.getD n 0) hc
            simp only [xor_undo, Nat.zero_xor] at this
            exact this.symm
      · rw [rk_out hT h1]; omega

theorem rk_kernel {R : List Nat} (hR : ∀ x ∈ R, x < 2 ^ 60) (h6 : R.length ≤ 60) : rk R + rk (ktr (fun i => R.getD i 0) R.length) = R.length := by
  obtain ⟨M, hM, hs, hr⟩ := rk_ker_ex R hR R.length (Nat.le_refl _) h6
  rw [List.take_length] at hr
  have hG : ∀ i, i < R.length → R.getD i 0 < 2 ^ 60 := fun i hi => getD_lt hR i hi
  have l6 : 2 ^ R.length ≤ 2 ^ 60 := Nat.pow_le_pow_right (by decide) h6
  have hk : ∀ x ∈ ktr (fun i => R.getD i 0) R.length, x < 2 ^ 60 := fun x hx => by
    have := ((both_runs (fun i => R.getD i 0) R.length h6 hG R.length (Nat.le_refl _)).out x hx).1
    omega
  rw [rk_same hk (fun x hx => by have := hM x hx; omega) fun v => by rw [ktr_span _ _ h6 hG, hs]]
  exact hr

/-! Ranks and spans. -/
theorem rk_app_in {M L : List Nat} (hM : ∀ x ∈ M, x < 2 ^ 60) (hL : ∀ x ∈ L, x < 2 ^ 60) (h : ∀ x ∈ L, InL M x) : rk (M ++ L) = rk M :=
  rk_same (lt_app hM hL) hM fun v => ⟨fun k => k.sub fun y hy => by
    rcases List.mem_append.1 hy with a | a
    · exact InL.mem a
    · exact h y a, fun k => k.sub fun y hy => InL.mem (List.mem_append_left _ hy)⟩
theorem rk_mono (M L : List Nat) (hM : ∀ x ∈ M, x < 2 ^ 60) (hL : ∀ x ∈ L, x < 2 ^ 60) : rk M ≤ rk (M ++ L) := by
  have := rk_compl_all M L
  unfold rk
  rw [← putAll_app, this]
  exact Nat.le_add_right _ _
theorem rk_le_of_in {M L : List Nat} (hM : ∀ x ∈ M, x < 2 ^ 60) (hL : ∀ x ∈ L, x < 2 ^ 60) (h : ∀ x ∈ L, InL M x) : rk L ≤ rk M := by
  have h1 := rk_mono L M hL hM
  have h2 : rk (L ++ M) = rk (M ++ L) := rk_same (lt_app hL hM) (lt_app hM hL) fun v => ⟨fun k => k.sub fun y hy => InL.mem (by simp at hy ⊢; exact hy.symm), fun k => k.sub fun y hy => InL.mem (by simp at hy ⊢; exact hy.symm)⟩
  rw [rk_app_in hM hL h] at h2
  omega
theorem rk_len (L : List Nat) : rk L ≤ L.length := by
  have h := rk_compl_all [] L
  have e : putAll [] ([] : List Nat) = [] := rfl
  rw [e] at h
  unfold rk at h ⊢
  rw [h, e]
  have := cidx_len (cTp [] L) L.length
  simpa using this

/-- The transposed rows: digit i of row j is digit j of row i. -/
def Turned (R T : List Nat) : Prop := ∀ j, j < T.length → ∀ i, i < R.length → (T.getD j 0).testBit i = (R.getD i 0).testBit j

theorem comb_turn (B C : Nat → Nat) (n a b i j : Nat) (h1 : ∀ k, k < n → a.testBit k = (C k).testBit i) (h2 : ∀ k, k < n → b.testBit k = (B k).testBit j) : (comb B n a).testBit j = (comb C n b).testBit i := by
  induction n with
  | zero => simp [comb]
  | succ n ih =>
    rw [comb_succ, comb_succ, Nat.testBit_xor, Nat.testBit_xor, ih (fun k hk => h1 k (by omega)) (fun k hk => h2 k (by omega)), h1 n (by omega), h2 n (by omega)]
    cases hc : (C n).testBit i <;> cases hb : (B n).testBit j <;> simp [hc, hb]

/-- The number whose digits are told. -/
def ofBits (f : Nat → Bool) : Nat → Nat
  | 0 => 0
  | n + 1 => ofBits f n ||| (if f n = true then 2 ^ n else 0)
theorem ofBits_bit (f : Nat → Bool) (n q : Nat) : (ofBits f n).testBit q = (decide (q < n) && f q) := by
  induction n with
  | zero => simp [ofBits]
  | succ n ih =>
    rw [ofBits, Nat.testBit_or, ih]
    by_cases e : q = n
    · subst e
      cases hf : f q <;> simp [Nat.testBit_two_pow_self]
    · have h2 : ((if f n = true then 2 ^ n else 0 : Nat)).testBit q = false := by
        split
        · rw [Nat.testBit_two_pow]; simp; omega
        · simp
      rw [h2, Bool.or_false]
      by_cases h3 : q < n
      · simp [h3, show q < n + 1 by omega]
      · simp [h3, show ¬ q < n + 1 by omega]
theorem ofBits_lt (f : Nat → Bool) (n : Nat) : ofBits f n < 2 ^ n := by
  apply Nat.lt_pow_two_of_testBit
  intro i hi
  rw [ofBits_bit]; simp; omega

theorem rk_turn_le {R T : List Nat} (hR : ∀ x ∈ R, x < 2 ^ 60) (h6 : R.length ≤ 60) (hT : ∀ x ∈ T, x < 2 ^ R.length) (h : Turned R T) : rk T ≤ rk R := by
  have l6 : 2 ^ R.length ≤ 2 ^ 60 := Nat.pow_le_pow_right (by decide) h6
  have hT6 : ∀ x ∈ T, x < 2 ^ 60 := fun x hx => by have := hT x hx; omega
  -- the rows as sums of reduced rows
  have hin : ∀ i, i < R.length → ∃ c, R.getD i 0 = comb (fun k => (putAll [] R).getD k 0) (putAll [] R).length c := fun i hi => by
    have : InL (putAll [] R) (R.getD i 0) := (putAll_span hR _).2 (InL.mem (by rw [List.getD_eq_getElem?_getD, List.getElem?_eq_getElem hi]; exact List.getElem_mem hi))
    exact this
  obtain ⟨c, hc⟩ : ∃ c : Nat → Nat, ∀ i, i < R.length → R.getD i 0 = comb (fun k => (putAll [] R).getD k 0) (putAll [] R).length (c i) :=
    ⟨fun i => if hi : i < R.length then Classical.choose (hin i hi) else 0, fun i hi => by simp only [hi, dif_pos]; exact Classical.choose_spec (hin i hi)⟩
  have hCl : ((List.range (putAll [] R).length).map fun k => ofBits (fun i => (c i).testBit k) R.length).length = rk R := by simp [rk]
  refine Nat.le_trans (rk_le_of_in (M := (List.range (putAll [] R).length).map fun k => ofBits (fun i => (c i).testBit k) R.length) (fun x hx => ?_) hT6 fun x hx => ?_) (Nat.le_trans (rk_len _) (Nat.le_of_eq hCl))
  · obtain ⟨k, _, rfl⟩ := List.mem_map.1 hx
    have := ofBits_lt (fun i => (c i).testBit k) R.length
    omega
  · obtain ⟨j, hj, rfl⟩ := List.getElem_of_mem hx
    have hTj : T[j] = T.getD j 0 := by simp [List.getD_eq_getElem?_getD, hj]
    refine ⟨ofBits (fun k => ((putAll [] R).getD k 0).testBit j) (putAll [] R).length, ?_⟩
    rw [hTj]
    simp only [List.length_map, List.length_range]
    apply Nat.eq_of_testBit_eq
    intro i
    have hcg : ∀ k, k < (putAll [] R).length → (fun i => ((List.range (putAll [] R).length).map fun k => ofBits (fun i => (c i).testBit k) R.length).getD i 0) k = ofBits (fun i => (c i).testBit k) R.length := fun k hk => by
      simp [List.getD_eq_getElem?_getD, hk]
    rw [comb_congr _ _ hcg]
    by_cases hi : i < R.length
    · rw [h j hj i hi, hc i hi]
      refine comb_turn _ _ _ _ _ i j (fun k hk => ?_) (fun k hk => ?_)
      · rw [ofBits_bit]; simp [hi]
      · rw [ofBits_bit]; simp [hk]
    · have h1 : (T.getD j 0).testBit i = false := Nat.testBit_lt_two_pow (Nat.lt_of_lt_of_le (hTj ▸ hT _ hx) (Nat.pow_le_pow_right (by decide) (by omega)))
      have h2 := comb_bound (fun k => ofBits (fun i => (c i).testBit k) R.length) (putAll [] R).length (ofBits (fun k => ((putAll [] R).getD k 0).testBit j) (putAll [] R).length) R.length (fun k _ => ofBits_lt _ _)
      rw [h1, Nat.testBit_lt_two_pow (Nat.lt_of_lt_of_le h2 (Nat.pow_le_pow_right (by decide) (by omega)))]

theorem rk_turn {R T : List Nat} (hR : ∀ x ∈ R, x < 2 ^ T.length) (h6 : R.length ≤ 60) (hT : ∀ x ∈ T, x < 2 ^ R.length) (t6 : T.length ≤ 60) (h : Turned R T) : rk T = rk R := by
  have l1 : 2 ^ R.length ≤ 2 ^ 60 := Nat.pow_le_pow_right (by decide) h6
  have l2 : 2 ^ T.length ≤ 2 ^ 60 := Nat.pow_le_pow_right (by decide) t6
  apply Nat.le_antisymm
  · exact rk_turn_le (fun x hx => by have := hR x hx; omega) h6 hT h
  · exact rk_turn_le (fun x hx => by have := hT x hx; omega) t6 hR (fun i hi j hj => (h j hj i hi).symm)

/-! Inverses. -/
theorem rk_units (n : Nat) (hn : n ≤ 60) : rk ((List.range n).map fun i => 2 ^ i) = n := by
  induction n with
  | zero => rfl
  | succ n ih =>
    have h6 : ∀ x ∈ (List.range n).map (fun i => 2 ^ i), x < 2 ^ n := fun x hx => by
      obtain ⟨i, hi, rfl⟩ := List.mem_map.1 hx
      exact Nat.pow_lt_pow_right (by decide) (List.mem_range.1 hi)
    have l6 : 2 ^ n < 2 ^ 60 := pow_lt60 (by omega)
    rw [List.range_succ, List.map_append, List.map_singleton, rk_out (fun x hx => by have := h6 x hx; omega) (fun h => by have := h.lt h6; omega), ih (by omega)]
/-- Rows that reach all units have no kernel. -/
theorem inv_ker {R : List Nat} (hR : ∀ x ∈ R, x < 2 ^ R.length) (h6 : R.length ≤ 60) {X : Nat → Nat} (hX : ∀ i, i < R.length → comb (fun i => R.getD i 0) R.length (X i) = 2 ^ i) (y : Nat) (hy : y < 2 ^ R.length) (h0 : comb (fun i => R.getD i 0) R.length y = 0) : y = 0 := by
  have l6 : 2 ^ R.length ≤ 2 ^ 60 := Nat.pow_le_pow_right (by decide) h6
  have hR6 : ∀ x ∈ R, x < 2 ^ 60 := fun x hx => by have := hR x hx; omega
  have hG : ∀ i, i < R.length → R.getD i 0 < 2 ^ 60 := fun i hi => getD_lt hR6 i hi
  have hu : ∀ x ∈ (List.range R.length).map (fun i => 2 ^ i), x < 2 ^ 60 := fun x hx => by
    obtain ⟨i, hi, rfl⟩ := List.mem_map.1 hx
    exact pow_lt60 (by have := List.mem_range.1 hi; omega)
  have h1 : R.length ≤ rk R := by
    have := rk_le_of_in hR6 hu (fun x hx => by
      obtain ⟨i, hi, rfl⟩ := List.mem_map.1 hx
      exact ⟨X i, (hX i (List.mem_range.1 hi)).symm⟩)
    rwa [rk_units _ h6] at this
  have h2 := rk_kernel hR6 h6
  have h3 : rk (ktr (fun i => R.getD i 0) R.length) = 0 := by omega
  have hk : ∀ x ∈ ktr (fun i => R.getD i 0) R.length, x < 2 ^ 60 := fun x hx => by
    have := ((both_runs (fun i => R.getD i 0) R.length h6 hG R.length (Nat.le_refl _)).out x hx).1
    omega
  have h4 : putAll [] (ktr (fun i => R.getD i 0) R.length) = [] := List.length_eq_zero_iff.1 h3
  have h5 := (ktr_span (fun i => R.getD i 0) R.length h6 hG y).2 ⟨hy, h0⟩
  rw [← putAll_span hk, h4] at h5
  exact h5.nil
theorem inv_other {R : List Nat} (hR : ∀ x ∈ R, x < 2 ^ R.length) (h6 : R.length ≤ 60) {X : Nat → Nat} (hXl : ∀ i, i < R.length → X i < 2 ^ R.length) (hX : ∀ i, i < R.length → comb (fun i => R.getD i 0) R.length (X i) = 2 ^ i) (i : Nat) (hi : i < R.length) : comb X R.length (R.getD i 0) = 2 ^ i := by
  have lt : 2 ^ i < 2 ^ R.length := Nat.pow_lt_pow_right (by decide) hi
  have h1 := comb_bound X R.length (R.getD i 0) R.length hXl
  have hRi : R.getD i 0 < 2 ^ R.length := hR _ (by rw [List.getD_eq_getElem?_getD, List.getElem?_eq_getElem hi]; exact List.getElem_mem hi)
  have h2 : comb (fun i => R.getD i 0) R.length (comb X R.length (R.getD i 0)) = R.getD i 0 := by
    rw [← comb_comb (fun i => R.getD i 0) R.length (fun j => 2 ^ j) X R.length (R.getD i 0) (fun j hj => (hX j hj).symm), comb_pows _ _ hRi]
  have h3 := inv_ker hR h6 hX (comb X R.length (R.getD i 0) ^^^ 2 ^ i) (Nat.xor_lt_two_pow h1 lt) (by rw [comb_xor, h2, comb_pow (fun i => R.getD i 0) R.length i hi, Nat.xor_self])
  have := congrArg (fun z => z ^^^ 2 ^ i) h3
  simp only [xor_undo, Nat.zero_xor] at this
  exact this
end Go.Proofs.YtdojblmffmefgaaDoor
