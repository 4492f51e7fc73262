/-
  Numbers of reduced rows: sums, meets, kernels, transposes. No program in sight.
-/
import Derived.Test.YtdojblmffmefgaaDoorPlainMeet
namespace Go.Proofs.YtdojblmffmefgaaDoor
set_option linter.unusedVariables false

def rk (L : List Nat) : Nat := (putAll [] L).length

theorem pst_len (x : Nat) (L : List Nat) (st : List Nat × Bool) : (L.foldl (pst x) st).1.length + (if st.2 = true then 1 else 0) = st.1.length + L.length + (if (L.foldl (pst x) st).2 = true then 1 else 0) := by
  induction L generalizing st with
  | nil => rfl
  | cons r L ih =>
    have h1 := ih (pst x st r)
    rw [List.foldl_cons]
    have hp : (pst x st r).1.length + (if st.2 = true then 1 else 0) = st.1.length + 1 + (if (pst x st r).2 = true then 1 else 0) := by
      unfold pst
      obtain ⟨Q, d⟩ := st
      by_cases hc : d = false ∧ tz x < tz r
      · obtain ⟨rfl, _⟩ := hc
        simp_all
      · simp only [hc, if_false]
        cases d <;> simp
    simp only [List.length_cons]
    omega

theorem putR_len (L : List Nat) (x : Nat) : (putR L x).length = L.length + 1 := by
  have h := pst_len x L ([], false)
  unfold putR
  simp only [] at h ⊢
  generalize List.foldl (pst x) ([], false) L = st at *
  obtain ⟨Q, d⟩ := st
  cases d <;> simp_all
theorem put_len (L : List Nat) (x : Nat) : (put L x).length = L.length + (if wo L x = 0 then 0 else 1) := by
  unfold put
  split
  · rfl
  · exact putR_len _ _

theorem InL.lt {L : List Nat} {c v : Nat} (hL : ∀ x ∈ L, x < 2 ^ c) (h : InL L v) : v < 2 ^ c := by
  obtain ⟨m, rfl⟩ := h
  exact comb_bound _ _ _ _ fun i hi => by
    simp only [List.getD_eq_getElem?_getD, List.getElem?_eq_getElem hi]
    exact hL _ (List.getElem_mem hi)
theorem InL.sub {L M : List Nat} {v : Nat} (h : InL L v) (hm : ∀ y ∈ L, InL M y) : InL M v := InL.ind (InL.zero _) (fun _ _ => InL.xor) hm h
theorem InL.nil {v : Nat} (h : InL [] v) : v = 0 := by obtain ⟨m, rfl⟩ := h; rfl
theorem xor_undo (a b : Nat) : (a ^^^ b) ^^^ b = a := by rw [Nat.xor_assoc, Nat.xor_self, Nat.xor_zero]
theorem xor_undo2 (a b : Nat) : a ^^^ (a ^^^ b) = b := by rw [← Nat.xor_assoc, Nat.xor_self, Nat.zero_xor]
theorem InL_app {A B : List Nat} {v : Nat} : InL (A ++ B) v ↔ ∃ a, InL A a ∧ InL B (v ^^^ a) := by
  constructor
  · refine InL.ind (C := fun v => ∃ a, InL A a ∧ InL B (v ^^^ a)) ⟨0, InL.zero _, InL.zero _⟩ ?_ ?_
    · rintro x y ⟨a, h1, h2⟩ ⟨b, k1, k2⟩
      exact ⟨a ^^^ b, h1.xor k1, by rw [xor4]; exact h2.xor k2⟩
    · intro y hy
      rcases List.mem_append.1 hy with h | h
      · exact ⟨y, InL.mem h, by rw [Nat.xor_self]; exact InL.zero _⟩
      · exact ⟨0, InL.zero _, by rw [Nat.xor_zero]; exact InL.mem h⟩
  · rintro ⟨a, h1, h2⟩
    have k1 : InL (A ++ B) a := h1.sub fun y hy => InL.mem (List.mem_append_left _ hy)
    have k2 : InL (A ++ B) (v ^^^ a) := h2.sub fun y hy => InL.mem (List.mem_append_right _ hy)
    have := k2.xor k1
    rwa [xor_undo] at this
theorem InL_one {b v : Nat} : InL [b] v ↔ v = 0 ∨ v = b := by
  constructor
  · refine InL.ind (C := fun v => v = 0 ∨ v = b) (.inl rfl) ?_ (fun y hy => .inr (by simpa using hy))
    rintro x y (rfl | rfl) (rfl | rfl) <;> simp
  · rintro (rfl | rfl)
    · exact InL.zero _
    · exact InL.mem (by simp)
theorem InL_snoc {A : List Nat} {b v : Nat} : InL (A ++ [b]) v ↔ InL A v ∨ InL A (v ^^^ b) := by
  rw [InL_app]
  constructor
  · rintro ⟨a, h1, h2⟩
    rcases InL_one.1 h2 with e | e
    · have : v = a := by have := congrArg (fun z => z ^^^ a) e; simpa [xor_undo] using this
      exact .inl (by rw [this]; exact h1)
    · refine .inr ?_
      rw [← e, xor_undo2]; exact h1
  · rintro (h | h)
    · exact ⟨v, h, by rw [Nat.xor_self]; exact InL.zero _⟩
    · exact ⟨v ^^^ b, h, by rw [xor_undo2]; exact InL.mem (by simp)⟩

/-- Nothing remains of a mask just when it is a sum of the rows. -/
theorem wo_in {L : List Nat} (h : ∀ x ∈ L, x < 2 ^ 60) (x : Nat) : wo (putAll [] L) x = 0 ↔ InL L x := by
  have e := rmd_wo (spaceL_piv h) (x, 0) 60 (Nat.le_refl _)
  rw [spaceL_rows h] at e
  rw [← spaceL_span h, ← e, rmd_rmp]
  exact (spaceL_piv h).fe.rem_zero (x, 0)
theorem putAll_app (A B : List Nat) : putAll (putAll [] A) B = putAll [] (A ++ B) := by simp [putAll, List.foldl_append]
theorem rk_snoc {L : List Nat} (h : ∀ x ∈ L, x < 2 ^ 60) (x : Nat) : rk (L ++ [x]) = rk L + (if wo (putAll [] L) x = 0 then 0 else 1) := by
  unfold rk
  rw [← putAll_app]
  exact put_len _ _
theorem rk_in {L : List Nat} (h : ∀ x ∈ L, x < 2 ^ 60) {x : Nat} (hx : InL L x) : rk (L ++ [x]) = rk L := by rw [rk_snoc h, if_pos ((wo_in h x).2 hx)]; rfl
theorem rk_out {L : List Nat} (h : ∀ x ∈ L, x < 2 ^ 60) {x : Nat} (hx : ¬ InL L x) : rk (L ++ [x]) = rk L + 1 := by rw [rk_snoc h, if_neg (fun e => hx ((wo_in h x).1 e))]
theorem rk_same {L M : List Nat} (hL : ∀ x ∈ L, x < 2 ^ 60) (hM : ∀ x ∈ M, x < 2 ^ 60) (h : ∀ v, InL L v ↔ InL M v) : rk L = rk M := by unfold rk; rw [putAll_unique hL hM h]

theorem lt_app {A B : List Nat} {c : Nat} (hA : ∀ x ∈ A, x < c) (hB : ∀ x ∈ B, x < c) : ∀ x ∈ A ++ B, x < c := fun x hx => by
  rcases List.mem_append.1 hx with h | h
  · exact hA x h
  · exact hB x h

/-- The ranks of the sum and of the meet add up. -/
theorem rk_meet {A : List Nat} (hA : ∀ x ∈ A, x < 2 ^ 60) (R : List Nat) (hR : ∀ x ∈ R, x < 2 ^ 60) : ∃ M : List Nat, (∀ x ∈ M, x < 2 ^ 60) ∧ (∀ v, InL M v ↔ InL A v ∧ InL R.reverse v) ∧ rk (A ++ R.reverse) + rk M = rk A + rk R.reverse := by
  induction R with
  | nil =>
    refine ⟨[], by simp, fun v => ⟨fun h => ?_, fun h => h.2⟩, by simp⟩
    rw [h.nil]; exact ⟨InL.zero _, InL.zero _⟩
  | cons b R ih =>
    obtain ⟨M, hM, hs, hr⟩ := ih (fun x hx => hR x (by simp [hx]))
    have hb : b < 2 ^ 60 := hR b (by simp)
    have hB : ∀ x ∈ R.reverse, x < 2 ^ 60 := fun x hx => hR x (by simp at hx; simp [hx])
    rw [List.reverse_cons]
    generalize R.reverse = B at *
    clear R hR ih
    have hAB := lt_app hA hB
    by_cases h1 : InL B b
    · have h2 : InL (A ++ B) b := h1.sub fun y hy => InL.mem (List.mem_append_right _ hy)
      refine ⟨M, hM, fun v => ?_, ?_⟩
      · rw [hs, InL_snoc]
        constructor
        · exact fun h => ⟨h.1, .inl h.2⟩
        · rintro ⟨h, k | k⟩
          · exact ⟨h, k⟩
          · exact ⟨h, by have := k.xor h1; rwa [xor_undo] at this⟩
      · rw [rk_in hB h1, ← List.append_assoc, rk_in hAB h2]; exact hr
    · by_cases h2 : InL (A ++ B) b
      · obtain ⟨a, ha, hb1⟩ := InL_app.1 h2
        have hna : ¬ InL M a := fun h => h1 (by have := hb1.xor ((hs a).1 h).2; rwa [xor_undo] at this)
        refine ⟨M ++ [a], lt_app hM (fun x hx => by rw [List.mem_singleton] at hx; rw [hx]; exact ha.lt hA), fun v => ?_, ?_⟩
        · rw [InL_snoc, InL_snoc, hs, hs]
          have ex : v ^^^ a = (v ^^^ b) ^^^ (b ^^^ a) := by rw [Nat.xor_assoc, xor_undo2]
          constructor
          · rintro (⟨h, k⟩ | ⟨h, k⟩)
            · exact ⟨h, .inl k⟩
            · refine ⟨by have := h.xor ha; rwa [xor_undo] at this, .inr ?_⟩
              rw [ex] at k
              have := k.xor hb1
              rwa [xor_undo] at this
          · rintro ⟨h, k | k⟩
            · exact .inl ⟨h, k⟩
            · exact .inr ⟨h.xor ha, by rw [ex]; exact k.xor hb1⟩
        · rw [rk_out hB h1, ← List.append_assoc, rk_in hAB h2, rk_out hM hna]; omega
      · refine ⟨M, hM, fun v => ?_, ?_⟩
        · rw [hs, InL_snoc]
          constructor
          · exact fun h => ⟨h.1, .inl h.2⟩
          · rintro ⟨h, k | k⟩
            · exact ⟨h, k⟩
            · exact absurd (InL_app.2 ⟨v, h, by rw [Nat.xor_comm]; exact k⟩) h2
        · rw [rk_out hB h1, ← List.append_assoc, rk_out hAB h2]; omega
theorem rk_meet_sum {A B : List Nat} (hA : ∀ x ∈ A, x < 2 ^ 60) (hB : ∀ x ∈ B, x < 2 ^ 60) : (putAll (putAll [] A) B).length + (putAll [] (mspec A B)).length = rk A + rk B := by
  obtain ⟨M, hM, hs, hr⟩ := rk_meet hA B.reverse (fun x hx => hB x (by simpa using hx))
  rw [List.reverse_reverse] at hs hr
  have : rk (mspec A B) = rk M := rk_same (mspec_ok hA hB).1 hM fun v => by rw [(mspec_ok hA hB).2 v, hs]
  rw [putAll_app]
  show rk (A ++ B) + rk (mspec A B) = _
  rw [this]; exact hr

/-- What the complement adds. -/
def cTp (A B : List Nat) (i : Nat) : Nat := wo (putAll (putAll [] A) (B.take i)) (B.getD i 0)
theorem rk_compl (A B : List Nat) (j : Nat) (hj : j ≤ B.length) : (putAll (putAll [] A) (B.take j)).length = rk A + (cidx (cTp A B) j).length := by
  induction j with
  | zero => rfl
  | succ j ih =>
    have e : cTp A B j = wo (putAll (putAll [] A) (B.take j)) (B.getD j 0) := rfl
    rw [putAll_takeL _ _ _ (by omega), put_len, ih (by omega), cidx, List.length_append, ← e]
    split
    · rename_i h; rw [if_neg (fun k => k h)]; rfl
    · rfl
theorem rk_compl_all (A B : List Nat) : (putAll (putAll [] A) B).length = rk A + (cidx (cTp A B) B.length).length := by
  have := rk_compl A B B.length (Nat.le_refl _)
  rwa [List.take_length] at this

/-- The meet's rows belong to both. -/
theorem meet_in {A B : List Nat} (hA : ∀ x ∈ A, x < 2 ^ 60) (hB : ∀ x ∈ B, x < 2 ^ 60) {x : Nat} (h : x ∈ putAll [] (mspec A B)) : InL A x ∧ InL B x := by
  have hm := (mspec_ok hA hB).1
  exact ((mspec_ok hA hB).2 x).1 ((putAll_span hm x).1 (InL.mem h))
end Go.Proofs.YtdojblmffmefgaaDoor
