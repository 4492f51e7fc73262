/-
  Joined: HPlain.
-/
import Derived.Test.YtggebkcmokpcmaaZBHit28
section
namespace Go.Proofs.Ytggebkcmokpcmaa
open Go.RowKit
set_option linter.unusedVariables false
set_option maxRecDepth 100000

/-- The last list. -/
def lastL (L : List (List Int)) : List Int := L[L.length - 1]?.getD []
theorem lastL_mem {L : List (List Int)} (h : L ≠ []) : lastL L ∈ L := by
  have hl : 0 < L.length := List.length_pos_iff.2 h
  unfold lastL
  rw [List.getElem?_eq_getElem (by omega)]
  exact List.getElem_mem _
theorem lastL_map (f : List Int → List Int) {L : List (List Int)} (h : L ≠ []) : lastL (L.map f) = f (lastL L) := by
  have hl : 0 < L.length := List.length_pos_iff.2 h
  unfold lastL
  rw [List.length_map, List.getElem?_map, List.getElem?_eq_getElem (by omega)]
  rfl
theorem lastL_max {L : List (List Int)} (h : Asc L) {z : List Int} (hz : z ∈ L) (hne : z ≠ lastL L) : lexLt z (lastL L) = true := by
  obtain ⟨i, hi, rfl⟩ := List.getElem_of_mem hz
  unfold lastL at hne ⊢
  rw [List.getElem?_eq_getElem (by omega)] at hne ⊢
  simp only [Option.getD_some] at hne ⊢
  by_cases e : i = L.length - 1
  · subst e; exact absurd rfl hne
  · exact List.pairwise_iff_getElem.1 h i (L.length - 1) hi (by omega) (by omega)

/-- A row is added if its greatest term is there. -/
def addR (T own : List (List Int)) : List (List Int) := if lastL own ∈ T then oddY (T ++ own) else T
def remR (R : List (List (List Int))) (T : List (List Int)) : List (List Int) := R.foldl addR T
theorem remR_snoc (R : List (List (List Int))) (r T : List (List Int)) : remR (R ++ [r]) T = addR (remR R T) r := by simp [remR]
theorem remR_nil (T : List (List Int)) : remR [] T = T := rfl

/-- Where a row with the greatest term x belongs. -/
def plcR (R : List (List (List Int))) (x : List Int) : Nat := (R.takeWhile fun r => lexLt x (lastL r)).length
def insR (R : List (List (List Int))) (x : List (List Int)) : List (List (List Int)) := R.take (plcR R (lastL x)) ++ x :: R.drop (plcR R (lastL x))
def withR (R : List (List (List Int))) (p : List (List Int)) : List (List (List Int)) := if remR R p = [] then R else insR R (remR R p)
theorem plcR_le (R : List (List (List Int))) (x : List Int) : plcR R x ≤ R.length := by
  unfold plcR
  have := (List.takeWhile_sublist (fun r => lexLt x (lastL r)) (l := R)).length_le
  exact this
theorem plcR_lt (R : List (List (List Int))) (x : List Int) (i : Nat) (h : i < plcR R x) : ∃ hi : i < R.length, lexLt x (lastL R[i]) = true := by
  have hi : i < R.length := Nat.lt_of_lt_of_le h (plcR_le R x)
  refine ⟨hi, ?_⟩
  have h2 : (R.takeWhile fun r => lexLt x (lastL r))[i]? = R[i]? := by
    have e := List.takeWhile_append_dropWhile (p := fun r => lexLt x (lastL r)) (l := R)
    have e2 : ((R.takeWhile fun r => lexLt x (lastL r)) ++ R.dropWhile fun r => lexLt x (lastL r))[i]? = R[i]? := by rw [e]
    rw [← e2, List.getElem?_append_left h]
  have h3 : R[i] ∈ R.takeWhile fun r => lexLt x (lastL r) := by
    rw [List.getElem?_eq_getElem hi, List.getElem?_eq_getElem h] at h2
    rw [← Option.some.inj h2]
    exact List.getElem_mem _
  have := List.all_takeWhile (p := fun r => lexLt x (lastL r)) (l := R)
  exact List.all_eq_true.1 this _ h3
theorem plcR_at (R : List (List (List Int))) (x : List Int) (h : plcR R x < R.length) : lexLt x (lastL R[plcR R x]) = false := by
  have e := List.takeWhile_append_dropWhile (p := fun r => lexLt x (lastL r)) (l := R)
  have hd : R.drop (plcR R x) = R.dropWhile fun r => lexLt x (lastL r) := by
    have := congrArg (List.drop (plcR R x)) e
    rw [← this]
    unfold plcR
    rw [List.drop_left]
  have hne : (R.dropWhile fun r => lexLt x (lastL r)) ≠ [] := by
    rw [← hd]
    intro e
    have := congrArg List.length e
    rw [List.length_drop] at this
    simp at this
    omega
  have h1 := List.head_dropWhile_not (fun r => lexLt x (lastL r)) hne
  have h2 : (R.dropWhile fun r => lexLt x (lastL r)).head hne = R[plcR R x] := by
    have : (R.drop (plcR R x)).head (by rw [hd]; exact hne) = R[plcR R x] := by
      rw [List.head_drop]
    rw [← this]
    congr 1
    exact hd.symm
  rw [h2] at h1
  exact h1

/-- Rows: none is empty, each is in order, all terms have P, the greatest terms descend. -/
structure RowsOk (P : List Int → Prop) (R : List (List (List Int))) : Prop where
  ne : ∀ r ∈ R, r ≠ []
  asc : ∀ r ∈ R, Asc r
  all : ∀ r ∈ R, ∀ t ∈ r, P t
  desc : R.Pairwise fun a b => lexLt (lastL b) (lastL a) = true
theorem RowsOk.nil (P : List Int → Prop) : RowsOk P [] := ⟨fun _ h => by simp at h, fun _ h => by simp at h, fun _ h => by simp at h, List.Pairwise.nil⟩

theorem addR_asc {T own : List (List Int)} (h : Asc T) : Asc (addR T own) := by
  unfold addR
  split
  · exact (oddY_spec _).1
  · exact h
theorem addR_sub {T own : List (List Int)} {z : List Int} (h : z ∈ addR T own) : z ∈ T ∨ z ∈ own := by
  unfold addR at h
  split at h
  · exact List.mem_append.1 (oddY_mem h)
  · exact .inl h
theorem remR_asc {T : List (List Int)} (h : Asc T) : ∀ R : List (List (List Int)), Asc (remR R T) := by
  intro R
  induction R generalizing T with
  | nil => exact h
  | cons r R ih => exact ih (addR_asc h)
theorem remR_all {P : List Int → Prop} {T : List (List Int)} (h : ∀ t ∈ T, P t) (R : List (List (List Int))) (hR : ∀ r ∈ R, ∀ t ∈ r, P t) : ∀ t ∈ remR R T, P t := by
  induction R generalizing T with
  | nil => exact h
  | cons r R ih =>
    refine ih (T := addR T r) (fun t ht => ?_) (fun r' hr' => hR r' (List.mem_cons_of_mem _ hr'))
    rcases addR_sub ht with ht | ht
    · exact h t ht
    · exact hR r List.mem_cons_self t ht
theorem par_app (xs ys : List (List Int)) (z : List Int) : par (xs ++ ys) z ↔ ((par xs z ∧ ¬ par ys z) ∨ (¬ par xs z ∧ par ys z)) := by
  induction xs with
  | nil => simp [par]
  | cons x xs ih =>
    show ((x = z ∧ ¬ par (xs ++ ys) z) ∨ (x ≠ z ∧ par (xs ++ ys) z)) ↔ (((x = z ∧ ¬ par xs z) ∨ (x ≠ z ∧ par xs z)) ∧ ¬ par ys z) ∨ (¬ ((x = z ∧ ¬ par xs z) ∨ (x ≠ z ∧ par xs z)) ∧ par ys z)
    rw [ih]
    by_cases e : x = z <;> by_cases a : par xs z <;> by_cases b : par ys z <;> simp [e, a, b]
theorem addR_odd {T own : List (List Int)} (hT : Asc T) (ho : Asc own) (z : List Int) (h : lastL own ∈ T) : z ∈ addR T own ↔ ((z ∈ T ∧ z ∉ own) ∨ (z ∉ T ∧ z ∈ own)) := by
  unfold addR
  rw [if_pos h, (oddY_spec _).2, par_app, par_nodup _ hT.nodup, par_nodup _ ho.nodup]
theorem addR_no {T own : List (List Int)} (hT : Asc T) (ho : Asc own) (hne : own ≠ []) : lastL own ∉ addR T own := by
  by_cases h : lastL own ∈ T
  · rw [addR_odd hT ho _ h]
    have := lastL_mem hne
    simp [h, this]
  · unfold addR
    rw [if_neg h]
    exact h
/-- What is left has none of the greatest terms. -/
theorem remR_no {P : List Int → Prop} : ∀ (R : List (List (List Int))) (T : List (List Int)), RowsOk P R → Asc T → ∀ r ∈ R, lastL r ∉ remR R T := by
  have gen : ∀ (R : List (List (List Int))) (T : List (List Int)) (z : List Int), (∀ r ∈ R, Asc r) → (∀ r ∈ R, lexLt (lastL r) z = true) → z ∉ T → z ∉ remR R T := by
    intro R
    induction R with
    | nil => intro T z _ _ h; exact h
    | cons r R ih =>
      intro T z ha hl h
      refine ih (addR T r) z (fun r' hr' => ha r' (List.mem_cons_of_mem _ hr')) (fun r' hr' => hl r' (List.mem_cons_of_mem _ hr')) fun hz => ?_
      rcases addR_sub hz with hz | hz
      · exact h hz
      · have h1 := hl r List.mem_cons_self
        by_cases e : z = lastL r
        · rw [← e, lexLt_irrefl] at h1; cases h1
        · have h2 := lastL_max (ha r List.mem_cons_self) hz e
          rw [lexLt_asymm _ _ h1] at h2
          cases h2
  intro R
  induction R with
  | nil => intro T _ _ r hr; simp at hr
  | cons r R ih =>
    intro T h hT r' hr'
    obtain ⟨d1, d2⟩ := List.pairwise_cons.1 h.desc
    have hR : RowsOk P R := ⟨fun x hx => h.ne x (List.mem_cons_of_mem _ hx), fun x hx => h.asc x (List.mem_cons_of_mem _ hx), fun x hx => h.all x (List.mem_cons_of_mem _ hx), d2⟩
    rcases List.mem_cons.1 hr' with e | hm
    · subst e
      exact gen R _ _ hR.asc d1 (addR_no hT (h.asc _ List.mem_cons_self) (h.ne _ List.mem_cons_self))
    · exact ih (addR T r) hR (addR_asc hT) r' hm
/-- Rows stay such when one is put in. -/
theorem withR_ok {P : List Int → Prop} {R : List (List (List Int))} {p : List (List Int)} (h : RowsOk P R) (hp : Asc p) (hP : ∀ t ∈ p, P t) : RowsOk P (withR R p) := by
  unfold withR
  split
  · exact h
  · rename_i hx
    have h1 := remR_asc hp R
    have h2 := remR_all hP R h.all
    have h3 := remR_no R p h hp
    generalize remR R p = x at *
    have hm := lastL_mem hx
    have hj := plcR_le R (lastL x)
    have hlt := plcR_lt R (lastL x)
    have hat := plcR_at R (lastL x)
    unfold insR
    generalize plcR R (lastL x) = j at *
    have mem : ∀ r, r ∈ R.take j ++ x :: R.drop j → r = x ∨ r ∈ R := fun r hr => by
      rcases List.mem_append.1 hr with hr | hr
      · exact .inr (List.mem_of_mem_take hr)
      · rcases List.mem_cons.1 hr with hr | hr
        · exact .inl hr
        · exact .inr (List.mem_of_mem_drop hr)
    refine ⟨fun r hr => ?_, fun r hr => ?_, fun r hr => ?_, ?_⟩
    · rcases mem r hr with rfl | hr
      · exact hx
      · exact h.ne r hr
    · rcases mem r hr with rfl | hr
      · exact h1
      · exact h.asc r hr
    · rcases mem r hr with rfl | hr
      · exact h2
      · exact h.all r hr
    · have hd := h.desc
      rw [← List.take_append_drop j R, List.pairwise_append] at hd
      obtain ⟨d1, d2, d3⟩ := hd
      -- the greatest term of what stands behind is less
      have back : ∀ b ∈ R.drop j, lexLt (lastL b) (lastL x) = true := fun b hb => by
        have hjl : j < R.length := by
          apply Decidable.byContradiction; intro hc
          rw [List.drop_eq_nil_of_le (by omega)] at hb
          simp at hb
        have h0 : lexLt (lastL R[j]) (lastL x) = true := by
          have hf := hat hjl
          cases e : lexLt (lastL R[j]) (lastL x) with
          | true => rfl
          | false =>
            have e2 := lexLt_total _ _ e hf
            exact absurd (e2 ▸ hm) (h3 _ (List.getElem_mem _))
        rw [List.drop_eq_getElem_cons hjl] at hb d2
        rcases List.mem_cons.1 hb with rfl | hb
        · exact h0
        · exact lexLt_trans _ _ _ ((List.pairwise_cons.1 d2).1 b hb) h0
      have front : ∀ a ∈ R.take j, lexLt (lastL x) (lastL a) = true := fun a ha => by
        obtain ⟨i, hi, rfl⟩ := List.getElem_of_mem ha
        rw [List.length_take] at hi
        obtain ⟨_, h4⟩ := hlt i (by omega)
        rw [List.getElem_take]
        exact h4
      rw [List.pairwise_append]
      refine ⟨d1, List.pairwise_cons.2 ⟨back, d2⟩, fun a ha b hb => ?_⟩
      rcases List.mem_cons.1 hb with rfl | hb
      · exact front a ha
      · exact d3 a ha b hb
theorem withR_len (R : List (List (List Int))) (p : List (List Int)) : (withR R p).length ≤ R.length + 1 := by
  unfold withR
  split
  · omega
  · unfold insR
    have := plcR_le R (lastL (remR R p))
    rw [List.length_append, List.length_take, List.length_cons, List.length_drop]
    omega

/-! ### Zeros behind -/
theorem mem_pad {k : Nat} {T : List (List Int)} {x : List Int} (hT : ∀ t ∈ T, t.length = k) (hx : x.length = k) : padY x ∈ T.map padY ↔ x ∈ T := by
  constructor
  · intro h
    obtain ⟨y, hy, e⟩ := List.mem_map.1 h
    rw [pad_inj y x (hT y hy) hx e] at hy
    exact hy
  · exact fun h => List.mem_map.2 ⟨x, h, rfl⟩
theorem addR_pad {k : Nat} {T own : List (List Int)} (hT : ∀ t ∈ T, t.length = k) (ho : ∀ t ∈ own, t.length = k) (hne : own ≠ []) : addR (T.map padY) (own.map padY) = (addR T own).map padY := by
  unfold addR
  rw [lastL_map padY hne]
  by_cases h : lastL own ∈ T
  · rw [if_pos h, if_pos ((mem_pad hT (ho _ (lastL_mem hne))).2 h), ← List.map_append]
    refine oddY_pad (k := k) _ fun t ht => ?_
    rcases List.mem_append.1 ht with ht | ht
    · exact hT t ht
    · exact ho t ht
  · rw [if_neg h, if_neg fun h' => h ((mem_pad hT (ho _ (lastL_mem hne))).1 h')]
theorem addR_row {k : Nat} {T own : List (List Int)} (hT : ∀ t ∈ T, t.length = k) (ho : ∀ t ∈ own, t.length = k) : ∀ t ∈ addR T own, t.length = k := fun t ht => by
  rcases addR_sub ht with h | h
  · exact hT t h
  · exact ho t h
theorem remR_pad {k : Nat} : ∀ (R : List (List (List Int))) (T : List (List Int)), (∀ t ∈ T, t.length = k) → (∀ r ∈ R, r ≠ [] ∧ ∀ t ∈ r, t.length = k) → remR (R.map (List.map padY)) (T.map padY) = (remR R T).map padY
  | [], _, _, _ => rfl
  | r :: R, T, hT, hR => by
    obtain ⟨h1, h2⟩ := hR r List.mem_cons_self
    show remR (R.map (List.map padY)) (addR (T.map padY) (r.map padY)) = _
    rw [addR_pad hT h2 h1]
    exact remR_pad R _ (addR_row hT h2) fun r' hr' => hR r' (List.mem_cons_of_mem _ hr')
theorem lexLt_pad {k : Nat} {x y : List Int} (hx : x.length = k) (hy : y.length = k) : lexLt (padY x) (padY y) = lexLt x y := by
  unfold padY
  rw [hx, hy]
  exact lexLt_append _ _ _ (hx.trans hy.symm)
theorem plcR_pad {k : Nat} (x : List Int) (hx : x.length = k) : ∀ (R : List (List (List Int))), (∀ r ∈ R, r ≠ [] ∧ ∀ t ∈ r, t.length = k) → plcR (R.map (List.map padY)) (padY x) = plcR R x
  | [], _ => rfl
  | r :: R, hR => by
    obtain ⟨h1, h2⟩ := hR r List.mem_cons_self
    have ih := plcR_pad x hx R fun r' hr' => hR r' (List.mem_cons_of_mem _ hr')
    unfold plcR at ih ⊢
    rw [List.map_cons, List.takeWhile_cons, List.takeWhile_cons, lastL_map padY h1, lexLt_pad hx (h2 _ (lastL_mem h1))]
    cases lexLt x (lastL r) with
    | true => simp only [if_true, List.length_cons, ih]
    | false => rfl
theorem withR_pad {k : Nat} (R : List (List (List Int))) (p : List (List Int)) (hp : ∀ t ∈ p, t.length = k) (hR : ∀ r ∈ R, r ≠ [] ∧ ∀ t ∈ r, t.length = k) : withR (R.map (List.map padY)) (p.map padY) = (withR R p).map (List.map padY) := by
  unfold withR
  rw [remR_pad R p hp hR]
  have hx : ∀ t ∈ remR R p, t.length = k := remR_all hp R fun r hr => (hR r hr).2
  generalize remR R p = x at *
  by_cases e : x = []
  · subst e; rfl
  · rw [if_neg e, if_neg (by simp [e])]
    unfold insR
    rw [lastL_map padY e, plcR_pad _ (hx _ (lastL_mem e)) R hR]
    simp [List.map_take, List.map_drop]
end Go.Proofs.Ytggebkcmokpcmaa
end
