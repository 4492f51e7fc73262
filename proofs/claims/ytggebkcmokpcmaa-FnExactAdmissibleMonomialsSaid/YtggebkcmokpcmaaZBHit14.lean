/-
  Joined: KOrd, KRows, KAsc.
-/
import Derived.Test.YtggebkcmokpcmaaZBHit08
import Derived.Test.YtggebkcmokpcmaaZBHit13
import Derived.Test.YtggebkcmokpcmaaZBHit03
import Derived.Test.YtggebkcmokpcmaaZBHit05
import Derived.Test.YtggebkcmokpcmaaZBHit09
section
namespace Go.Proofs.Ytggebkcmokpcmaa
open Go.RowKit
set_option maxRecDepth 100000
set_option linter.unusedVariables false

theorem lexLt_irrefl : ∀ xs, lexLt xs xs = false
  | [] => rfl
  | a :: l => by rw [lexLt, if_pos rfl]; exact lexLt_irrefl l
theorem lexLt_trans : ∀ xs ys zs, lexLt xs ys = true → lexLt ys zs = true → lexLt xs zs = true
  | [], [], _, h, _ => by simp [lexLt] at h
  | [], _ :: _, [], _, h => by simp [lexLt] at h
  | [], _ :: _, _ :: _, _, _ => rfl
  | _ :: _, [], _, h, _ => by simp [lexLt] at h
  | _ :: _, _ :: _, [], _, h => by simp [lexLt] at h
  | a :: l, b :: l', c :: l'', h, h' => by
    rw [lexLt] at h h' ⊢
    by_cases e : a = b
    · subst e
      rw [if_pos rfl] at h
      by_cases e2 : a = c
      · rw [if_pos e2] at h' ⊢; exact lexLt_trans l l' l'' h h'
      · rw [if_neg e2] at h' ⊢; exact h'
    · rw [if_neg e] at h
      have h1 := of_decide_eq_true h
      by_cases e2 : b = c
      · subst e2; rw [if_neg e]; exact h
      · rw [if_neg e2] at h'
        have h2 := of_decide_eq_true h'
        rw [if_neg (by omega)]
        exact decide_eq_true (by omega)
theorem lexLt_total : ∀ xs ys, lexLt xs ys = false → lexLt ys xs = false → xs = ys
  | [], [], _, _ => rfl
  | [], _ :: _, h, _ => by simp [lexLt] at h
  | _ :: _, [], _, h => by simp [lexLt] at h
  | a :: l, b :: l', h, h' => by
    rw [lexLt] at h h'
    by_cases e : a = b
    · subst e
      rw [if_pos rfl] at h h'
      rw [lexLt_total l l' h h']
    · rw [if_neg e] at h
      rw [if_neg (Ne.symm e)] at h'
      have h1 := of_decide_eq_false h
      have h2 := of_decide_eq_false h'
      omega
theorem lexLt_asymm (xs ys : List Int) (h : lexLt xs ys = true) : lexLt ys xs = false := by
  cases h' : lexLt ys xs with
  | false => rfl
  | true => have := lexLt_trans _ _ _ h h'; rw [lexLt_irrefl] at this; cases this

/-- Strictly ascending. -/
def Asc (xs : List (List Int)) : Prop := xs.Pairwise (fun x y => lexLt x y = true)
theorem Asc.nodup {xs : List (List Int)} (h : Asc xs) : xs.Nodup := List.Pairwise.imp (fun h e => by subst e; rw [lexLt_irrefl] at h; cases h) h

theorem asc_ext : ∀ (xs ys : List (List Int)), Asc xs → Asc ys → (∀ z, z ∈ xs ↔ z ∈ ys) → xs = ys
  | [], [], _, _, _ => rfl
  | [], y :: ys, _, _, h => absurd ((h y).2 List.mem_cons_self) (by simp)
  | x :: xs, [], _, _, h => absurd ((h x).1 List.mem_cons_self) (by simp)
  | x :: xs, y :: ys, hx, hy, h => by
    obtain ⟨hx1, hx2⟩ := List.pairwise_cons.1 hx
    obtain ⟨hy1, hy2⟩ := List.pairwise_cons.1 hy
    have e : x = y := by
      rcases List.mem_cons.1 ((h x).1 List.mem_cons_self) with e | h1
      · exact e
      · rcases List.mem_cons.1 ((h y).2 List.mem_cons_self) with e | h2
        · exact e.symm
        · have := lexLt_asymm _ _ (hx1 y h2); rw [hy1 x h1] at this; cases this
    subst e
    congr 1
    refine asc_ext xs ys hx2 hy2 fun z => ⟨fun hz => ?_, fun hz => ?_⟩
    · rcases List.mem_cons.1 ((h z).1 (List.mem_cons_of_mem _ hz)) with e | h1
      · subst e; have := hx1 z hz; rw [lexLt_irrefl] at this; cases this
      · exact h1
    · rcases List.mem_cons.1 ((h z).2 (List.mem_cons_of_mem _ hz)) with e | h1
      · subst e; have := hy1 z hz; rw [lexLt_irrefl] at this; cases this
      · exact h1

/-- The merge of two ascending lists, without what is in both. -/
def mrg : List (List Int) → List (List Int) → List (List Int)
  | [], ys => ys
  | x :: xs, [] => x :: xs
  | x :: xs, y :: ys => if lexLt x y then x :: mrg xs (y :: ys) else if lexLt y x then y :: mrg (x :: xs) ys else mrg xs ys
  termination_by xs ys => xs.length + ys.length

theorem mrg_nil (xs : List (List Int)) : mrg xs [] = xs := by cases xs <;> simp [mrg]
theorem mrg_sub : ∀ (xs ys : List (List Int)) (z : List Int), z ∈ mrg xs ys → z ∈ xs ∨ z ∈ ys
  | [], ys, z, h => by rw [mrg] at h; exact .inr h
  | x :: xs, [], z, h => by rw [mrg] at h; exact .inl h
  | x :: xs, y :: ys, z, h => by
    rw [mrg] at h
    split at h
    · rcases List.mem_cons.1 h with e | h
      · subst e; simp
      · rcases mrg_sub xs (y :: ys) z h with h | h
        · exact .inl (List.mem_cons_of_mem _ h)
        · exact .inr h
    · split at h
      · rcases List.mem_cons.1 h with e | h
        · subst e; simp
        · rcases mrg_sub (x :: xs) ys z h with h | h
          · exact .inl h
          · exact .inr (List.mem_cons_of_mem _ h)
      · rcases mrg_sub xs ys z h with h | h
        · exact .inl (List.mem_cons_of_mem _ h)
        · exact .inr (List.mem_cons_of_mem _ h)
  termination_by xs ys => xs.length + ys.length

theorem mrg_spec : ∀ (xs ys : List (List Int)), Asc xs → Asc ys → Asc (mrg xs ys) ∧ ∀ z, z ∈ mrg xs ys ↔ ((z ∈ xs ∧ z ∉ ys) ∨ (z ∉ xs ∧ z ∈ ys))
  | [], ys, _, hy => by rw [mrg]; exact ⟨hy, by simp⟩
  | x :: xs, [], hx, _ => by rw [mrg]; exact ⟨hx, by simp⟩
  | x :: xs, y :: ys, hx, hy => by
    obtain ⟨hx1, hx2⟩ := List.pairwise_cons.1 hx
    obtain ⟨hy1, hy2⟩ := List.pairwise_cons.1 hy
    rw [mrg]
    split
    · rename_i hlt
      obtain ⟨ih1, ih2⟩ := mrg_spec xs (y :: ys) hx2 hy
      have hx' : x ∉ y :: ys := by
        intro hm
        rcases List.mem_cons.1 hm with e | hm
        · subst e; rw [lexLt_irrefl] at hlt; cases hlt
        · have := lexLt_trans _ _ _ hlt (hy1 x hm); rw [lexLt_irrefl] at this; cases this
      have hxx : x ∉ xs := fun hm => by have := hx1 x hm; rw [lexLt_irrefl] at this; cases this
      refine ⟨List.pairwise_cons.2 ⟨fun z hz => ?_, ih1⟩, fun z => ?_⟩
      · rcases mrg_sub xs (y :: ys) z hz with h | h
        · exact hx1 z h
        · rcases List.mem_cons.1 h with e | h
          · subst e; exact hlt
          · exact lexLt_trans _ _ _ hlt (hy1 z h)
      · rw [List.mem_cons, ih2, List.mem_cons (a := z) (b := x) (l := xs)]
        constructor
        · rintro (e | h)
          · subst e; exact .inl ⟨.inl rfl, hx'⟩
          · rcases h with ⟨h1, h2⟩ | ⟨h1, h2⟩
            · exact .inl ⟨.inr h1, h2⟩
            · refine .inr ⟨?_, h2⟩
              rintro (e | h)
              · subst e; exact hx' h2
              · exact h1 h
        · rintro (⟨h1, h2⟩ | ⟨h1, h2⟩)
          · rcases h1 with e | h1
            · exact .inl e
            · exact .inr (.inl ⟨h1, h2⟩)
          · exact .inr (.inr ⟨fun h => h1 (.inr h), h2⟩)
    · rename_i hnlt
      split
      · rename_i hlt
        obtain ⟨ih1, ih2⟩ := mrg_spec (x :: xs) ys hx hy2
        have hy' : y ∉ x :: xs := by
          intro hm
          rcases List.mem_cons.1 hm with e | hm
          · subst e; rw [lexLt_irrefl] at hlt; cases hlt
          · have := lexLt_trans _ _ _ hlt (hx1 y hm); rw [lexLt_irrefl] at this; cases this
        refine ⟨List.pairwise_cons.2 ⟨fun z hz => ?_, ih1⟩, fun z => ?_⟩
        · rcases mrg_sub (x :: xs) ys z hz with h | h
          · rcases List.mem_cons.1 h with e | h
            · subst e; exact hlt
            · exact lexLt_trans _ _ _ hlt (hx1 z h)
          · exact hy1 z h
        · rw [List.mem_cons, ih2, List.mem_cons (a := z) (b := y) (l := ys)]
          have hyy : y ∉ ys := fun hm => by have := hy1 y hm; rw [lexLt_irrefl] at this; cases this
          constructor
          · rintro (e | h)
            · subst e; exact .inr ⟨hy', .inl rfl⟩
            · rcases h with ⟨h1, h2⟩ | ⟨h1, h2⟩
              · refine .inl ⟨h1, ?_⟩
                rintro (e | h)
                · subst e; exact hy' h1
                · exact h2 h
              · exact .inr ⟨h1, .inr h2⟩
          · rintro (⟨h1, h2⟩ | ⟨h1, h2⟩)
            · exact .inr (.inl ⟨h1, fun h => h2 (.inr h)⟩)
            · rcases h2 with e | h2
              · exact .inl e
              · exact .inr (.inr ⟨h1, h2⟩)
      · rename_i hnlt2
        obtain ⟨ih1, ih2⟩ := mrg_spec xs ys hx2 hy2
        have e : x = y := lexLt_total _ _ (Bool.eq_false_iff.2 hnlt) (Bool.eq_false_iff.2 hnlt2)
        subst e
        refine ⟨ih1, fun z => ?_⟩
        have hxx : x ∉ xs := fun hm => by have := hx1 x hm; rw [lexLt_irrefl] at this; cases this
        have hyy : x ∉ ys := fun hm => by have := hy1 x hm; rw [lexLt_irrefl] at this; cases this
        rw [ih2, List.mem_cons, List.mem_cons]
        by_cases e : z = x
        · subst e; simp [hxx, hyy]
        · simp [e]
  termination_by xs ys => xs.length + ys.length

theorem par_nodup {α : Type} (l : List α) (h : l.Nodup) (k : α) : par l k ↔ k ∈ l := by
  induction l with
  | nil => simp [par]
  | cons x l ih =>
    obtain ⟨h1, h2⟩ := List.nodup_cons.1 h
    show (x = k ∧ ¬ par l k) ∨ (x ≠ k ∧ par l k) ↔ _
    rw [ih h2, List.mem_cons]
    by_cases e : x = k
    · subst e; simp [h1]
    · simp [e, Ne.symm e]

theorem images {α β : Type} (f : α → β) (P : α → Prop) : ∀ (rs : List β), (∀ k ∈ rs, ∃ x, P x ∧ k = f x) → ∃ ts : List α, rs = ts.map f ∧ ∀ x ∈ ts, P x
  | [], _ => ⟨[], rfl, by simp⟩
  | k :: rs, h => by
    obtain ⟨ts, e, hp⟩ := images f P rs (fun k' hk' => h k' (List.mem_cons_of_mem _ hk'))
    obtain ⟨x, hx, ex⟩ := h k List.mem_cons_self
    exact ⟨x :: ts, by rw [e, ex]; rfl, fun y hy => by
      rcases List.mem_cons.1 hy with e | hy
      · subst e; exact hx
      · exact hp y hy⟩

theorem par_map {α β : Type} (f : α → β) (P : α → Prop) (inj : ∀ x y, P x → P y → f x = f y → x = y) (x : α) (hx : P x) : ∀ (l : List α), (∀ y ∈ l, P y) → (par (l.map f) (f x) ↔ par l x)
  | [], _ => Iff.rfl
  | y :: l, h => by
    have ih := par_map f P inj x hx l (fun z hz => h z (List.mem_cons_of_mem _ hz))
    have e : f y = f x ↔ y = x := ⟨inj y x (h y List.mem_cons_self) hx, fun e => by rw [e]⟩
    show (f y = f x ∧ ¬ par (l.map f) (f x)) ∨ (f y ≠ f x ∧ par (l.map f) (f x)) ↔ (y = x ∧ ¬ par l x) ∨ (y ≠ x ∧ par l x)
    rw [ih, ne_eq, e]
theorem par_filter {α : Type} (Q : α → Bool) (x : α) : ∀ (l : List α), par (l.filter Q) x ↔ (Q x = true ∧ par l x)
  | [] => by simp [par]
  | y :: l => by
    have ih := par_filter Q x l
    by_cases hq : Q y = true
    · rw [List.filter_cons_of_pos hq]
      show (y = x ∧ ¬ par (l.filter Q) x) ∨ (y ≠ x ∧ par (l.filter Q) x) ↔ Q x = true ∧ ((y = x ∧ ¬ par l x) ∨ (y ≠ x ∧ par l x))
      rw [ih]
      by_cases e : y = x
      · subst e; simp [hq]
      · simp [e]
    · rw [List.filter_cons_of_neg hq]
      show par (l.filter Q) x ↔ Q x = true ∧ ((y = x ∧ ¬ par l x) ∨ (y ≠ x ∧ par l x))
      rw [ih]
      by_cases e : y = x
      · subst e; simp [hq]
      · simp [e]

/-- What is summed by keys. -/
theorem keys_par {α β : Type} (f : α → β) (P : α → Prop) (inj : ∀ x y, P x → P y → f x = f y → x = y) (ls ms : List α) (ha : ∀ x ∈ ls, P x) (hb : ∀ x ∈ ms, P x)
    (rs : List β) (hn : rs.Nodup) (hm : ∀ k, k ∈ rs ↔ par (ls.map f ++ ms.map f) k) :
    ∃ ts : List α, rs = ts.map f ∧ ts.Nodup ∧ (∀ x ∈ ts, P x) ∧ ∀ x, x ∈ ts ↔ par (ls ++ ms) x := by
  have hP : ∀ x ∈ ls ++ ms, P x := fun x hx => by
    rcases List.mem_append.1 hx with h | h
    · exact ha x h
    · exact hb x h
  rw [← List.map_append] at hm
  obtain ⟨ts, e, hp⟩ := images f P rs (fun k hk => by
    obtain ⟨y, hy, e⟩ := List.mem_map.1 (par_mem _ _ ((hm k).1 hk))
    exact ⟨y, hP y hy, e.symm⟩)
  subst e
  have key : ∀ x, P x → (x ∈ ts ↔ par (ls ++ ms) x) := by
    intro x hx
    rw [← par_map f P inj x hx _ hP, ← hm]
    constructor
    · exact fun h => List.mem_map_of_mem h
    · intro h
      obtain ⟨y, hy, e⟩ := List.mem_map.1 h
      rw [inj x y hx (hp y hy) e.symm]; exact hy
  refine ⟨ts, rfl, (List.pairwise_map.1 hn).imp fun h e => h (by rw [e]), hp, fun x => ⟨fun h => (key x (hp x h)).1 h, fun h => (key x (hP x (par_mem _ _ h))).2 h⟩⟩

theorem sum_nodup (Q : List Int → Bool) (ls ms ts us : List (List Int)) (nt : ts.Nodup) (nu : us.Nodup)
    (ht : ∀ x ∈ ts, Q x = true) (hu : ∀ x ∈ us, Q x = false) : (ts ++ us).Nodup := by
  refine List.nodup_append.2 ⟨nt, nu, fun x hx y hy e => ?_⟩
  subst e
  have := ht x hx
  rw [hu x hy] at this
  cases this
theorem nodup_len {α : Type} : ∀ (l m : List α), l.Nodup → (∀ x ∈ l, x ∈ m) → l.length ≤ m.length
  | [], m, _, _ => Nat.zero_le _
  | x :: l, m, hn, hs => by
    obtain ⟨h1, h2⟩ := List.nodup_cons.1 hn
    obtain ⟨a, b, rfl⟩ := List.append_of_mem (hs x List.mem_cons_self)
    have := nodup_len l (a ++ b) h2 (fun y hy => by
      have h3 := hs y (List.mem_cons_of_mem _ hy)
      rcases List.mem_append.1 h3 with h3 | h3
      · exact List.mem_append_left _ h3
      · rcases List.mem_cons.1 h3 with e | h3
        · subst e; exact absurd hy h1
        · exact List.mem_append_right _ h3)
    simp only [List.length_append, List.length_cons] at this ⊢
    omega

end Go.Proofs.Ytggebkcmokpcmaa
end
section
namespace Go.Proofs.Ytggebkcmokpcmaa
open Go.RowKit
set_option maxRecDepth 100000
set_option linter.unusedVariables false

/-- The first m of the lists. -/
def rowsL (X : Nat → List Int) (m : Nat) : List (List Int) := (List.range m).map X
theorem rowsL_succ (X : Nat → List Int) (m : Nat) : rowsL X (m + 1) = rowsL X m ++ [X m] := by simp [rowsL, List.range_succ]
theorem rowsL_len (X : Nat → List Int) (m : Nat) : (rowsL X m).length = m := by simp [rowsL]
theorem mem_rowsL {X : Nat → List Int} {m : Nat} {x : List Int} (h : x ∈ rowsL X m) : ∃ i, i < m ∧ x = X i := by
  obtain ⟨i, hi, e⟩ := List.mem_map.1 h
  exact ⟨i, List.mem_range.1 hi, e.symm⟩

/-- A row of numbers is put behind a family: what the walk wants. -/
theorem fam_put {w w1 w3 : World} {B n : Nat} {S V3 v : Value} {VS : Nat → Value} {L : List (List Int)} {x : List Int} (hF : FamL w B S VS L) (hS : Sep L.length VS) (hB : B ≤ w.heap.size)
    (hv : w1.ownsRow w.heap.size 2 1 v n (x.map (Value.int .i64))) (hn : n = x.length) (hb : Below w.heap.size w w1) (o : Obj)
    (hV3 : w3.ownsRow B 42 1 V3 (L.length + 1) ((List.range L.length).map VS ++ [v])) (hg : (w1.alloc o).grownBy w3 S.ownBlock) :
    FamL w3 B V3 (ext VS L.length v) (L ++ [x]) ∧ Sep (L ++ [x]).length (ext VS L.length v) ∧ Below B w w3 := by
  have hsz := hb.size
  have hF1 : FamL w1 B S VS L := hF.below hb
  have K3 : KeepI none w1 w3 := (KeepI.below ((Below.refl _ w1).alloc (Nat.le_refl _) _) none).trans (KeepI.row (hF1.out.alloc o) hg none)
  have N3 := K3.own (own_base hv hB) (Classical.em _)
  refine ⟨FamL.push hF1 (fun _ _ => Classical.em _) K3 hV3 N3 hn, ?_, ?_⟩
  · rw [List.length_append]
    exact Sep.ext hS (fun i hi => apart_new (hF.inn i hi) (fun k hk => (hv.lt k hk).1))
  · exact (hb.mono hB).trans (((Below.refl _ w1).alloc (by omega) o).grown hg (by simp; omega) (fun k hk => (hF1.out.lt k hk).1))
end Go.Proofs.Ytggebkcmokpcmaa
end
section
namespace Go.Proofs.Ytggebkcmokpcmaa
open Go.RowKit
set_option maxRecDepth 100000
set_option linter.unusedVariables false

theorem step_lt (X : Nat → List Int) (m : Nat) (h : ∀ i, i < m → stepOk X i) : ∀ j, j < m → ∀ i, i < j → lexLt (X i) (X j) = true := by
  intro j
  induction j with
  | zero => intro _ i hi; exact absurd hi (Nat.not_lt_zero _)
  | succ j ih =>
    intro hj i hi
    have h1 : lexLt (X j) (X (j + 1)) = true := h (j + 1) hj (Nat.succ_pos _)
    by_cases e : i = j
    · subst e; exact h1
    · exact lexLt_trans _ _ _ (ih (by omega) i (by omega)) h1
theorem asc_rows (X : Nat → List Int) (m : Nat) (h : ∀ i, i < m → stepOk X i) : Asc (rowsL X m) := by
  refine List.pairwise_iff_getElem.2 fun i j hi hj hij => ?_
  rw [rowsL_len] at hi hj
  simp only [rowsL, List.getElem_map, List.getElem_range]
  exact step_lt X m h j hj i hij

theorem mrg_short (X Y : Nat → List Int) (m n : Nat) (hX : ∀ i, i < m → (X i).length ≤ 20) (hY : ∀ i, i < n → (Y i).length ≤ 20) (i : Nat) : (rowsOf (mrg (rowsL X m) (rowsL Y n)) i).length ≤ 20 := by
  unfold rowsOf
  by_cases h : i < (mrg (rowsL X m) (rowsL Y n)).length
  · rw [List.getElem?_eq_getElem h]
    rcases mrg_sub _ _ _ (List.getElem_mem h) with h1 | h1
    · obtain ⟨j, hj, e⟩ := mem_rowsL h1
      show (mrg (rowsL X m) (rowsL Y n))[i].length ≤ 20
      rw [e]; exact hX j hj
    · obtain ⟨j, hj, e⟩ := mem_rowsL h1
      show (mrg (rowsL X m) (rowsL Y n))[i].length ≤ 20
      rw [e]; exact hY j hj
  · rw [List.getElem?_eq_none (by omega)]
    exact Nat.zero_le _

end Go.Proofs.Ytggebkcmokpcmaa
end
