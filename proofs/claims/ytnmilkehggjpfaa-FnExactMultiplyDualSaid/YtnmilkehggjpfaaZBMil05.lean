/-
  Joined: KOrd, WPut.
-/
import Derived.Test.YtnmilkehggjpfaaZBMil04
import Derived.Test.YtnmilkehggjpfaaZBMil03
import Derived.Deep.RegionLaw
import Derived.Laws.AppendOwnNone
section
namespace Go.Proofs.Ytnmilkehggjpfaa
open Go.RowKit
set_option maxRecDepth 100000
set_option linter.unusedVariables false

theorem lexLt_irrefl : ∀ xs, lexLt xs xs = false
  | [] => rfl
  | a :: l => by rw [lexLt, if_pos rfl]; exact lexLt_irrefl l
theorem lexLt_trans : ∀ xs ys zs, lexLt xs ys = true → lexLt ys zs = true → lexLt xs zs = true
  | [], [], _, h, _ => by simp [lexLt] at h
  | [], _ :: _, [], _, h => by simp [lexLt] at h
  | [], _ :: _, _ :: _, _, _ => rfl
  | _ :: _, [], _, h, _ => by simp [lexLt] at h
  | _ :: _, _ :: _, [], _, h => by simp [lexLt] at h
  | a :: l, b :: l', c :: l'', h, h' => by
    rw [lexLt] at h h' ⊢
    by_cases e : a = b
    · subst e
      rw [if_pos rfl] at h
      by_cases e2 : a = c
      · rw [if_pos e2] at h' ⊢; exact lexLt_trans l l' l'' h h'
      · rw [if_neg e2] at h' ⊢; exact h'
    · rw [if_neg e] at h
      have h1 := of_decide_eq_true h
      by_cases e2 : b = c
      · subst e2; rw [if_neg e]; exact h
      · rw [if_neg e2] at h'
        have h2 := of_decide_eq_true h'
        rw [if_neg (by omega)]
        exact decide_eq_true (by omega)
theorem lexLt_total : ∀ xs ys, lexLt xs ys = false → lexLt ys xs = false → xs = ys
  | [], [], _, _ => rfl
  | [], _ :: _, h, _ => by simp [lexLt] at h
  | _ :: _, [], _, h => by simp [lexLt] at h
  | a :: l, b :: l', h, h' => by
    rw [lexLt] at h h'
    by_cases e : a = b
    · subst e
      rw [if_pos rfl] at h h'
      rw [lexLt_total l l' h h']
    · rw [if_neg e] at h
      rw [if_neg (Ne.symm e)] at h'
      have h1 := of_decide_eq_false h
      have h2 := of_decide_eq_false h'
      omega
theorem lexLt_asymm (xs ys : List Int) (h : lexLt xs ys = true) : lexLt ys xs = false := by
  cases h' : lexLt ys xs with
  | false => rfl
  | true => have := lexLt_trans _ _ _ h h'; rw [lexLt_irrefl] at this; cases this

/-- Strictly ascending. -/
def Asc (xs : List (List Int)) : Prop := xs.Pairwise (fun x y => lexLt x y = true)
theorem Asc.nodup {xs : List (List Int)} (h : Asc xs) : xs.Nodup := List.Pairwise.imp (fun h e => by subst e; rw [lexLt_irrefl] at h; cases h) h

theorem asc_ext : ∀ (xs ys : List (List Int)), Asc xs → Asc ys → (∀ z, z ∈ xs ↔ z ∈ ys) → xs = ys
  | [], [], _, _, _ => rfl
  | [], y :: ys, _, _, h => absurd ((h y).2 List.mem_cons_self) (by simp)
  | x :: xs, [], _, _, h => absurd ((h x).1 List.mem_cons_self) (by simp)
  | x :: xs, y :: ys, hx, hy, h => by
    obtain ⟨hx1, hx2⟩ := List.pairwise_cons.1 hx
    obtain ⟨hy1, hy2⟩ := List.pairwise_cons.1 hy
    have e : x = y := by
      rcases List.mem_cons.1 ((h x).1 List.mem_cons_self) with e | h1
      · exact e
      · rcases List.mem_cons.1 ((h y).2 List.mem_cons_self) with e | h2
        · exact e.symm
        · have := lexLt_asymm _ _ (hx1 y h2); rw [hy1 x h1] at this; cases this
    subst e
    congr 1
    refine asc_ext xs ys hx2 hy2 fun z => ⟨fun hz => ?_, fun hz => ?_⟩
    · rcases List.mem_cons.1 ((h z).1 (List.mem_cons_of_mem _ hz)) with e | h1
      · subst e; have := hx1 z hz; rw [lexLt_irrefl] at this; cases this
      · exact h1
    · rcases List.mem_cons.1 ((h z).2 (List.mem_cons_of_mem _ hz)) with e | h1
      · subst e; have := hy1 z hz; rw [lexLt_irrefl] at this; cases this
      · exact h1

/-- The merge of two ascending lists, without what is in both. -/
def mrg : List (List Int) → List (List Int) → List (List Int)
  | [], ys => ys
  | x :: xs, [] => x :: xs
  | x :: xs, y :: ys => if lexLt x y then x :: mrg xs (y :: ys) else if lexLt y x then y :: mrg (x :: xs) ys else mrg xs ys
  termination_by xs ys => xs.length + ys.length

theorem mrg_nil (xs : List (List Int)) : mrg xs [] = xs := by cases xs <;> simp [mrg]
theorem mrg_sub : ∀ (xs ys : List (List Int)) (z : List Int), z ∈ mrg xs ys → z ∈ xs ∨ z ∈ ys
  | [], ys, z, h => by rw [mrg] at h; exact .inr h
  | x :: xs, [], z, h => by rw [mrg] at h; exact .inl h
  | x :: xs, y :: ys, z, h => by
    rw [mrg] at h
    split at h
    · rcases List.mem_cons.1 h with e | h
      · subst e; simp
      · rcases mrg_sub xs (y :: ys) z h with h | h
        · exact .inl (List.mem_cons_of_mem _ h)
        · exact .inr h
    · split at h
      · rcases List.mem_cons.1 h with e | h
        · subst e; simp
        · rcases mrg_sub (x :: xs) ys z h with h | h
          · exact .inl h
          · exact .inr (List.mem_cons_of_mem _ h)
      · rcases mrg_sub xs ys z h with h | h
        · exact .inl (List.mem_cons_of_mem _ h)
        · exact .inr (List.mem_cons_of_mem _ h)
  termination_by xs ys => xs.length + ys.length

theorem mrg_spec : ∀ (xs ys : List (List Int)), Asc xs → Asc ys → Asc (mrg xs ys) ∧ ∀ z, z ∈ mrg xs ys ↔ ((z ∈ xs ∧ z ∉ ys) ∨ (z ∉ xs ∧ z ∈ ys))
  | [], ys, _, hy => by rw [mrg]; exact ⟨hy, by simp⟩
  | x :: xs, [], hx, _ => by rw [mrg]; exact ⟨hx, by simp⟩
  | x :: xs, y :: ys, hx, hy => by
    obtain ⟨hx1, hx2⟩ := List.pairwise_cons.1 hx
    obtain ⟨hy1, hy2⟩ := List.pairwise_cons.1 hy
    rw [mrg]
    split
    · rename_i hlt
      obtain ⟨ih1, ih2⟩ := mrg_spec xs (y :: ys) hx2 hy
      have hx' : x ∉ y :: ys := by
        intro hm
        rcases List.mem_cons.1 hm with e | hm
        · subst e; rw [lexLt_irrefl] at hlt; cases hlt
        · have := lexLt_trans _ _ _ hlt (hy1 x hm); rw [lexLt_irrefl] at this; cases this
      have hxx : x ∉ xs := fun hm => by have := hx1 x hm; rw [lexLt_irrefl] at this; cases this
      refine ⟨List.pairwise_cons.2 ⟨fun z hz => ?_, ih1⟩, fun z => ?_⟩
      · rcases mrg_sub xs (y :: ys) z hz with h | h
        · exact hx1 z h
        · rcases List.mem_cons.1 h with e | h
          · subst e; exact hlt
          · exact lexLt_trans _ _ _ hlt (hy1 z h)
      · rw [List.mem_cons, ih2, List.mem_cons (a := z) (b := x) (l := xs)]
        constructor
        · rintro (e | h)
          · subst e; exact .inl ⟨.inl rfl, hx'⟩
          · rcases h with ⟨h1, h2⟩ | ⟨h1, h2⟩
            · exact .inl ⟨.inr h1, h2⟩
            · refine .inr ⟨?_, h2⟩
              rintro (e | h)
              · subst e; exact hx' h2
              · exact h1 h
        · rintro (⟨h1, h2⟩ | ⟨h1, h2⟩)
          · rcases h1 with e | h1
            · exact .inl e
            · exact .inr (.inl ⟨h1, h2⟩)
          · exact .inr (.inr ⟨fun h => h1 (.inr h), h2⟩)
    · rename_i hnlt
      split
      · rename_i hlt
        obtain ⟨ih1, ih2⟩ := mrg_spec (x :: xs) ys hx hy2
        have hy' : y ∉ x :: xs := by
          intro hm
          rcases List.mem_cons.1 hm with e | hm
          · subst e; rw [lexLt_irrefl] at hlt; cases hlt
          · have := lexLt_trans _ _ _ hlt (hx1 y hm); rw [lexLt_irrefl] at this; cases this
        refine ⟨List.pairwise_cons.2 ⟨fun z hz => ?_, ih1⟩, fun z => ?_⟩
        · rcases mrg_sub (x :: xs) ys z hz with h | h
          · rcases List.mem_cons.1 h with e | h
            · subst e; exact hlt
            · exact lexLt_trans _ _ _ hlt (hx1 z h)
          · exact hy1 z h
        · rw [List.mem_cons, ih2, List.mem_cons (a := z) (b := y) (l := ys)]
          have hyy : y ∉ ys := fun hm => by have := hy1 y hm; rw [lexLt_irrefl] at this; cases this
          constructor
          · rintro (e | h)
            · subst e; exact .inr ⟨hy', .inl rfl⟩
            · rcases h with ⟨h1, h2⟩ | ⟨h1, h2⟩
              · refine .inl ⟨h1, ?_⟩
                rintro (e | h)
                · subst e; exact hy' h1
                · exact h2 h
              · exact .inr ⟨h1, .inr h2⟩
          · rintro (⟨h1, h2⟩ | ⟨h1, h2⟩)
            · exact .inr (.inl ⟨h1, fun h => h2 (.inr h)⟩)
            · rcases h2 with e | h2
              · exact .inl e
              · exact .inr (.inr ⟨h1, h2⟩)
      · rename_i hnlt2
        obtain ⟨ih1, ih2⟩ := mrg_spec xs ys hx2 hy2
        have e : x = y := lexLt_total _ _ (Bool.eq_false_iff.2 hnlt) (Bool.eq_false_iff.2 hnlt2)
        subst e
        refine ⟨ih1, fun z => ?_⟩
        have hxx : x ∉ xs := fun hm => by have := hx1 x hm; rw [lexLt_irrefl] at this; cases this
        have hyy : x ∉ ys := fun hm => by have := hy1 x hm; rw [lexLt_irrefl] at this; cases this
        rw [ih2, List.mem_cons, List.mem_cons]
        by_cases e : z = x
        · subst e; simp [hxx, hyy]
        · simp [e]
  termination_by xs ys => xs.length + ys.length

theorem par_nodup {α : Type} (l : List α) (h : l.Nodup) (k : α) : par l k ↔ k ∈ l := by
  induction l with
  | nil => simp [par]
  | cons x l ih =>
    obtain ⟨h1, h2⟩ := List.nodup_cons.1 h
    show (x = k ∧ ¬ par l k) ∨ (x ≠ k ∧ par l k) ↔ _
    rw [ih h2, List.mem_cons]
    by_cases e : x = k
    · subst e; simp [h1]
    · simp [e, Ne.symm e]

theorem images {α β : Type} (f : α → β) (P : α → Prop) : ∀ (rs : List β), (∀ k ∈ rs, ∃ x, P x ∧ k = f x) → ∃ ts : List α, rs = ts.map f ∧ ∀ x ∈ ts, P x
  | [], _ => ⟨[], rfl, by simp⟩
  | k :: rs, h => by
    obtain ⟨ts, e, hp⟩ := images f P rs (fun k' hk' => h k' (List.mem_cons_of_mem _ hk'))
    obtain ⟨x, hx, ex⟩ := h k List.mem_cons_self
    exact ⟨x :: ts, by rw [e, ex]; rfl, fun y hy => by
      rcases List.mem_cons.1 hy with e | hy
      · subst e; exact hx
      · exact hp y hy⟩

theorem par_map {α β : Type} (f : α → β) (P : α → Prop) (inj : ∀ x y, P x → P y → f x = f y → x = y) (x : α) (hx : P x) : ∀ (l : List α), (∀ y ∈ l, P y) → (par (l.map f) (f x) ↔ par l x)
  | [], _ => Iff.rfl
  | y :: l, h => by
    have ih := par_map f P inj x hx l (fun z hz => h z (List.mem_cons_of_mem _ hz))
    have e : f y = f x ↔ y = x := ⟨inj y x (h y List.mem_cons_self) hx, fun e => by rw [e]⟩
    show (f y = f x ∧ ¬ par (l.map f) (f x)) ∨ (f y ≠ f x ∧ par (l.map f) (f x)) ↔ (y = x ∧ ¬ par l x) ∨ (y ≠ x ∧ par l x)
    rw [ih, ne_eq, e]
theorem par_filter {α : Type} (Q : α → Bool) (x : α) : ∀ (l : List α), par (l.filter Q) x ↔ (Q x = true ∧ par l x)
  | [] => by simp [par]
  | y :: l => by
    have ih := par_filter Q x l
    by_cases hq : Q y = true
    · rw [List.filter_cons_of_pos hq]
      show (y = x ∧ ¬ par (l.filter Q) x) ∨ (y ≠ x ∧ par (l.filter Q) x) ↔ Q x = true ∧ ((y = x ∧ ¬ par l x) ∨ (y ≠ x ∧ par l x))
      rw [ih]
      by_cases e : y = x
      · subst e; simp [hq]
      · simp [e]
    · rw [List.filter_cons_of_neg hq]
      show par (l.filter Q) x ↔ Q x = true ∧ ((y = x ∧ ¬ par l x) ∨ (y ≠ x ∧ par l x))
      rw [ih]
      by_cases e : y = x
      · subst e; simp [hq]
      · simp [e]

/-- What is summed by keys. -/
theorem keys_par {α β : Type} (f : α → β) (P : α → Prop) (inj : ∀ x y, P x → P y → f x = f y → x = y) (ls ms : List α) (ha : ∀ x ∈ ls, P x) (hb : ∀ x ∈ ms, P x)
    (rs : List β) (hn : rs.Nodup) (hm : ∀ k, k ∈ rs ↔ par (ls.map f ++ ms.map f) k) :
    ∃ ts : List α, rs = ts.map f ∧ ts.Nodup ∧ (∀ x ∈ ts, P x) ∧ ∀ x, x ∈ ts ↔ par (ls ++ ms) x := by
  have hP : ∀ x ∈ ls ++ ms, P x := fun x hx => by
    rcases List.mem_append.1 hx with h | h
    · exact ha x h
    · exact hb x h
  rw [← List.map_append] at hm
  obtain ⟨ts, e, hp⟩ := images f P rs (fun k hk => by
    obtain ⟨y, hy, e⟩ := List.mem_map.1 (par_mem _ _ ((hm k).1 hk))
    exact ⟨y, hP y hy, e.symm⟩)
  subst e
  have key : ∀ x, P x → (x ∈ ts ↔ par (ls ++ ms) x) := by
    intro x hx
    rw [← par_map f P inj x hx _ hP, ← hm]
    constructor
    · exact fun h => List.mem_map_of_mem h
    · intro h
      obtain ⟨y, hy, e⟩ := List.mem_map.1 h
      rw [inj x y hx (hp y hy) e.symm]; exact hy
  refine ⟨ts, rfl, (List.pairwise_map.1 hn).imp fun h e => h (by rw [e]), hp, fun x => ⟨fun h => (key x (hp x h)).1 h, fun h => (key x (hP x (par_mem _ _ h))).2 h⟩⟩

theorem sum_nodup (Q : List Int → Bool) (ls ms ts us : List (List Int)) (nt : ts.Nodup) (nu : us.Nodup)
    (ht : ∀ x ∈ ts, Q x = true) (hu : ∀ x ∈ us, Q x = false) : (ts ++ us).Nodup := by
  refine List.nodup_append.2 ⟨nt, nu, fun x hx y hy e => ?_⟩
  subst e
  have := ht x hx
  rw [hu x hy] at this
  cases this
theorem nodup_len {α : Type} : ∀ (l m : List α), l.Nodup → (∀ x ∈ l, x ∈ m) → l.length ≤ m.length
  | [], m, _, _ => Nat.zero_le _
  | x :: l, m, hn, hs => by
    obtain ⟨h1, h2⟩ := List.nodup_cons.1 hn
    obtain ⟨a, b, rfl⟩ := List.append_of_mem (hs x List.mem_cons_self)
    have := nodup_len l (a ++ b) h2 (fun y hy => by
      have h3 := hs y (List.mem_cons_of_mem _ hy)
      rcases List.mem_append.1 h3 with h3 | h3
      · exact List.mem_append_left _ h3
      · rcases List.mem_cons.1 h3 with e | h3
        · subst e; exact absurd hy h1
        · exact List.mem_append_right _ h3)
    simp only [List.length_append, List.length_cons] at this ⊢
    omega

end Go.Proofs.Ytnmilkehggjpfaa
end
section
namespace Go.Proofs.Ytnmilkehggjpfaa
open Go.RowKit
set_option linter.unusedVariables false
set_option maxRecDepth 100000

/-! ### append of rows of rows, whatever the source -/
theorem wp_rows {o : Oper} {a : Act} {K : Act → World → Prop} {Q : Exit → Act → World → Prop} (w : World) (s x : Operand) (ho : o.op = .call { callee := .builtin .append, args := #[s, x], argTypes := #[22, 22] })
    (B n : Nat) (v : Value) (xs : List Value) (hs : a.eval s = v) (hown : w.ownsRow B 65 1 v n xs) (ap : Option Addr) (m c : Nat) (news : List Value) (hx : a.eval x = .slice ap m c)
    (hsrc : (ap = none ∧ m = 0 ∧ c = 0) ∨ ∃ ad, ap = some ad ∧ ∀ j u, news[j]? = some u → w.cell? (ad.add j) = some u) (hl : news.length = m) (h1 : ∀ u ∈ news, u.oneCell' = true) (hn : n + m ≤ 400000000000) (hB : B ≤ w.heap.size)
    (h : ∀ v' w', w'.ownsRow B 65 1 v' (n + m) (xs ++ news) → w.grownBy w' v.ownBlock → K (a.put o.dst v') w') : o.wp Try.prog a w K Q := by
  obtain ⟨i1, hj, hy0, hy1, hy2⟩ := info_parts Try.infoS
  rcases hsrc with ⟨rfl, rfl, rfl⟩ | ⟨ad, rfl, hc⟩
  · have hnews : news = [] := List.eq_nil_of_length_eq_zero hl
    subst hnews
    have hrun := run_append_owned_none (P := Try.prog) (w := w) B 22 o.type 65 i1 1 Try.underlying22 hj v n xs hown
    unfold Oper.wp
    simp [execOp, ho, resolve, invoke, builtin, hs, hx, hrun, Result.andThen]
    refine h v w (by simpa using hown) (World.grownBy.refl w _)
  · exact wp_append_own w s x 22 ho B 65 i1 (.slice none 0 0) 1 24 Try.underlying22 hj hy0 hy1 hy2 rfl (by decide) v n xs hs hown ad m c news hx (by omega) hc h1 (by unfold maxLen; omega) (by omega) hB
      (fun v' w' h2 h3 _ => h v' w' h2 h3)
theorem wpList_rows {ops : Array Oper} {rest : List Oper} {o : Oper} {a : Act} {Q : Exit → Act → World → Prop} (w : World) (hgd : o.guard = none) (s x : Operand) (ho : o.op = .call { callee := .builtin .append, args := #[s, x], argTypes := #[22, 22] })
    (B n : Nat) (v : Value) (xs : List Value) (hs : a.eval s = v) (hown : w.ownsRow B 65 1 v n xs) (ap : Option Addr) (m c : Nat) (news : List Value) (hx : a.eval x = .slice ap m c)
    (hsrc : (ap = none ∧ m = 0 ∧ c = 0) ∨ ∃ ad, ap = some ad ∧ ∀ j u, news[j]? = some u → w.cell? (ad.add j) = some u) (hl : news.length = m) (h1 : ∀ u ∈ news, u.oneCell' = true) (hn : n + m ≤ 400000000000) (hB : B ≤ w.heap.size)
    (h : ∀ v' w', w'.ownsRow B 65 1 v' (n + m) (xs ++ news) → w.grownBy w' v.ownBlock → wpList Try.prog ops Q rest (a.put o.dst v') w') : wpList Try.prog ops Q (o :: rest) a w :=
  wpList_plain hgd fun _ hK => wp_rows w s x ho B n v xs hs hown ap m c news hx hsrc hl h1 hn hB fun v' w' h2 h3 => hK _ _ (h v' w' h2 h3)
theorem step_rows {ops : Array Oper} {o : Oper} {a : Act} {w : World} {K : Act → World → Prop} {Q : Exit → Act → World → Prop} {E : Prop} (hgd : o.guard = none) (s x : Operand) (ho : o.op = .call { callee := .builtin .append, args := #[s, x], argTypes := #[22, 22] })
    (B n : Nat) (v : Value) (xs : List Value) (hs : a.eval s = v) (hown : w.ownsRow B 65 1 v n xs) (ap : Option Addr) (m c : Nat) (news : List Value) (hx : a.eval x = .slice ap m c)
    (hsrc : (ap = none ∧ m = 0 ∧ c = 0) ∨ ∃ ad, ap = some ad ∧ ∀ j u, news[j]? = some u → w.cell? (ad.add j) = some u) (hl : news.length = m) (h1 : ∀ u ∈ news, u.oneCell' = true) (hn : n + m ≤ 400000000000) (hB : B ≤ w.heap.size)
    (h : ∀ v' w', w'.ownsRow B 65 1 v' (n + m) (xs ++ news) → w.grownBy w' v.ownBlock → K (a.put o.dst v') w') :
    if Region.wanted o (yielded ops a.tmps) = true then Oper.wp Try.prog o a w K Q else E := by
  have hw : Region.wanted o (yielded ops a.tmps) = true := by simp [Region.wanted, hgd]
  rw [if_pos hw]
  exact wp_rows w s x ho B n v xs hs hown ap m c news hx hsrc hl h1 hn hB h

/-! ### l01Same -/
theorem l01Same_any (va vb : Value) (xs ys : List Int) (w : World) (ha : RdL w va xs) (hb : RdL w vb ys) :
    Calls Try.prog 122 #[va, vb] w fun e w' => e = .returned (.bool (decide (xs = ys))) ∧ ∃ q, w' = w.drewN q := by
  obtain ⟨aa, capa, rfl, hma, ha⟩ := ha
  obtain ⟨ab, capb, rfl, hmb, hb⟩ := hb
  unfold maxLen at hma hmb
  by_cases hl : xs.length = ys.length
  · have hne : ((xs.length : Int) != (ys.length : Int)) = false := by rw [bne_eq_false_iff_eq]; omega
    obtain ⟨r, hr⟩ : ∃ r, decide (xs = ys) = r := ⟨_, rfl⟩
    have HST : Hid (∀ k, k < xs.length → (∀ i, i < k → xs[i]?.getD 0 = ys[i]?.getD 0) → xs[k]?.getD 0 ≠ ys[k]?.getD 0 → r = false) := Lib.hid fun k hk _ h => by
      rw [← hr]
      exact decide_eq_false fun e => h (by rw [e])
    have HEN : Hid ((∀ i, i < xs.length → xs[i]?.getD 0 = ys[i]?.getD 0) → r = true) := Lib.hid fun h => by
      rw [← hr]
      refine decide_eq_true (List.ext_getElem hl fun i h1 h2 => ?_)
      have := h i h1
      rw [List.getElem?_eq_getElem h1, List.getElem?_eq_getElem h2] at this
      simpa using this
    rw [hr]
    have HA : Hid (∀ i, i < xs.length → ∃ b off, aa = some ⟨b, off, none⟩ ∧ w.cell? ⟨b, off + i, none⟩ = some (.int .i64 (xs[i]?.getD 0))) := by
      refine Lib.hid fun i hi => ?_
      obtain ⟨b, off, e, hc⟩ := ha.resolve_left (by omega)
      exact ⟨b, off, e, hc i hi⟩
    have HB : Hid (∀ i, i < xs.length → ∃ b off, ab = some ⟨b, off, none⟩ ∧ w.cell? ⟨b, off + i, none⟩ = some (.int .i64 (ys[i]?.getD 0))) := by
      refine Lib.hid fun i hi => ?_
      obtain ⟨b, off, e, hc⟩ := hb.resolve_left (by omega)
      exact ⟨b, off, e, hc i (by omega)⟩
    have hlI : (ys.length : Int) = (xs.length : Int) := by omega
    clear ha hb hr
    go_enter Try.func122, Try.ntmps122
    go_wp2
    go_loopw [5] (fun c wr => ∃ k q : Nat, k ≤ xs.length ∧ c = .int .i64 k ∧ Hid (∀ i, i < k → xs[i]?.getD 0 = ys[i]?.getD 0) ∧ Hid (wr = w.drewN q)) (fun c _ => xs.length - (intOf c).toNat)
    case atStart => exact ⟨0, 0, Nat.zero_le _, rfl, Lib.hid fun i hi => absurd hi (Nat.not_lt_zero _), Lib.hid rfl⟩
    case round =>
      obtain ⟨k, q, hk, rfl, hP, hw⟩ := hrel
      by_cases h1 : k < xs.length
      · have h1' : (k : Int) < (xs.length : Int) := by omega
        have h2' : (k : Int) < (ys.length : Int) := by omega
        obtain ⟨ba, oa, rfl, ca⟩ := HA.out k h1
        obtain ⟨bb, ob, rfl, cb⟩ := HB.out k h1
        have c1 : wr.cell? ⟨ba, oa + k, none⟩ = some (.int .i64 (xs[k]?.getD 0)) := by rw [hw.out]; exact ca
        have c2 : wr.cell? ⟨bb, ob + k, none⟩ = some (.int .i64 (ys[k]?.getD 0)) := by rw [hw.out]; exact cb
        clear ca cb
        by_cases he : xs[k]?.getD 0 = ys[k]?.getD 0
        · have hP2 : Hid (∀ i, i < k + 1 → xs[i]?.getD 0 = ys[i]?.getD 0) := Lib.hid fun i hi => by
            by_cases e : i = k
            · subst e; exact he
            · exact hP.out i (by omega)
          rw [he] at c1
          generalize ys[k]?.getD 0 = y at c1 c2
          clear he
          go_wp2_with fail
          go_quiet (fail)
          go_wp2_with fail
          go_roundw
          case rel => exact ⟨k + 1, q + nq, by omega, by go_num, hP2, Lib.hid (by rw [hw.out]; exact World.drewN_drewN ..)⟩
          case measure => simp [intOf]; omega
        · have hfin := Lib.hid (HST.out k h1 hP.out he)
          have hne2 : (xs[k]?.getD 0 != ys[k]?.getD 0) = true := by rw [bne_iff_ne]; exact he
          clear he
          generalize xs[k]?.getD 0 = x at c1 hne2
          generalize ys[k]?.getD 0 = y at c2 hne2
          go_wp2_with fail
          go_quiet (fail)
          go_wp2_with fail
          go_ret
          exact ⟨by rw [hfin.out]; rfl, _, by rw [hw.out, World.drewN_drewN]⟩
      · have hk2 : k = xs.length := by omega
        have hfin : Hid (r = true) := Lib.hid (HEN.out (fun i hi => hP.out i (by omega)))
        have h1' : ¬ (k : Int) < (xs.length : Int) := by omega
        clear hk2
        go_wp2_with fail
        go_ret
        exact ⟨by rw [hfin.out]; rfl, q, hw.out⟩
  · have hne : ((xs.length : Int) != (ys.length : Int)) = true := by rw [bne_iff_ne]; omega
    have e : decide (xs = ys) = false := decide_eq_false fun e => hl (by rw [e])
    have E := Lib.hid e
    rw [E.out]
    clear ha hb hl e E
    go_enter Try.func122, Try.ntmps122
    go_wp2_with fail
    go_ret
    exact ⟨rfl, 0, rfl⟩
end Go.Proofs.Ytnmilkehggjpfaa
end
