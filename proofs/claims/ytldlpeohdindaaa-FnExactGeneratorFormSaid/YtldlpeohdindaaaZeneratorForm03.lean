/-
  Joined: KPar, KOrd, WPascal.
-/
import Derived.Test.YtldlpeohdindaaaRows
import Derived.Test.YtldlpeohdindaaaZeneratorForm02
import Derived.Maps.OwnSet
import Derived.Maps.OwnOps
import Derived.Maps.Views
import Derived.DeepKeys4
import Derived.Deep.MidRow
import Derived.Deep.WholeRow
import Derived.Carry
import Derived.Test.YtldlpeohdindaaaZeneratorForm01
section
namespace Go.Proofs.Ytldlpeohdindaaa
open Go.RowKit Go.Maps
set_option linter.unusedVariables false
set_option maxRecDepth 100000

/-- x occurs an odd number of times. -/
def par {α : Type} : List α → α → Prop
  | [], _ => False
  | x :: r, k => (x = k ∧ ¬ par r k) ∨ (x ≠ k ∧ par r k)
theorem par_snoc {α : Type} (r : List α) (x k : α) : par (r ++ [x]) k ↔ (x = k ∧ ¬ par r k) ∨ (x ≠ k ∧ par r k) := by
  induction r with
  | nil => simp [par]
  | cons y r ih =>
    show (y = k ∧ ¬ par (r ++ [x]) k) ∨ (y ≠ k ∧ par (r ++ [x]) k) ↔ (x = k ∧ ¬ ((y = k ∧ ¬ par r k) ∨ (y ≠ k ∧ par r k))) ∨ (x ≠ k ∧ ((y = k ∧ ¬ par r k) ∨ (y ≠ k ∧ par r k)))
    rw [ih]
    by_cases h1 : y = k <;> by_cases h2 : x = k <;> by_cases h3 : par r k <;> simp [h1, h2, h3]
theorem par_same {α : Type} (r : List α) (x : α) : par (r ++ [x]) x ↔ ¬ par r x := by rw [par_snoc]; simp
theorem par_other {α : Type} (r : List α) (x k : α) (h : x ≠ k) : par (r ++ [x]) k ↔ par r k := by rw [par_snoc]; simp [h]
theorem par_mem {α : Type} (r : List α) (k : α) (h : par r k) : k ∈ r := by
  induction r with
  | nil => cases h
  | cons x r ih =>
    rcases h with ⟨e, _⟩ | ⟨_, h⟩
    · rw [e]; exact List.mem_cons_self
    · exact List.mem_cons_of_mem _ (ih h)
theorem par_append {α : Type} (r s : List α) (k : α) : par (r ++ s) k ↔ ((par r k ∧ ¬ par s k) ∨ (¬ par r k ∧ par s k)) := by
  induction r with
  | nil => simp [par]
  | cons y r ih =>
    show (y = k ∧ ¬ par (r ++ s) k) ∨ (y ≠ k ∧ par (r ++ s) k) ↔ _
    rw [ih]
    show _ ↔ ((((y = k ∧ ¬ par r k) ∨ (y ≠ k ∧ par r k)) ∧ ¬ par s k) ∨ (¬ ((y = k ∧ ¬ par r k) ∨ (y ≠ k ∧ par r k)) ∧ par s k))
    by_cases h1 : y = k <;> by_cases h2 : par r k <;> by_cases h3 : par s k <;> simp [h1, h2, h3]

/-- The map D (with bools) has just the keys that occur an odd number of times in p, each with true. -/
def MapIs (T : TypeId) (D : DataW Unit) (p : List (Array Value)) : Prop :=
  ∀ (k : Array Value) (l : Lit), keyOf Try.prog T (.agg k) = some l → (par p k → D.atKey l (.lit (.bool false)) = .lit (.bool true) ∧ has D l = true) ∧ (¬ par p k → D.atKey l (.lit (.bool false)) = .lit (.bool false) ∧ has D l = false)
theorem MapIs.nil (T : TypeId) : MapIs T (.map []) [] := fun k l _ => ⟨fun h => (by cases h), fun _ => ⟨rfl, rfl⟩⟩
theorem MapIs.put {T : TypeId} {D : DataW Unit} {p : List (Array Value)} (h : MapIs T D p) (K : Keyed Try.prog T) (hm : IsMap D) {x : Array Value} {lx : Lit} (hx : keyOf Try.prog T (.agg x) = some lx) (hp : ¬ par p x) : MapIs T (D.put lx (.lit (.bool true))) (p ++ [x]) := by
  intro k l hk
  by_cases e : x = k
  · subst e
    rw [hx] at hk
    cases hk
    refine ⟨fun _ => ⟨atKey_put_same hm (K.key hx) _ _, has_put_same hm (K.key hx) _⟩, fun hn => absurd ((par_same p x).2 hp) hn⟩
  · have hne : l ≠ lx := fun e1 => e (by subst e1; have := K.inj hx hk; simpa using this)
    rw [par_other p x k e, atKey_put_other hne, has_put_other hne]
    exact h k l hk
theorem MapIs.del {T : TypeId} {D : DataW Unit} {p : List (Array Value)} (h : MapIs T D p) (K : Keyed Try.prog T) {x : Array Value} {lx : Lit} (hx : keyOf Try.prog T (.agg x) = some lx) (hp : par p x) : MapIs T (D.del lx) (p ++ [x]) := by
  intro k l hk
  by_cases e : x = k
  · subst e
    rw [hx] at hk
    cases hk
    refine ⟨fun hn => absurd hp ((par_same p x).1 hn), fun _ => ⟨atKey_del_same _, has_del_same⟩⟩
  · have hne : l ≠ lx := fun e1 => e (by subst e1; have := K.inj hx hk; simpa using this)
    rw [par_other p x k e, atKey_del_other hne, has_del_other hne]
    exact h k l hk

theorem plainB_inv {v : Value} {b : Bool} {ps : List MemPlace} (h : plainElem (H := Unit) Try.prog 4 v = some (.lit (.bool b), ps)) : v = .bool b := by
  unfold plainElem at h
  rw [Try.underlying4] at h
  cases v <;> simp at h
  rw [h.1]

/-- The first i of two lists, joined. -/
def preK (xs ys : List (Array Value)) : Nat → List (Array Value)
  | 0 => []
  | 1 => xs
  | _ => xs ++ ys

theorem laidP : laidOutB Try.prog = true := by kernel_rfl
end Go.Proofs.Ytldlpeohdindaaa
end
section
namespace Go.Proofs.Ytldlpeohdindaaa
open Go.RowKit
set_option maxRecDepth 100000
set_option linter.unusedVariables false

theorem lexLt_irrefl : ∀ xs, lexLt xs xs = false
  | [] => rfl
  | a :: l => by rw [lexLt, if_pos rfl]; exact lexLt_irrefl l
theorem lexLt_trans : ∀ xs ys zs, lexLt xs ys = true → lexLt ys zs = true → lexLt xs zs = true
  | [], [], _, h, _ => by simp [lexLt] at h
  | [], _ :: _, [], _, h => by simp [lexLt] at h
  | [], _ :: _, _ :: _, _, _ => rfl
  | _ :: _, [], _, h, _ => by simp [lexLt] at h
  | _ :: _, _ :: _, [], _, h => by simp [lexLt] at h
  | a :: l, b :: l', c :: l'', h, h' => by
    rw [lexLt] at h h' ⊢
    by_cases e : a = b
    · subst e
      rw [if_pos rfl] at h
      by_cases e2 : a = c
      · rw [if_pos e2] at h' ⊢; exact lexLt_trans l l' l'' h h'
      · rw [if_neg e2] at h' ⊢; exact h'
    · rw [if_neg e] at h
      have h1 := of_decide_eq_true h
      by_cases e2 : b = c
      · subst e2; rw [if_neg e]; exact h
      · rw [if_neg e2] at h'
        have h2 := of_decide_eq_true h'
        rw [if_neg (by omega)]
        exact decide_eq_true (by omega)
theorem lexLt_total : ∀ xs ys, lexLt xs ys = false → lexLt ys xs = false → xs = ys
  | [], [], _, _ => rfl
  | [], _ :: _, h, _ => by simp [lexLt] at h
  | _ :: _, [], _, h => by simp [lexLt] at h
  | a :: l, b :: l', h, h' => by
    rw [lexLt] at h h'
    by_cases e : a = b
    · subst e
      rw [if_pos rfl] at h h'
      rw [lexLt_total l l' h h']
    · rw [if_neg e] at h
      rw [if_neg (Ne.symm e)] at h'
      have h1 := of_decide_eq_false h
      have h2 := of_decide_eq_false h'
      omega
theorem lexLt_asymm (xs ys : List Int) (h : lexLt xs ys = true) : lexLt ys xs = false := by
  cases h' : lexLt ys xs with
  | false => rfl
  | true => have := lexLt_trans _ _ _ h h'; rw [lexLt_irrefl] at this; cases this

/-- Strictly ascending. -/
def Asc (xs : List (List Int)) : Prop := xs.Pairwise (fun x y => lexLt x y = true)
theorem Asc.nodup {xs : List (List Int)} (h : Asc xs) : xs.Nodup := List.Pairwise.imp (fun h e => by subst e; rw [lexLt_irrefl] at h; cases h) h

theorem asc_ext : ∀ (xs ys : List (List Int)), Asc xs → Asc ys → (∀ z, z ∈ xs ↔ z ∈ ys) → xs = ys
  | [], [], _, _, _ => rfl
  | [], y :: ys, _, _, h => absurd ((h y).2 List.mem_cons_self) (by simp)
  | x :: xs, [], _, _, h => absurd ((h x).1 List.mem_cons_self) (by simp)
  | x :: xs, y :: ys, hx, hy, h => by
    obtain ⟨hx1, hx2⟩ := List.pairwise_cons.1 hx
    obtain ⟨hy1, hy2⟩ := List.pairwise_cons.1 hy
    have e : x = y := by
      rcases List.mem_cons.1 ((h x).1 List.mem_cons_self) with e | h1
      · exact e
      · rcases List.mem_cons.1 ((h y).2 List.mem_cons_self) with e | h2
        · exact e.symm
        · have := lexLt_asymm _ _ (hx1 y h2); rw [hy1 x h1] at this; cases this
    subst e
    congr 1
    refine asc_ext xs ys hx2 hy2 fun z => ⟨fun hz => ?_, fun hz => ?_⟩
    · rcases List.mem_cons.1 ((h z).1 (List.mem_cons_of_mem _ hz)) with e | h1
      · subst e; have := hx1 z hz; rw [lexLt_irrefl] at this; cases this
      · exact h1
    · rcases List.mem_cons.1 ((h z).2 (List.mem_cons_of_mem _ hz)) with e | h1
      · subst e; have := hy1 z hz; rw [lexLt_irrefl] at this; cases this
      · exact h1

/-- The merge of two ascending lists, without what is in both. -/
def mrg : List (List Int) → List (List Int) → List (List Int)
  | [], ys => ys
  | x :: xs, [] => x :: xs
  | x :: xs, y :: ys => if lexLt x y then x :: mrg xs (y :: ys) else if lexLt y x then y :: mrg (x :: xs) ys else mrg xs ys
  termination_by xs ys => xs.length + ys.length

theorem mrg_nil (xs : List (List Int)) : mrg xs [] = xs := by cases xs <;> simp [mrg]
theorem mrg_sub : ∀ (xs ys : List (List Int)) (z : List Int), z ∈ mrg xs ys → z ∈ xs ∨ z ∈ ys
  | [], ys, z, h => by rw [mrg] at h; exact .inr h
  | x :: xs, [], z, h => by rw [mrg] at h; exact .inl h
  | x :: xs, y :: ys, z, h => by
    rw [mrg] at h
    split at h
    · rcases List.mem_cons.1 h with e | h
      · subst e; simp
      · rcases mrg_sub xs (y :: ys) z h with h | h
        · exact .inl (List.mem_cons_of_mem _ h)
        · exact .inr h
    · split at h
      · rcases List.mem_cons.1 h with e | h
        · subst e; simp
        · rcases mrg_sub (x :: xs) ys z h with h | h
          · exact .inl h
          · exact .inr (List.mem_cons_of_mem _ h)
      · rcases mrg_sub xs ys z h with h | h
        · exact .inl (List.mem_cons_of_mem _ h)
        · exact .inr (List.mem_cons_of_mem _ h)
  termination_by xs ys => xs.length + ys.length

theorem mrg_spec : ∀ (xs ys : List (List Int)), Asc xs → Asc ys → Asc (mrg xs ys) ∧ ∀ z, z ∈ mrg xs ys ↔ ((z ∈ xs ∧ z ∉ ys) ∨ (z ∉ xs ∧ z ∈ ys))
  | [], ys, _, hy => by rw [mrg]; exact ⟨hy, by simp⟩
  | x :: xs, [], hx, _ => by rw [mrg]; exact ⟨hx, by simp⟩
  | x :: xs, y :: ys, hx, hy => by
    obtain ⟨hx1, hx2⟩ := List.pairwise_cons.1 hx
    obtain ⟨hy1, hy2⟩ := List.pairwise_cons.1 hy
    rw [mrg]
    split
    · rename_i hlt
      obtain ⟨ih1, ih2⟩ := mrg_spec xs (y :: ys) hx2 hy
      have hx' : x ∉ y :: ys := by
        intro hm
        rcases List.mem_cons.1 hm with e | hm
        · subst e; rw [lexLt_irrefl] at hlt; cases hlt
        · have := lexLt_trans _ _ _ hlt (hy1 x hm); rw [lexLt_irrefl] at this; cases this
      have hxx : x ∉ xs := fun hm => by have := hx1 x hm; rw [lexLt_irrefl] at this; cases this
      refine ⟨List.pairwise_cons.2 ⟨fun z hz => ?_, ih1⟩, fun z => ?_⟩
      · rcases mrg_sub xs (y :: ys) z hz with h | h
        · exact hx1 z h
        · rcases List.mem_cons.1 h with e | h
          · subst e; exact hlt
          · exact lexLt_trans _ _ _ hlt (hy1 z h)
      · rw [List.mem_cons, ih2, List.mem_cons (a := z) (b := x) (l := xs)]
        constructor
        · rintro (e | h)
          · subst e; exact .inl ⟨.inl rfl, hx'⟩
          · rcases h with ⟨h1, h2⟩ | ⟨h1, h2⟩
            · exact .inl ⟨.inr h1, h2⟩
            · refine .inr ⟨?_, h2⟩
              rintro (e | h)
              · subst e; exact hx' h2
              · exact h1 h
        · rintro (⟨h1, h2⟩ | ⟨h1, h2⟩)
          · rcases h1 with e | h1
            · exact .inl e
            · exact .inr (.inl ⟨h1, h2⟩)
          · exact .inr (.inr ⟨fun h => h1 (.inr h), h2⟩)
    · rename_i hnlt
      split
      · rename_i hlt
        obtain ⟨ih1, ih2⟩ := mrg_spec (x :: xs) ys hx hy2
        have hy' : y ∉ x :: xs := by
          intro hm
          rcases List.mem_cons.1 hm with e | hm
          · subst e; rw [lexLt_irrefl] at hlt; cases hlt
          · have := lexLt_trans _ _ _ hlt (hx1 y hm); rw [lexLt_irrefl] at this; cases this
        refine ⟨List.pairwise_cons.2 ⟨fun z hz => ?_, ih1⟩, fun z => ?_⟩
        · rcases mrg_sub (x :: xs) ys z hz with h | h
          · rcases List.mem_cons.1 h with e | h
            · subst e; exact hlt
            · exact lexLt_trans _ _ _ hlt (hx1 z h)
          · exact hy1 z h
        · rw [List.mem_cons, ih2, List.mem_cons (a := z) (b := y) (l := ys)]
          have hyy : y ∉ ys := fun hm => by have := hy1 y hm; rw [lexLt_irrefl] at this; cases this
          constructor
          · rintro (e | h)
            · subst e; exact .inr ⟨hy', .inl rfl⟩
            · rcases h with ⟨h1, h2⟩ | ⟨h1, h2⟩
              · refine .inl ⟨h1, ?_⟩
                rintro (e | h)
                · subst e; exact hy' h1
                · exact h2 h
              · exact .inr ⟨h1, .inr h2⟩
          · rintro (⟨h1, h2⟩ | ⟨h1, h2⟩)
            · exact .inr (.inl ⟨h1, fun h => h2 (.inr h)⟩)
            · rcases h2 with e | h2
              · exact .inl e
              · exact .inr (.inr ⟨h1, h2⟩)
      · rename_i hnlt2
        obtain ⟨ih1, ih2⟩ := mrg_spec xs ys hx2 hy2
        have e : x = y := lexLt_total _ _ (Bool.eq_false_iff.2 hnlt) (Bool.eq_false_iff.2 hnlt2)
        subst e
        refine ⟨ih1, fun z => ?_⟩
        have hxx : x ∉ xs := fun hm => by have := hx1 x hm; rw [lexLt_irrefl] at this; cases this
        have hyy : x ∉ ys := fun hm => by have := hy1 x hm; rw [lexLt_irrefl] at this; cases this
        rw [ih2, List.mem_cons, List.mem_cons]
        by_cases e : z = x
        · subst e; simp [hxx, hyy]
        · simp [e]
  termination_by xs ys => xs.length + ys.length

theorem par_nodup {α : Type} (l : List α) (h : l.Nodup) (k : α) : par l k ↔ k ∈ l := by
  induction l with
  | nil => simp [par]
  | cons x l ih =>
    obtain ⟨h1, h2⟩ := List.nodup_cons.1 h
    show (x = k ∧ ¬ par l k) ∨ (x ≠ k ∧ par l k) ↔ _
    rw [ih h2, List.mem_cons]
    by_cases e : x = k
    · subst e; simp [h1]
    · simp [e, Ne.symm e]

theorem images {α β : Type} (f : α → β) (P : α → Prop) : ∀ (rs : List β), (∀ k ∈ rs, ∃ x, P x ∧ k = f x) → ∃ ts : List α, rs = ts.map f ∧ ∀ x ∈ ts, P x
  | [], _ => ⟨[], rfl, by simp⟩
  | k :: rs, h => by
    obtain ⟨ts, e, hp⟩ := images f P rs (fun k' hk' => h k' (List.mem_cons_of_mem _ hk'))
    obtain ⟨x, hx, ex⟩ := h k List.mem_cons_self
    exact ⟨x :: ts, by rw [e, ex]; rfl, fun y hy => by
      rcases List.mem_cons.1 hy with e | hy
      · subst e; exact hx
      · exact hp y hy⟩

theorem par_map {α β : Type} (f : α → β) (P : α → Prop) (inj : ∀ x y, P x → P y → f x = f y → x = y) (x : α) (hx : P x) : ∀ (l : List α), (∀ y ∈ l, P y) → (par (l.map f) (f x) ↔ par l x)
  | [], _ => Iff.rfl
  | y :: l, h => by
    have ih := par_map f P inj x hx l (fun z hz => h z (List.mem_cons_of_mem _ hz))
    have e : f y = f x ↔ y = x := ⟨inj y x (h y List.mem_cons_self) hx, fun e => by rw [e]⟩
    show (f y = f x ∧ ¬ par (l.map f) (f x)) ∨ (f y ≠ f x ∧ par (l.map f) (f x)) ↔ (y = x ∧ ¬ par l x) ∨ (y ≠ x ∧ par l x)
    rw [ih, ne_eq, e]
theorem par_filter {α : Type} (Q : α → Bool) (x : α) : ∀ (l : List α), par (l.filter Q) x ↔ (Q x = true ∧ par l x)
  | [] => by simp [par]
  | y :: l => by
    have ih := par_filter Q x l
    by_cases hq : Q y = true
    · rw [List.filter_cons_of_pos hq]
      show (y = x ∧ ¬ par (l.filter Q) x) ∨ (y ≠ x ∧ par (l.filter Q) x) ↔ Q x = true ∧ ((y = x ∧ ¬ par l x) ∨ (y ≠ x ∧ par l x))
      rw [ih]
      by_cases e : y = x
      · subst e; simp [hq]
      · simp [e]
    · rw [List.filter_cons_of_neg hq]
      show par (l.filter Q) x ↔ Q x = true ∧ ((y = x ∧ ¬ par l x) ∨ (y ≠ x ∧ par l x))
      rw [ih]
      by_cases e : y = x
      · subst e; simp [hq]
      · simp [e]

/-- What is summed by keys. -/
theorem keys_par {α β : Type} (f : α → β) (P : α → Prop) (inj : ∀ x y, P x → P y → f x = f y → x = y) (ls ms : List α) (ha : ∀ x ∈ ls, P x) (hb : ∀ x ∈ ms, P x)
    (rs : List β) (hn : rs.Nodup) (hm : ∀ k, k ∈ rs ↔ par (ls.map f ++ ms.map f) k) :
    ∃ ts : List α, rs = ts.map f ∧ ts.Nodup ∧ (∀ x ∈ ts, P x) ∧ ∀ x, x ∈ ts ↔ par (ls ++ ms) x := by
  have hP : ∀ x ∈ ls ++ ms, P x := fun x hx => by
    rcases List.mem_append.1 hx with h | h
    · exact ha x h
    · exact hb x h
  rw [← List.map_append] at hm
  obtain ⟨ts, e, hp⟩ := images f P rs (fun k hk => by
    obtain ⟨y, hy, e⟩ := List.mem_map.1 (par_mem _ _ ((hm k).1 hk))
    exact ⟨y, hP y hy, e.symm⟩)
  subst e
  have key : ∀ x, P x → (x ∈ ts ↔ par (ls ++ ms) x) := by
    intro x hx
    rw [← par_map f P inj x hx _ hP, ← hm]
    constructor
    · exact fun h => List.mem_map_of_mem h
    · intro h
      obtain ⟨y, hy, e⟩ := List.mem_map.1 h
      rw [inj x y hx (hp y hy) e.symm]; exact hy
  refine ⟨ts, rfl, (List.pairwise_map.1 hn).imp fun h e => h (by rw [e]), hp, fun x => ⟨fun h => (key x (hp x h)).1 h, fun h => (key x (hP x (par_mem _ _ h))).2 h⟩⟩

theorem sum_nodup (Q : List Int → Bool) (ls ms ts us : List (List Int)) (nt : ts.Nodup) (nu : us.Nodup)
    (ht : ∀ x ∈ ts, Q x = true) (hu : ∀ x ∈ us, Q x = false) : (ts ++ us).Nodup := by
  refine List.nodup_append.2 ⟨nt, nu, fun x hx y hy e => ?_⟩
  subst e
  have := ht x hx
  rw [hu x hy] at this
  cases this
theorem nodup_len {α : Type} : ∀ (l m : List α), l.Nodup → (∀ x ∈ l, x ∈ m) → l.length ≤ m.length
  | [], m, _, _ => Nat.zero_le _
  | x :: l, m, hn, hs => by
    obtain ⟨h1, h2⟩ := List.nodup_cons.1 hn
    obtain ⟨a, b, rfl⟩ := List.append_of_mem (hs x List.mem_cons_self)
    have := nodup_len l (a ++ b) h2 (fun y hy => by
      have h3 := hs y (List.mem_cons_of_mem _ hy)
      rcases List.mem_append.1 h3 with h3 | h3
      · exact List.mem_append_left _ h3
      · rcases List.mem_cons.1 h3 with e | h3
        · subst e; exact absurd hy h1
        · exact List.mem_append_right _ h3)
    simp only [List.length_append, List.length_cons] at this ⊢
    omega

end Go.Proofs.Ytldlpeohdindaaa
end
section
namespace Go.Proofs.Ytldlpeohdindaaa
set_option maxRecDepth 100000

/-- The parity of the binomial number, by digits. -/
def bpar (n k : Nat) : Nat := if n &&& k = k then 1 else 0

theorem and_step (n k : Nat) : (n &&& k = k) ↔ (n % 2 &&& k % 2 = k % 2) ∧ (n / 2 &&& k / 2 = k / 2) := by
  have h1 : (n &&& k) / 2 = n / 2 &&& k / 2 := Nat.and_div_two
  have h2 : (n &&& k) % 2 = n % 2 &&& k % 2 := by
    have := Nat.and_mod_two_pow (a := n) (b := k) (n := 1)
    simpa using this
  constructor
  · intro h
    rw [h] at h1 h2
    exact ⟨h2.symm, h1.symm⟩
  · rintro ⟨h3, h4⟩
    rw [h3] at h2
    rw [h4] at h1
    omega

theorem bpar_step (a b i j : Nat) (hi : i < 2) (hj : j < 2) : bpar (2 * a + i) (2 * b + j) = if i &&& j = j then bpar a b else 0 := by
  unfold bpar
  have e := and_step (2 * a + i) (2 * b + j)
  rw [show (2 * a + i) % 2 = i by omega, show (2 * b + j) % 2 = j by omega, show (2 * a + i) / 2 = a by omega, show (2 * b + j) / 2 = b by omega] at e
  by_cases h1 : i &&& j = j
  · rw [if_pos h1]
    by_cases h2 : a &&& b = b
    · rw [if_pos (e.2 ⟨h1, h2⟩), if_pos h2]
    · rw [if_neg (fun h => h2 (e.1 h).2), if_neg h2]
  · rw [if_neg h1, if_neg (fun h => h1 (e.1 h).1)]

theorem bpar_oo (a b : Nat) : bpar (2 * a + 1) (2 * b + 1) = bpar a b := bpar_step a b 1 1 (by omega) (by omega)
theorem bpar_oe (a b : Nat) : bpar (2 * a + 1) (2 * b) = bpar a b := bpar_step a b 1 0 (by omega) (by omega)
theorem bpar_eo (a b : Nat) : bpar (2 * a) (2 * b + 1) = 0 := bpar_step a b 0 1 (by omega) (by omega)
theorem bpar_ee (a b : Nat) : bpar (2 * a) (2 * b) = bpar a b := bpar_step a b 0 0 (by omega) (by omega)

theorem pascal : ∀ n k : Nat, (bpar n (k + 1) + bpar n k) % 2 = bpar (n + 1) (k + 1) := by
  intro n
  induction n using Nat.strongRecOn with
  | _ n ih =>
    intro k
    obtain ⟨a, ha | ha⟩ : ∃ a, n = 2 * a ∨ n = 2 * a + 1 := ⟨n / 2, by omega⟩
    · obtain ⟨b, hb | hb⟩ : ∃ b, k = 2 * b ∨ k = 2 * b + 1 := ⟨k / 2, by omega⟩
      · subst ha hb
        rw [bpar_eo, bpar_ee, bpar_oo]
        unfold bpar
        split <;> rfl
      · subst ha hb
        rw [show 2 * b + 1 + 1 = 2 * (b + 1) by omega, bpar_ee, bpar_eo, bpar_oe]
        unfold bpar
        split <;> rfl
    · obtain ⟨b, hb | hb⟩ : ∃ b, k = 2 * b ∨ k = 2 * b + 1 := ⟨k / 2, by omega⟩
      · subst ha hb
        rw [bpar_oo, bpar_oe, show 2 * a + 1 + 1 = 2 * (a + 1) by omega, bpar_eo]
        omega
      · subst ha hb
        rw [show 2 * b + 1 + 1 = 2 * (b + 1) by omega, bpar_oe, bpar_oo, show 2 * a + 1 + 1 = 2 * (a + 1) by omega, bpar_ee]
        exact ih a (by omega) b
end Go.Proofs.Ytldlpeohdindaaa
end
