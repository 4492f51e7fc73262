/-
  Joined: KPar, WTrim.
-/
import Derived.Test.YtnfhfilconcajaaRows
import Derived.Test.YtnfhfilconcajaaZtTotalSquare02
import Derived.Maps.OwnSet
import Derived.Maps.OwnOps
import Derived.Maps.Views
import Derived.DeepKeys4
import Derived.Deep.MidRow
import Derived.Deep.WholeRow
import Derived.Carry
import Derived.Test.YtnfhfilconcajaaZtTotalSquare04
section
namespace Go.Proofs.Ytnfhfilconcajaa
open Go.RowKit Go.Maps
set_option linter.unusedVariables false
set_option maxRecDepth 100000

/-- x occurs an odd number of times. -/
def par {α : Type} : List α → α → Prop
  | [], _ => False
  | x :: r, k => (x = k ∧ ¬ par r k) ∨ (x ≠ k ∧ par r k)
theorem par_snoc {α : Type} (r : List α) (x k : α) : par (r ++ [x]) k ↔ (x = k ∧ ¬ par r k) ∨ (x ≠ k ∧ par r k) := by
  induction r with
  | nil => simp [par]
  | cons y r ih =>
    show (y = k ∧ ¬ par (r ++ [x]) k) ∨ (y ≠ k ∧ par (r ++ [x]) k) ↔ (x = k ∧ ¬ ((y = k ∧ ¬ par r k) ∨ (y ≠ k ∧ par r k))) ∨ (x ≠ k ∧ ((y = k ∧ ¬ par r k) ∨ (y ≠ k ∧ par r k)))
    rw [ih]
    by_cases h1 : y = k <;> by_cases h2 : x = k <;> by_cases h3 : par r k <;> simp [h1, h2, h3]
theorem par_same {α : Type} (r : List α) (x : α) : par (r ++ [x]) x ↔ ¬ par r x := by rw [par_snoc]; simp
theorem par_other {α : Type} (r : List α) (x k : α) (h : x ≠ k) : par (r ++ [x]) k ↔ par r k := by rw [par_snoc]; simp [h]
theorem par_mem {α : Type} (r : List α) (k : α) (h : par r k) : k ∈ r := by
  induction r with
  | nil => cases h
  | cons x r ih =>
    rcases h with ⟨e, _⟩ | ⟨_, h⟩
    · rw [e]; exact List.mem_cons_self
    · exact List.mem_cons_of_mem _ (ih h)
theorem par_append {α : Type} (r s : List α) (k : α) : par (r ++ s) k ↔ ((par r k ∧ ¬ par s k) ∨ (¬ par r k ∧ par s k)) := by
  induction r with
  | nil => simp [par]
  | cons y r ih =>
    show (y = k ∧ ¬ par (r ++ s) k) ∨ (y ≠ k ∧ par (r ++ s) k) ↔ _
    rw [ih]
    show _ ↔ ((((y = k ∧ ¬ par r k) ∨ (y ≠ k ∧ par r k)) ∧ ¬ par s k) ∨ (¬ ((y = k ∧ ¬ par r k) ∨ (y ≠ k ∧ par r k)) ∧ par s k))
    by_cases h1 : y = k <;> by_cases h2 : par r k <;> by_cases h3 : par s k <;> simp [h1, h2, h3]

/-- The map D (with bools) has just the keys that occur an odd number of times in p, each with true. -/
def MapIs (T : TypeId) (D : DataW Unit) (p : List (Array Value)) : Prop :=
  ∀ (k : Array Value) (l : Lit), keyOf Try.prog T (.agg k) = some l → (par p k → D.atKey l (.lit (.bool false)) = .lit (.bool true) ∧ has D l = true) ∧ (¬ par p k → D.atKey l (.lit (.bool false)) = .lit (.bool false) ∧ has D l = false)
theorem MapIs.nil (T : TypeId) : MapIs T (.map []) [] := fun k l _ => ⟨fun h => (by cases h), fun _ => ⟨rfl, rfl⟩⟩
theorem MapIs.put {T : TypeId} {D : DataW Unit} {p : List (Array Value)} (h : MapIs T D p) (K : Keyed Try.prog T) (hm : IsMap D) {x : Array Value} {lx : Lit} (hx : keyOf Try.prog T (.agg x) = some lx) (hp : ¬ par p x) : MapIs T (D.put lx (.lit (.bool true))) (p ++ [x]) := by
  intro k l hk
  by_cases e : x = k
  · subst e
    rw [hx] at hk
    cases hk
    refine ⟨fun _ => ⟨atKey_put_same hm (K.key hx) _ _, has_put_same hm (K.key hx) _⟩, fun hn => absurd ((par_same p x).2 hp) hn⟩
  · have hne : l ≠ lx := fun e1 => e (by subst e1; have := K.inj hx hk; simpa using this)
    rw [par_other p x k e, atKey_put_other hne, has_put_other hne]
    exact h k l hk
theorem MapIs.del {T : TypeId} {D : DataW Unit} {p : List (Array Value)} (h : MapIs T D p) (K : Keyed Try.prog T) {x : Array Value} {lx : Lit} (hx : keyOf Try.prog T (.agg x) = some lx) (hp : par p x) : MapIs T (D.del lx) (p ++ [x]) := by
  intro k l hk
  by_cases e : x = k
  · subst e
    rw [hx] at hk
    cases hk
    refine ⟨fun hn => absurd hp ((par_same p x).1 hn), fun _ => ⟨atKey_del_same _, has_del_same⟩⟩
  · have hne : l ≠ lx := fun e1 => e (by subst e1; have := K.inj hx hk; simpa using this)
    rw [par_other p x k e, atKey_del_other hne, has_del_other hne]
    exact h k l hk

theorem plainB_inv {v : Value} {b : Bool} {ps : List MemPlace} (h : plainElem (H := Unit) Try.prog 4 v = some (.lit (.bool b), ps)) : v = .bool b := by
  unfold plainElem at h
  rw [Try.underlying4] at h
  cases v <;> simp at h
  rw [h.1]

/-- The first i of two lists, joined. -/
def preK (xs ys : List (Array Value)) : Nat → List (Array Value)
  | 0 => []
  | 1 => xs
  | _ => xs ++ ys

theorem laidP : laidOutB Try.prog = true := by kernel_rfl
end Go.Proofs.Ytnfhfilconcajaa
end
section
namespace Go.Proofs.Ytnfhfilconcajaa
open Go.RowKit
set_option linter.unusedVariables false
set_option maxRecDepth 100000

/-- The zeros at the end left out. -/
def trimTo (l : List Int) : Nat → List Int
  | 0 => []
  | j + 1 => if l[j]?.getD 0 = 0 then trimTo l j else l.take (j + 1)
def trim (l : List Int) : List Int := trimTo l l.length
theorem own_take {w : World} {B n : Nat} {a : Option Addr} {cap : Nat} {e : TypeId} {xs : List Value} (h : w.ownsRow B e 1 (.slice a n cap) n xs) (k : Nat) (hk : k ≤ n) : w.ownsRow B e 1 (.slice a k cap) k (xs.take k) := by
  have hl : xs.length = n := by have := h.1; omega
  refine ⟨by rw [List.length_take, hl]; omega, ?_⟩
  rcases h.2 with ⟨e1, h0⟩ | ⟨g, cap', cur, e1, hb, hg, h1, h2, h3, h4⟩
  · cases e1
    exact .inl ⟨by rw [show k = 0 by omega], by omega⟩
  · cases e1
    refine .inr ⟨g, cap, cur, rfl, hb, hg, by omega, h2, h3, ?_⟩
    rw [← h4, List.take_take]
    congr 1
    omega

def slen : Value → Nat
  | .slice _ n _ => n
  | _ => 0
theorem trimTo_zero (l : List Int) (j : Nat) (h : l[j]?.getD 0 = 0) : trimTo l (j + 1) = trimTo l j := by rw [trimTo, if_pos h]
theorem trimTo_take (l : List Int) (j : Nat) (h : l[j]?.getD 0 ≠ 0) : trimTo l (j + 1) = l.take (j + 1) := by rw [trimTo, if_neg h]

def TrimRes (L : List Int) (B : Nat) (w : World) (e : Ending) (w' : World) : Prop := ∃ u, e = .returned u ∧ w' = w ∧ w.ownsRow B 2 1 u (trim L).length ((trim L).map (Value.int .i64))
theorem cloneRd (b off : Nat) (xs : List Int) (cap : Nat) (w : World) (hn : xs.length ≤ 1000000) (h : ∀ j, j < xs.length → w.cell? ⟨b, off + j, none⟩ = some (.int .i64 (xs[j]?.getD 0))) :
    Calls Try.prog 88 #[.slice (some ⟨b, off, none⟩) xs.length cap] w fun e w' => ∃ u, e = .returned u ∧ w'.ownsRow w.heap.size 2 1 u xs.length (xs.map (Value.int .i64)) ∧ Below w.heap.size w w' := by
  obtain ⟨i0, hi, hz0, hz1, hz2⟩ := info_parts Try.info2
  have H : Hid (∀ j u, (xs.map (Value.int .i64))[j]? = some u → (w.alloc (.cells #[] 2)).cell? ((⟨b, off, none⟩ : Addr).add j) = some u) := by
    refine Lib.hid fun j u hu => ?_
    rw [Addr.add_mid]
    rw [List.getElem?_map] at hu
    cases hx : xs[j]? with
    | none => rw [hx] at hu; cases hu
    | some x =>
      rw [hx] at hu
      have hj : j < xs.length := (List.getElem?_eq_some_iff.1 hx).1
      have h1 := h j hj
      simp only [hx, Option.getD_some] at h1
      have hbl := World.block_lt_of_cell? w _ h1
      rw [← Option.some.inj hu]
      exact (((Below.refl _ w).alloc (Nat.le_refl _) _).cell (p := ⟨b, off + j, none⟩) hbl).trans h1
  have q22 : ∀ (w : World) (a : Option Addr) (n c n' c' : Nat), (binOp .eql 53 (.slice a n c) (.slice none n' c')).run Try.prog w = .ok (.bool a.isNone) w := fun w a n c n' c' => Lib.run_eql_slice_nil w _ _ a n c n' c' Try.underlying53
  clear h
  go_enter Try.func88, Try.ntmps88
  go_wp2_with (at_builtin; refine wpList_append_own _ rfl _ _ 53 rfl w.heap.size 2 i0 (.int .i64 0) 1 8 Try.underlying53 hi hz0 hz1 hz2 rfl (by decide) _ _ _ rfl (World.ownsRow_made w #[] 0 (Nat.le_refl _) (Nat.zero_le _) (by simp)) ⟨b, off, none⟩ xs.length cap (xs.map (Value.int .i64)) rfl ?qc1 ?qc2 ?qc3 ?qc4 ?qc5 ?qc6 ?_)
  case qc1 => simp
  case qc2 => exact H.out
  case qc3 => exact ints_one xs
  case qc4 => unfold maxLen; omega
  case qc5 => omega
  case qc6 => simp
  intro v' w1 hown hgrow hnil
  have HO := Lib.hid hown
  have HG := Lib.hid hgrow
  clear hown hgrow hnil
  go_wp2
  go_ret
  refine ⟨v', rfl, by simpa using HO.out, ?_⟩
  exact ((Below.refl _ w).alloc (Nat.le_refl _) _).grown HG.out (by simp) (by intro k hk; simp [Value.ownBlock] at hk; omega)

theorem trimTo_congr {l l' : List Int} : ∀ j, l.take j = l'.take j → trimTo l j = trimTo l' j
  | 0, _ => rfl
  | j + 1, h => by
    have e : l[j]? = l'[j]? := by
      have := congrArg (fun x : List Int => x[j]?) h
      simpa [List.getElem?_take] using this
    have e2 : l.take j = l'.take j := by
      have := congrArg (List.take j) h
      rw [List.take_take, List.take_take] at this
      rwa [show min j (j + 1) = j by omega] at this
    unfold trimTo
    rw [e, h, trimTo_congr j e2]
theorem trim_zeros (s : Nat → Int) (a : Nat) (h : ∀ k, a ≤ k → s k = 0) : ∀ d, trim ((List.range (a + d)).map s) = trim ((List.range a).map s)
  | 0 => rfl
  | d + 1 => by
    rw [← trim_zeros s a h d]
    unfold trim
    rw [List.length_map, List.length_range, List.length_map, List.length_range]
    show trimTo _ (a + d + 1) = _
    rw [trimTo, if_pos (by rw [List.getElem?_map, List.getElem?_range (by omega)]; exact h (a + d) (by omega))]
    refine trimTo_congr _ ?_
    rw [← List.map_take, ← List.map_take, List.take_range, List.take_range]
    congr 2
    omega
end Go.Proofs.Ytnfhfilconcajaa
end
