/-
  Joined: WMulti, WMultiLaw, KPar.
-/
import Derived.Test.YtnfhfilconcajaaZxactAddPolys03
import Derived.Test.YtnfhfilconcajaaZxactAddPolys05
import Derived.Test.YtnfhfilconcajaaRows
import Derived.Maps.OwnSet
import Derived.Maps.OwnOps
import Derived.Maps.Views
import Derived.DeepKeys4
import Derived.Deep.MidRow
import Derived.Deep.WholeRow
import Derived.Carry
section
namespace Go.Proofs.Ytnfhfilconcajaa
open Go.RowKit
set_option maxRecDepth 100000
set_option linter.unusedVariables false

/-- All n numbers are in 0..MaxNumber. -/
def okNums (G : Nat → Int) (n : Nat) : Prop := ∀ i, i < n → 0 ≤ G i ∧ G i ≤ 1000000000000
theorem okNums_not {G : Nat → Int} {n : Nat} (h : ¬ okNums G n) : ∃ i, i < n ∧ (G i < 0 ∨ 1000000000000 < G i) ∧ okNums G i := by
  induction n with
  | zero => exact absurd (fun i hi => by omega) h
  | succ n ih =>
    by_cases h1 : okNums G n
    · refine ⟨n, by omega, ?_, h1⟩
      apply Decidable.byContradiction
      intro hc
      apply h
      intro i hi
      by_cases e : i = n
      · subst e; omega
      · exact h1 i (by omega)
    · obtain ⟨i, a, b, c⟩ := ih h1
      exact ⟨i, by omega, b, c⟩

theorem areNumbers_yes (v : Value) (n : Nat) (G : Nat → Int) (w : World) (h : RdI w v n G) (hok : okNums G n) :
    Calls Try.prog 118 #[v] w fun e w' => e = .returned (.bool true) ∧ w = w' := by
  obtain ⟨a, cap, rfl, hm, hc⟩ := h
  by_cases h0 : n = 0
  · subst h0
    clear hc
    go_enter Try.func118, Try.ntmps118
    go_wp2
    refine wp_loop_rounds 1 ?_
    rw [rounds_succ]
    go_wp2
    go_ret
    exact ⟨rfl, rfl⟩
  · obtain ⟨b, off, rfl, hc'⟩ := hc.resolve_left h0
    have HC := Lib.hid hc'
    have HO := Lib.hid hok
    clear hc hc' h0 hok
    unfold maxLen at hm
    go_enter Try.func118, Try.ntmps118
    go_wp2
    go_loop [4, 7] (fun _ c => ∃ j : Nat, j ≤ n ∧ c = .int .i64 j) (fun _ c => n - (intOf c).toNat)
    case atStart => exact ⟨0, by omega, rfl⟩
    case round =>
      obtain ⟨j, hj, rfl⟩ := hrel
      by_cases hlt : j < n
      · have hlt' : (j : Int) < (n : Int) := by omega
        have c1 := HC.out j hlt
        have h1 := (HO.out j hlt).1
        have h2 := (HO.out j hlt).2
        generalize G j = x at c1 h1 h2
        go_wp2_with (go_at_call 116; refine (isNumber_yes _ _ h1 h2).mono ?_; rintro e w' ⟨rfl, rfl⟩)
        go_round
        case rel => exact ⟨j + 1, by omega, by go_num⟩
        case measure => simp [intOf]; omega
      · go_wp2
        go_ret
        exact ⟨rfl, rfl⟩

theorem areNumbers_no (v : Value) (n : Nat) (G : Nat → Int) (w : World) (h : RdI w v n G) (hok : ¬ okNums G n) :
    Calls Try.prog 118 #[v] w fun e w' => e = .returned (.bool false) ∧ w = w' := by
  obtain ⟨a, cap, rfl, hm, hc⟩ := h
  obtain ⟨q, hq, hbad, hok'⟩ := okNums_not hok
  obtain ⟨b, off, rfl, hc'⟩ := hc.resolve_left (by omega)
  have HC := Lib.hid hc'
  have HO := Lib.hid hok'
  clear hc hc' hok hok'
  unfold maxLen at hm
  go_enter Try.func118, Try.ntmps118
  go_wp2
  go_loop [4, 7] (fun _ c => ∃ j : Nat, j ≤ q ∧ c = .int .i64 j) (fun _ c => n - (intOf c).toNat)
  case atStart => exact ⟨0, by omega, rfl⟩
  case round =>
    obtain ⟨j, hj, rfl⟩ := hrel
    have hlt' : (j : Int) < (n : Int) := by omega
    have c1 := HC.out j (by omega)
    by_cases hlt : j < q
    · have h1 := (HO.out j hlt).1
      have h2 := (HO.out j hlt).2
      clear hbad
      generalize G j = x at c1 h1 h2
      go_wp2_with (go_at_call 116; refine (isNumber_yes _ _ h1 h2).mono ?_; rintro e w' ⟨rfl, rfl⟩)
      go_round
      case rel => exact ⟨j + 1, by omega, by go_num⟩
      case measure => simp [intOf]; omega
    · obtain rfl : j = q := by omega
      have HB := Lib.hid hbad
      clear hbad
      generalize G j = x at c1 HB
      go_wp2_with (go_at_call 116; refine (isNumber_no _ _ HB.out).mono ?_; rintro e w' ⟨rfl, rfl⟩)
      go_ret
      exact ⟨rfl, rfl⟩

/-- What is taken behind j numbers; whether the first j are apart. -/
def tk (G : Nat → Int) : Nat → Int
  | 0 => 0
  | j + 1 => bits .or .i64 (tk G j) (G j)
def apt (G : Nat → Int) (n : Nat) : Prop := ∀ i, i < n → (bits .and .i64 (tk G i) (G i) != 0) = false
theorem apt_not {G : Nat → Int} {n : Nat} (h : ¬ apt G n) : ∃ i, i < n ∧ (bits .and .i64 (tk G i) (G i) != 0) = true ∧ apt G i := by
  induction n with
  | zero => exact absurd (fun i hi => by omega) h
  | succ n ih =>
    by_cases h1 : apt G n
    · refine ⟨n, by omega, ?_, h1⟩
      cases hb : (bits .and .i64 (tk G n) (G n) != 0) with
      | true => rfl
      | false =>
        exfalso
        apply h
        intro i hi
        by_cases e : i = n
        · subst e; exact hb
        · exact h1 i (by omega)
    · obtain ⟨i, a, b, c⟩ := ih h1
      exact ⟨i, by omega, b, c⟩

theorem l01Apart_yes (v : Value) (n : Nat) (G : Nat → Int) (w : World) (h : RdI w v n G) (hap : apt G n) :
    Calls Try.prog 117 #[v] w fun e w' => e = .returned (.bool true) ∧ w = w' := by
  obtain ⟨a, cap, rfl, hm, hc⟩ := h
  by_cases h0 : n = 0
  · subst h0
    clear hc
    go_enter Try.func117, Try.ntmps117
    go_wp2
    refine wp_loop_rounds 1 ?_
    rw [rounds_succ]
    go_wp2
    go_ret
    exact ⟨rfl, rfl⟩
  · obtain ⟨b, off, rfl, hc'⟩ := hc.resolve_left h0
    have HC := Lib.hid hc'
    have HO := Lib.hid hap
    clear hc hc' h0 hap
    unfold maxLen at hm
    go_enter Try.func117, Try.ntmps117
    go_wp2
    go_loop [3, 4] (fun t c => ∃ j : Nat, j ≤ n ∧ c = .int .i64 j ∧ t = .int .i64 (tk G j)) (fun _ c => n - (intOf c).toNat)
    case atStart => exact ⟨0, by omega, rfl, rfl⟩
    case round =>
      obtain ⟨j, hj, rfl, rfl⟩ := hrel
      by_cases hlt : j < n
      · have hlt' : (j : Int) < (n : Int) := by omega
        have c1 := HC.out j hlt
        have h1 := HO.out j hlt
        have HT : Hid (tk G (j + 1) = bits .or .i64 (tk G j) (G j)) := Lib.hid rfl
        generalize G j = x at c1 h1 HT
        generalize tk G j = y at h1 HT ⊢
        go_wp2
        go_round
        case rel => exact ⟨j + 1, by omega, by go_num, by rw [HT.out]⟩
        case measure => simp [intOf]; omega
      · go_wp2
        go_ret
        exact ⟨rfl, rfl⟩

theorem l01Apart_no (v : Value) (n : Nat) (G : Nat → Int) (w : World) (h : RdI w v n G) (hap : ¬ apt G n) :
    Calls Try.prog 117 #[v] w fun e w' => e = .returned (.bool false) ∧ w = w' := by
  obtain ⟨a, cap, rfl, hm, hc⟩ := h
  obtain ⟨q, hq, hbad, hok'⟩ := apt_not hap
  obtain ⟨b, off, rfl, hc'⟩ := hc.resolve_left (by omega)
  have HC := Lib.hid hc'
  have HO := Lib.hid hok'
  have HB := Lib.hid hbad
  clear hc hc' hap hok' hbad
  unfold maxLen at hm
  go_enter Try.func117, Try.ntmps117
  go_wp2
  go_loop [3, 4] (fun t c => ∃ j : Nat, j ≤ q ∧ c = .int .i64 j ∧ t = .int .i64 (tk G j)) (fun _ c => n - (intOf c).toNat)
  case atStart => exact ⟨0, by omega, rfl, rfl⟩
  case round =>
    obtain ⟨j, hj, rfl, rfl⟩ := hrel
    have hlt' : (j : Int) < (n : Int) := by omega
    have c1 := HC.out j (by omega)
    by_cases hlt : j < q
    · have h1 := HO.out j hlt
      have HT : Hid (tk G (j + 1) = bits .or .i64 (tk G j) (G j)) := Lib.hid rfl
      generalize G j = x at c1 h1 HT
      generalize tk G j = y at h1 HT ⊢
      go_wp2
      go_round
      case rel => exact ⟨j + 1, by omega, by go_num, by rw [HT.out]⟩
      case measure => simp [intOf]; omega
    · obtain rfl : j = q := by omega
      have h1 := HB.out
      clear HB
      generalize G j = x at c1 h1
      generalize tk G j = y at h1 ⊢
      go_wp2
      go_ret
      exact ⟨rfl, rfl⟩
end Go.Proofs.Ytnfhfilconcajaa
end
section
namespace Go.Proofs.Ytnfhfilconcajaa
open Go.RowKit
set_option maxRecDepth 100000
set_option linter.unusedVariables false

end Go.Proofs.Ytnfhfilconcajaa
end
section
namespace Go.Proofs.Ytnfhfilconcajaa
open Go.RowKit Go.Maps
set_option linter.unusedVariables false
set_option maxRecDepth 100000

/-- x occurs an odd number of times. -/
def par {α : Type} : List α → α → Prop
  | [], _ => False
  | x :: r, k => (x = k ∧ ¬ par r k) ∨ (x ≠ k ∧ par r k)
theorem par_snoc {α : Type} (r : List α) (x k : α) : par (r ++ [x]) k ↔ (x = k ∧ ¬ par r k) ∨ (x ≠ k ∧ par r k) := by
  induction r with
  | nil => simp [par]
  | cons y r ih =>
    show (y = k ∧ ¬ par (r ++ [x]) k) ∨ (y ≠ k ∧ par (r ++ [x]) k) ↔ (x = k ∧ ¬ ((y = k ∧ ¬ par r k) ∨ (y ≠ k ∧ par r k))) ∨ (x ≠ k ∧ ((y = k ∧ ¬ par r k) ∨ (y ≠ k ∧ par r k)))
    rw [ih]
    by_cases h1 : y = k <;> by_cases h2 : x = k <;> by_cases h3 : par r k <;> simp [h1, h2, h3]
theorem par_same {α : Type} (r : List α) (x : α) : par (r ++ [x]) x ↔ ¬ par r x := by rw [par_snoc]; simp
theorem par_other {α : Type} (r : List α) (x k : α) (h : x ≠ k) : par (r ++ [x]) k ↔ par r k := by rw [par_snoc]; simp [h]
theorem par_mem {α : Type} (r : List α) (k : α) (h : par r k) : k ∈ r := by
  induction r with
  | nil => cases h
  | cons x r ih =>
    rcases h with ⟨e, _⟩ | ⟨_, h⟩
    · rw [e]; exact List.mem_cons_self
    · exact List.mem_cons_of_mem _ (ih h)
theorem par_append {α : Type} (r s : List α) (k : α) : par (r ++ s) k ↔ ((par r k ∧ ¬ par s k) ∨ (¬ par r k ∧ par s k)) := by
  induction r with
  | nil => simp [par]
  | cons y r ih =>
    show (y = k ∧ ¬ par (r ++ s) k) ∨ (y ≠ k ∧ par (r ++ s) k) ↔ _
    rw [ih]
    show _ ↔ ((((y = k ∧ ¬ par r k) ∨ (y ≠ k ∧ par r k)) ∧ ¬ par s k) ∨ (¬ ((y = k ∧ ¬ par r k) ∨ (y ≠ k ∧ par r k)) ∧ par s k))
    by_cases h1 : y = k <;> by_cases h2 : par r k <;> by_cases h3 : par s k <;> simp [h1, h2, h3]

/-- The map D (with bools) has just the keys that occur an odd number of times in p, each with true. -/
def MapIs (T : TypeId) (D : DataW Unit) (p : List (Array Value)) : Prop :=
  ∀ (k : Array Value) (l : Lit), keyOf Try.prog T (.agg k) = some l → (par p k → D.atKey l (.lit (.bool false)) = .lit (.bool true) ∧ has D l = true) ∧ (¬ par p k → D.atKey l (.lit (.bool false)) = .lit (.bool false) ∧ has D l = false)
theorem MapIs.nil (T : TypeId) : MapIs T (.map []) [] := fun k l _ => ⟨fun h => (by cases h), fun _ => ⟨rfl, rfl⟩⟩
theorem MapIs.put {T : TypeId} {D : DataW Unit} {p : List (Array Value)} (h : MapIs T D p) (K : Keyed Try.prog T) (hm : IsMap D) {x : Array Value} {lx : Lit} (hx : keyOf Try.prog T (.agg x) = some lx) (hp : ¬ par p x) : MapIs T (D.put lx (.lit (.bool true))) (p ++ [x]) := by
  intro k l hk
  by_cases e : x = k
  · subst e
    rw [hx] at hk
    cases hk
    refine ⟨fun _ => ⟨atKey_put_same hm (K.key hx) _ _, has_put_same hm (K.key hx) _⟩, fun hn => absurd ((par_same p x).2 hp) hn⟩
  · have hne : l ≠ lx := fun e1 => e (by subst e1; have := K.inj hx hk; simpa using this)
    rw [par_other p x k e, atKey_put_other hne, has_put_other hne]
    exact h k l hk
theorem MapIs.del {T : TypeId} {D : DataW Unit} {p : List (Array Value)} (h : MapIs T D p) (K : Keyed Try.prog T) {x : Array Value} {lx : Lit} (hx : keyOf Try.prog T (.agg x) = some lx) (hp : par p x) : MapIs T (D.del lx) (p ++ [x]) := by
  intro k l hk
  by_cases e : x = k
  · subst e
    rw [hx] at hk
    cases hk
    refine ⟨fun hn => absurd hp ((par_same p x).1 hn), fun _ => ⟨atKey_del_same _, has_del_same⟩⟩
  · have hne : l ≠ lx := fun e1 => e (by subst e1; have := K.inj hx hk; simpa using this)
    rw [par_other p x k e, atKey_del_other hne, has_del_other hne]
    exact h k l hk

theorem plainB_inv {v : Value} {b : Bool} {ps : List MemPlace} (h : plainElem (H := Unit) Try.prog 4 v = some (.lit (.bool b), ps)) : v = .bool b := by
  unfold plainElem at h
  rw [Try.underlying4] at h
  cases v <;> simp at h
  rw [h.1]

/-- The first i of two lists, joined. -/
def preK (xs ys : List (Array Value)) : Nat → List (Array Value)
  | 0 => []
  | 1 => xs
  | _ => xs ++ ys

theorem laidP : laidOutB Try.prog = true := by kernel_rfl
end Go.Proofs.Ytnfhfilconcajaa
end
