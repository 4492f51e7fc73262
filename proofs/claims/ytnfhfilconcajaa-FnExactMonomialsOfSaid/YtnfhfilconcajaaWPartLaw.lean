/-
  Contracts of spec.PartitionsOf and impl.PartitionsOf, and the walk of laws.FnExactPartitionsOf.
-/
import Derived.Test.YtnfhfilconcajaaWImplPart
namespace Go.Proofs.Ytnfhfilconcajaa
open Go.RowKit
set_option maxRecDepth 100000
set_option linter.unusedVariables false

theorem fam_nil (w : World) (B : Nat) (VS : Nat → Value) : FamL w B (.slice none 0 0) VS [] := ⟨World.ownsRow_nil _ _ _ _, fun i hi => absurd hi (Nat.not_lt_zero _)⟩
theorem sep_zero (VS : Nat → Value) : Sep 0 VS := fun i j hi => absurd hi (Nat.not_lt_zero _)

theorem parts_row (f : Nat) : ∀ (zs : List Int) (d : Nat) (x : List Int), x ∈ parts f zs d → x.length ≤ zs.length + f := by
  induction f with
  | zero =>
    intro zs d x hx
    rw [parts] at hx
    split at hx
    · rw [List.mem_singleton.1 hx]; exact Nat.le_refl _
    · cases hx
  | succ f ih =>
    intro zs d x hx
    by_cases h0 : d = 0
    · subst h0
      rw [parts_zero] at hx
      rw [List.mem_singleton.1 hx]
      omega
    · rw [parts_succ _ _ _ (by omega)] at hx
      obtain ⟨r, _, h⟩ := List.mem_flatMap.1 hx
      have := ih _ _ _ h
      rw [List.length_append, List.length_singleton] at this
      omega

theorem off_bound (L : Nat → Nat) (c m : Nat) (h : ∀ i, i < m → L i ≤ c) : off 1 L m ≤ 1 + ((m * c : Nat) : Int) := by
  induction m with
  | zero => simp [off]
  | succ m ih =>
    have h1 := ih (fun i hi => h i (by omega))
    have h2 := h m (by omega)
    rw [off, Nat.succ_mul]
    omega

theorem rowsOf_len (xss : List (List Int)) (c : Nat) (h : ∀ x ∈ xss, x.length ≤ c) (i : Nat) (hi : i < xss.length) : (rowsOf xss i).length ≤ c := by
  unfold rowsOf
  rw [List.getElem?_eq_getElem hi]
  exact h _ (List.getElem_mem hi)

theorem Fam.low {w : World} {B : Nat} {V : Value} {m : Nat} {VS : Nat → Value} {Y : Nat → List Int} (h : Fam w B V m VS Y) {a b : World} (k : Below w.heap.size a b) (hs : Fam a B V m VS Y) : Fam b B V m VS Y :=
  hs.lowC (fun g hg => (h.out.lt g hg).2) (fun i hi g hg => ((h.inn i hi).lt g hg).2) k

/-- What PartitionsOf returns. -/
def ptOf (a : Int) : List (List Int) := if 0 ≤ a ∧ a ≤ 40 then parts 6 [] a.toNat else []
def pcOf (a : Int) : Int := if 0 ≤ a ∧ a ≤ 40 then 0 else 2
theorem ptOf_len (a : Int) : (ptOf a).length ≤ 200000000000 ∧ ∀ x ∈ ptOf a, x.length ≤ 6 := by
  unfold ptOf
  split
  · rename_i h
    constructor
    · exact Nat.le_trans (parts_len 6 [] a.toNat (by omega)) (by decide)
    · intro x hx
      exact parts_row 6 [] _ x hx
  · exact ⟨Nat.zero_le _, fun x hx => by cases hx⟩

theorem ptOf_off (a : Int) : off 1 (fun i => (rowsOf (ptOf a) i).length) (ptOf a).length ≤ 1152921504606846976 := by
  have h1 := ptOf_len a
  have h2 := off_bound (fun i => (rowsOf (ptOf a) i).length) 6 (ptOf a).length (fun i hi => rowsOf_len _ 6 h1.2 i hi)
  have h3 := h1.1
  omega

/-- What the two functions leave. -/
def SpecRes (w : World) (c : Int) (xss : List (List Int)) (e : Ending) (w' : World) : Prop := ∃ V VS, e = .returned (.tuple #[V, .int .i64 c]) ∧ FamL w' w.heap.size V VS xss ∧ Below w.heap.size w w'
def ImplRes (w : World) (c : Int) (xss : List (List Int)) (e : Ending) (w' : World) : Prop := ∃ V VS, e = .returned (.tuple #[V, .int .i64 c]) ∧ FamL w' w.heap.size V VS xss ∧ Below w.heap.size w w' ∧ Sep xss.length VS

end Go.Proofs.Ytnfhfilconcajaa
