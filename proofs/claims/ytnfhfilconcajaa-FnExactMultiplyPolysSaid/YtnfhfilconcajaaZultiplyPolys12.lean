/-
  Joined: KFam, KRows.
-/
import Derived.Test.YtnfhfilconcajaaZultiplyPolys06
import Derived.Test.YtnfhfilconcajaaZultiplyPolys11
section
namespace Go.Proofs.Ytnfhfilconcajaa
open Go.RowKit
set_option maxRecDepth 100000
set_option linter.unusedVariables false

theorem own_len {w : World} {B : Nat} {v : Value} {n : Nat} {xs : List Value} (h : w.ownsRow B 2 1 v n xs) : ∃ a cap, v = .slice a n cap ∧ n ≤ maxLen := by
  rcases h.2 with ⟨rfl, rfl⟩ | ⟨g, cap, cur, rfl, _, _, h1, h2, _⟩
  · exact ⟨none, 0, rfl, Nat.zero_le _⟩
  · exact ⟨_, cap, rfl, Nat.le_trans h1 h2⟩

/-! ### What stays of the rows of numbers -/
def KeepI (q : Option Nat) (w w' : World) : Prop := ∀ k cur, w.heap[k]? = some (.cells cur 2 (0, 0)) → some k ≠ q → w'.heap[k]? = w.heap[k]?
theorem KeepI.refl (q : Option Nat) (w : World) : KeepI q w w := fun _ _ _ _ => rfl
theorem KeepI.trans {q : Option Nat} {a b c : World} (h : KeepI q a b) (k : KeepI q b c) : KeepI q a c := fun i cur hi hq => by
  have h1 := h i cur hi hq
  rw [k i cur (h1.trans hi) hq, h1]
theorem KeepI.wide {a b : World} (h : KeepI none a b) (q : Option Nat) : KeepI q a b := fun i cur hi _ => h i cur hi (by intro e; cases e)
theorem KeepI.below {a b : World} (h : Below a.heap.size a b) (q : Option Nat) : KeepI q a b := fun i cur hi _ => h.block i (Array.getElem?_eq_some_iff.1 hi).1
theorem KeepI.row {a b : World} {B n : Nat} {V : Value} {xs : List Value} (hV : a.ownsRow B 53 1 V n xs) (h : a.grownBy b V.ownBlock) (q : Option Nat) : KeepI q a b := fun i cur hi _ => by
  refine h.block i (Array.getElem?_eq_some_iff.1 hi).1 fun e => ?_
  rcases hV.2 with ⟨rfl, _⟩ | ⟨g, cap, cur', rfl, _, hg, _⟩
  · cases e
  · simp only [Value.ownBlock, Option.some.injEq] at e
    subst e
    rw [hi] at hg
    cases hg
theorem KeepI.own {q : Option Nat} {w w' : World} (k : KeepI q w w') {B n : Nat} {v : Value} {xs : List Value} (h : w.ownsRow B 2 1 v n xs) (hq : v.ownBlock = none ∨ v.ownBlock ≠ q) : w'.ownsRow B 2 1 v n xs := by
  refine ⟨h.1, ?_⟩
  rcases h.2 with hn | ⟨g, cap, cur, rfl, hb, hg, rest⟩
  · exact .inl hn
  · refine .inr ⟨g, cap, cur, rfl, hb, ?_, rest⟩
    rw [k g cur hg (by rcases hq with hq | hq; exact absurd hq (by simp [Value.ownBlock]); exact hq)]
    exact hg

/-! ### Families that read as a list of lists -/
def rowsOf (xss : List (List Int)) : Nat → List Int := fun i => xss[i]?.getD []
abbrev FamL (w : World) (B : Nat) (V : Value) (VS : Nat → Value) (xss : List (List Int)) : Prop := Fam w B V xss.length VS (rowsOf xss)

theorem ext_map (VS : Nat → Value) (m : Nat) (v : Value) : (List.range (m + 1)).map (ext VS m v) = (List.range m).map VS ++ [v] := by
  rw [List.range_succ, List.map_append]
  congr 1
  · apply List.map_congr_left
    intro i hi
    rw [ext, if_pos (List.mem_range.1 hi)]
  · simp [ext]

theorem FamL.push {w w1 : World} {B n : Nat} {V V' v : Value} {VS : Nat → Value} {xss : List (List Int)} {zs : List Int} {q : Option Nat} (h : FamL w B V VS xss)
    (hq : ∀ i, i < xss.length → (VS i).ownBlock = none ∨ (VS i).ownBlock ≠ q) (k : KeepI q w w1)
    (ho : w1.ownsRow B 53 1 V' (xss.length + 1) ((List.range xss.length).map VS ++ [v])) (hv : w1.ownsRow B 2 1 v n (zs.map (Value.int .i64))) (hn : n = zs.length) :
    FamL w1 B V' (ext VS xss.length v) (xss ++ [zs]) := by
  subst hn
  refine ⟨by rw [List.length_append, List.length_singleton, ext_map]; exact ho, fun i hi => ?_⟩
  rw [List.length_append, List.length_singleton] at hi
  by_cases hlt : i < xss.length
  · have e1 : rowsOf (xss ++ [zs]) i = rowsOf xss i := by unfold rowsOf; rw [List.getElem?_append_left hlt]
    rw [e1, ext, if_pos hlt]
    exact k.own (h.inn i hlt) (hq i hlt)
  · have e0 : i = xss.length := by omega
    subst e0
    have e1 : rowsOf (xss ++ [zs]) xss.length = zs := by unfold rowsOf; rw [List.getElem?_append_right (Nat.le_refl _), Nat.sub_self]; rfl
    rw [e1, ext, if_neg (Nat.lt_irrefl _)]
    exact hv

theorem FamL.keep {w w1 : World} {B : Nat} {V : Value} {VS : Nat → Value} {xss : List (List Int)} {q : Option Nat} (h : FamL w B V VS xss)
    (hq : ∀ i, i < xss.length → (VS i).ownBlock = none ∨ (VS i).ownBlock ≠ q) (k : KeepI q w w1) (ho : w1.ownsRow B 53 1 V xss.length ((List.range xss.length).map VS)) : FamL w1 B V VS xss :=
  ⟨ho, fun i hi => k.own (h.inn i hi) (hq i hi)⟩
theorem apart_symm {v v' : Value} (h : v.ownBlock = none ∨ v.ownBlock ≠ v'.ownBlock) : v'.ownBlock = none ∨ v'.ownBlock ≠ v.ownBlock := by
  rcases h with h | h
  · rw [h]
    exact Classical.em _
  · exact .inr (Ne.symm h)

theorem apart_new {w : World} {B n : Nat} {v u : Value} {xs : List Value} {e : TypeId} {s : Nat} (h : w.ownsRow B e s v n xs) (hu : ∀ k, u.ownBlock = some k → w.heap.size ≤ k) : v.ownBlock = none ∨ v.ownBlock ≠ u.ownBlock := by
  cases e1 : v.ownBlock with
  | none => exact .inl rfl
  | some k =>
    refine .inr fun e2 => ?_
    have h1 := (h.lt k e1).2
    have h2 := hu k e2.symm
    omega

theorem Sep.ext {m : Nat} {VS : Nat → Value} {u : Value} (h : Sep m VS) (hu : ∀ i, i < m → (VS i).ownBlock = none ∨ (VS i).ownBlock ≠ u.ownBlock) : Sep (m + 1) (ext VS m u) := by
  intro i j hi hj hij
  unfold Go.Proofs.Ytnfhfilconcajaa.ext
  by_cases h1 : i < m
  · rw [if_pos h1]
    by_cases h2 : j < m
    · rw [if_pos h2]; exact h i j h1 h2 hij
    · rw [if_neg h2]; exact hu i h1
  · rw [if_neg h1]
    by_cases h2 : j < m
    · rw [if_pos h2]; exact apart_symm (hu j h2)
    · exact absurd (by omega) hij
theorem Fam.base {w : World} {B B' : Nat} {V : Value} {m : Nat} {VS : Nat → Value} {Y : Nat → List Int} (h : Fam w B V m VS Y) (hb : B' ≤ B) : Fam w B' V m VS Y :=
  ⟨own_base h.out hb, fun i hi => own_base (h.inn i hi) hb⟩

end Go.Proofs.Ytnfhfilconcajaa
end
section
namespace Go.Proofs.Ytnfhfilconcajaa
open Go.RowKit
set_option maxRecDepth 100000
set_option linter.unusedVariables false

/-- The first m of the lists. -/
def rowsL (X : Nat → List Int) (m : Nat) : List (List Int) := (List.range m).map X
theorem rowsL_succ (X : Nat → List Int) (m : Nat) : rowsL X (m + 1) = rowsL X m ++ [X m] := by simp [rowsL, List.range_succ]
theorem rowsL_len (X : Nat → List Int) (m : Nat) : (rowsL X m).length = m := by simp [rowsL]
theorem mem_rowsL {X : Nat → List Int} {m : Nat} {x : List Int} (h : x ∈ rowsL X m) : ∃ i, i < m ∧ x = X i := by
  obtain ⟨i, hi, e⟩ := List.mem_map.1 h
  exact ⟨i, List.mem_range.1 hi, e.symm⟩

/-- A row of numbers is put behind a family: what the walk wants. -/
theorem fam_put {w w1 w3 : World} {B n : Nat} {S V3 v : Value} {VS : Nat → Value} {L : List (List Int)} {x : List Int} (hF : FamL w B S VS L) (hS : Sep L.length VS) (hB : B ≤ w.heap.size)
    (hv : w1.ownsRow w.heap.size 2 1 v n (x.map (Value.int .i64))) (hn : n = x.length) (hb : Below w.heap.size w w1) (o : Obj)
    (hV3 : w3.ownsRow B 53 1 V3 (L.length + 1) ((List.range L.length).map VS ++ [v])) (hg : (w1.alloc o).grownBy w3 S.ownBlock) :
    FamL w3 B V3 (ext VS L.length v) (L ++ [x]) ∧ Sep (L ++ [x]).length (ext VS L.length v) ∧ Below B w w3 := by
  have hsz := hb.size
  have hF1 : FamL w1 B S VS L := hF.below hb
  have K3 : KeepI none w1 w3 := (KeepI.below ((Below.refl _ w1).alloc (Nat.le_refl _) _) none).trans (KeepI.row (hF1.out.alloc o) hg none)
  have N3 := K3.own (own_base hv hB) (Classical.em _)
  refine ⟨FamL.push hF1 (fun _ _ => Classical.em _) K3 hV3 N3 hn, ?_, ?_⟩
  · rw [List.length_append]
    exact Sep.ext hS (fun i hi => apart_new (hF.inn i hi) (fun k hk => (hv.lt k hk).1))
  · exact (hb.mono hB).trans (((Below.refl _ w1).alloc (by omega) o).grown hg (by simp; omega) (fun k hk => (hF1.out.lt k hk).1))
end Go.Proofs.Ytnfhfilconcajaa
end
