/-
  Lists of exponent lists, as both programs find them; and what stays of the rows of numbers while slices of slices grow.
-/
import Derived.Test.YtfmnlapnbhcacaaWOwn
import Derived.Test.YtfmnlapnbhcacaaWExt
import Derived.Test.YtfmnlapnbhcacaaPlainCount
namespace Go.Proofs.Ytfmnlapnbhcacaa
open Go.RowKit
set_option maxRecDepth 100000
set_option linter.unusedVariables false

/-- How many exponents of the weight p fit into d. -/
def cnt (d p : Nat) : Nat := if p ≤ d then d / p + 1 else 0

/-- All exponent lists that begin with zs and whose others have the degree d, at most f others. -/
def parts : Nat → List Int → Nat → List (List Int)
  | 0, zs, d => if d = 0 then [zs] else []
  | f + 1, zs, d => if d = 0 then [zs] else (List.range (cnt d (sp zs.length))).flatMap fun (r : Nat) => parts f (zs ++ [(r : Int)]) (d - r * sp zs.length)

/-- The same, the first j exponents alone. -/
def partsTo (f : Nat) (zs : List Int) (d j : Nat) : List (List Int) := (List.range j).flatMap fun (r : Nat) => parts f (zs ++ [(r : Int)]) (d - r * sp zs.length)
theorem partsTo_zero (f : Nat) (zs : List Int) (d : Nat) : partsTo f zs d 0 = [] := rfl
theorem partsTo_succ (f : Nat) (zs : List Int) (d j : Nat) : partsTo f zs d (j + 1) = partsTo f zs d j ++ parts f (zs ++ [(j : Int)]) (d - j * sp zs.length) := by
  unfold partsTo
  rw [List.range_succ, List.flatMap_append]
  simp
theorem parts_zero (f : Nat) (zs : List Int) : parts f zs 0 = [zs] := by
  cases f <;> simp [parts]
theorem parts_succ (f : Nat) (zs : List Int) (d : Nat) (h : 0 < d) : parts (f + 1) zs d = partsTo f zs d (cnt d (sp zs.length)) := by
  rw [parts, if_neg (by omega)]
  rfl
theorem parts_none (f : Nat) (zs : List Int) (d : Nat) (h : 0 < d) (hp : d < sp zs.length) : parts f zs d = [] := by
  cases f with
  | zero => rw [parts, if_neg (by omega)]
  | succ f => rw [parts_succ _ _ _ h, show cnt d (sp zs.length) = 0 by unfold cnt; rw [if_neg (by omega)]]; rfl

theorem sp_pos (i : Nat) : 0 < sp i := by have := sp_gt i; omega

/-- Whether j exponents more fit. -/
theorem cnt_le (d p j : Nat) (hp : 0 < p) (hd : p ≤ d) : j < cnt d p ↔ j * p ≤ d := by
  unfold cnt
  rw [if_pos hd]
  constructor
  · intro h
    exact (Nat.le_div_iff_mul_le hp).1 (by omega)
  · intro h
    have := (Nat.le_div_iff_mul_le hp).2 h
    omega
theorem cnt_eq (d p j : Nat) (hp : 0 < p) (hd : p ≤ d) (h : j * p = d) : cnt d p = j + 1 := by
  unfold cnt
  rw [if_pos hd, ← h, Nat.mul_div_cancel _ hp]

theorem partsTo_len (f : Nat) (N : Nat) (h : ∀ zs d, d ≤ 40 → (parts f zs d).length ≤ N) (zs : List Int) (d : Nat) (hd : d ≤ 40) (j : Nat) : (partsTo f zs d j).length ≤ j * N := by
  induction j with
  | zero => simp [partsTo_zero]
  | succ j ih =>
    rw [partsTo_succ, List.length_append, Nat.succ_mul]
    have := h (zs ++ [(j : Int)]) (d - j * sp zs.length) (by omega)
    omega
theorem parts_len (f : Nat) : ∀ (zs : List Int) (d : Nat), d ≤ 40 → (parts f zs d).length ≤ 41 ^ f := by
  induction f with
  | zero => intro zs d _; rw [parts]; split <;> simp
  | succ f ih =>
    intro zs d hd
    by_cases h0 : d = 0
    · subst h0
      rw [parts_zero]
      exact Nat.pow_pos (by decide)
    · rw [parts_succ _ _ _ (by omega)]
      have h1 := partsTo_len f (41 ^ f) ih zs d hd (cnt d (sp zs.length))
      have h2 : cnt d (sp zs.length) ≤ 41 := by
        unfold cnt
        split
        · have : d / sp zs.length ≤ d := Nat.div_le_self _ _
          omega
        · omega
      have h3 : cnt d (sp zs.length) * 41 ^ f ≤ 41 * 41 ^ f := Nat.mul_le_mul_right _ h2
      rw [Nat.pow_succ]
      omega

/-! ### What stays of the rows of numbers -/
def KeepI (q : Option Nat) (w w' : World) : Prop := ∀ k cur, w.heap[k]? = some (.cells cur 2 (0, 0)) → some k ≠ q → w'.heap[k]? = w.heap[k]?
theorem KeepI.refl (q : Option Nat) (w : World) : KeepI q w w := fun _ _ _ _ => rfl
theorem KeepI.trans {q : Option Nat} {a b c : World} (h : KeepI q a b) (k : KeepI q b c) : KeepI q a c := fun i cur hi hq => by
  have h1 := h i cur hi hq
  rw [k i cur (h1.trans hi) hq, h1]
theorem KeepI.wide {a b : World} (h : KeepI none a b) (q : Option Nat) : KeepI q a b := fun i cur hi _ => h i cur hi (by intro e; cases e)
theorem KeepI.below {a b : World} (h : Below a.heap.size a b) (q : Option Nat) : KeepI q a b := fun i cur hi _ => h.block i (Array.getElem?_eq_some_iff.1 hi).1
theorem KeepI.row {a b : World} {B n : Nat} {V : Value} {xs : List Value} (hV : a.ownsRow B 27 1 V n xs) (h : a.grownBy b V.ownBlock) (q : Option Nat) : KeepI q a b := fun i cur hi _ => by
  refine h.block i (Array.getElem?_eq_some_iff.1 hi).1 fun e => ?_
  rcases hV.2 with ⟨rfl, _⟩ | ⟨g, cap, cur', rfl, _, hg, _⟩
  · cases e
  · simp only [Value.ownBlock, Option.some.injEq] at e
    subst e
    rw [hi] at hg
    cases hg
theorem KeepI.own {q : Option Nat} {w w' : World} (k : KeepI q w w') {B n : Nat} {v : Value} {xs : List Value} (h : w.ownsRow B 2 1 v n xs) (hq : v.ownBlock = none ∨ v.ownBlock ≠ q) : w'.ownsRow B 2 1 v n xs := by
  refine ⟨h.1, ?_⟩
  rcases h.2 with hn | ⟨g, cap, cur, rfl, hb, hg, rest⟩
  · exact .inl hn
  · refine .inr ⟨g, cap, cur, rfl, hb, ?_, rest⟩
    rw [k g cur hg (by rcases hq with hq | hq; exact absurd hq (by simp [Value.ownBlock]); exact hq)]
    exact hg

/-! ### Families that read as a list of lists -/
def rowsOf (xss : List (List Int)) : Nat → List Int := fun i => xss[i]?.getD []
abbrev FamL (w : World) (B : Nat) (V : Value) (VS : Nat → Value) (xss : List (List Int)) : Prop := Fam w B V xss.length VS (rowsOf xss)

theorem ext_map (VS : Nat → Value) (m : Nat) (v : Value) : (List.range (m + 1)).map (ext VS m v) = (List.range m).map VS ++ [v] := by
  rw [List.range_succ, List.map_append]
  congr 1
  · apply List.map_congr_left
    intro i hi
    rw [ext, if_pos (List.mem_range.1 hi)]
  · simp [ext]

theorem FamL.push {w w1 : World} {B n : Nat} {V V' v : Value} {VS : Nat → Value} {xss : List (List Int)} {zs : List Int} {q : Option Nat} (h : FamL w B V VS xss)
    (hq : ∀ i, i < xss.length → (VS i).ownBlock = none ∨ (VS i).ownBlock ≠ q) (k : KeepI q w w1)
    (ho : w1.ownsRow B 27 1 V' (xss.length + 1) ((List.range xss.length).map VS ++ [v])) (hv : w1.ownsRow B 2 1 v n (zs.map (Value.int .i64))) (hn : n = zs.length) :
    FamL w1 B V' (ext VS xss.length v) (xss ++ [zs]) := by
  subst hn
  refine ⟨by rw [List.length_append, List.length_singleton, ext_map]; exact ho, fun i hi => ?_⟩
  rw [List.length_append, List.length_singleton] at hi
  by_cases hlt : i < xss.length
  · have e1 : rowsOf (xss ++ [zs]) i = rowsOf xss i := by unfold rowsOf; rw [List.getElem?_append_left hlt]
    rw [e1, ext, if_pos hlt]
    exact k.own (h.inn i hlt) (hq i hlt)
  · have e0 : i = xss.length := by omega
    subst e0
    have e1 : rowsOf (xss ++ [zs]) xss.length = zs := by unfold rowsOf; rw [List.getElem?_append_right (Nat.le_refl _), Nat.sub_self]; rfl
    rw [e1, ext, if_neg (Nat.lt_irrefl _)]
    exact hv

theorem FamL.keep {w w1 : World} {B : Nat} {V : Value} {VS : Nat → Value} {xss : List (List Int)} {q : Option Nat} (h : FamL w B V VS xss)
    (hq : ∀ i, i < xss.length → (VS i).ownBlock = none ∨ (VS i).ownBlock ≠ q) (k : KeepI q w w1) (ho : w1.ownsRow B 27 1 V xss.length ((List.range xss.length).map VS)) : FamL w1 B V VS xss :=
  ⟨ho, fun i hi => k.own (h.inn i hi) (hq i hi)⟩
end Go.Proofs.Ytfmnlapnbhcacaa
