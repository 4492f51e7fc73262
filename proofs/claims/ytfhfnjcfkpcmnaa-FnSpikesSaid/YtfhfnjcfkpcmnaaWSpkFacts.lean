/-
  Plain facts on the spike lists of 0 to 40: each has its sum, its numbers are one less than powers of 2, and the least length is that of a list. No program in sight.
-/
import Derived.Test.YtfhfnjcfkpcmnaaWSpkLaw
import Derived.Test.YtfhfnjcfkpcmnaaWLeastSpike
import Derived.Test.YtfhfnjcfkpcmnaaWSame
namespace Go.Proofs.Ytfhfnjcfkpcmnaa
open Go.RowKit
set_option linter.unusedVariables false

def lst (d : Nat) : Nat := ((List.range 64).find? fun s => decide (pcl 64 (d + s) ≤ s)).getD 0
def okElem (e : Int) : Bool := decide (1 ≤ e) && decide (e ≤ 40) && decide (e.toNat &&& (e.toNat + 1) = 0)
def okRow (d : Nat) (r : List Int) : Bool := decide (lst d ≤ r.length) && decide (smr (fun i => r[i]?.getD 0) r.length = (d : Int)) && r.all okElem
def okAll (d : Nat) : Bool :=
  decide (pcl 64 (d + lst d) ≤ lst d) && (List.range (lst d)).all (fun t => decide (t < pcl 64 (d + t))) && (spk 40 [] d d).all (okRow d) && (spk 40 [] d d).any fun r => decide (r.length = lst d)

set_option maxRecDepth 100000 in
theorem okAll_all : ∀ d, d < 41 → okAll d = true := by decide +kernel

/-- Whether a list among the first j has the length l. -/
def mt (xss : List (List Int)) (l : Nat) : Nat → Bool
  | 0 => false
  | j + 1 => mt xss l j || decide ((rowsOf xss j).length = l)

theorem mt_of (xss : List (List Int)) (l : Nat) (j : Nat) : ∀ i, i < j → (rowsOf xss i).length = l → mt xss l j = true := by
  induction j with
  | zero => intro i h; omega
  | succ j ih =>
    intro i hi h
    rw [mt]
    by_cases e : i = j
    · subst e; simp [h]
    · rw [ih i (by omega) h]; rfl

def OkE (e : Int) : Prop := 1 ≤ e ∧ e ≤ 40 ∧ bits .and .i64 e (e + 1) = 0

theorem okElem_of (e : Int) (h : okElem e = true) : OkE e := by
  unfold okElem at h
  simp only [Bool.and_eq_true, decide_eq_true_eq] at h
  obtain ⟨⟨h1, h2⟩, h3⟩ := h
  obtain ⟨n, rfl⟩ := Int.eq_ofNat_of_zero_le (show 0 ≤ e by omega)
  refine ⟨h1, h2, ?_⟩
  have e1 : ((n : Int) + 1) = ((n + 1 : Nat) : Int) := by omega
  rw [e1, i64_and n (n + 1) (by omega) (by omega)]
  rw [Int.toNat_natCast] at h3
  rw [h3]
  rfl

theorem rowsOf_mem (xss : List (List Int)) (j : Nat) (h : j < xss.length) : rowsOf xss j ∈ xss := by
  unfold rowsOf
  rw [List.getElem?_eq_getElem h]
  exact List.getElem_mem h

theorem spk_facts (d : Nat) (hd : d ≤ 40) :
    LS d (lst d) ∧ 0 < (spk 40 [] d d).length ∧ mt (spk 40 [] d d) (lst d) (spk 40 [] d d).length = true ∧
    ∀ j, j < (spk 40 [] d d).length → lst d ≤ (rowsOf (spk 40 [] d d) j).length ∧ smr (fun i => (rowsOf (spk 40 [] d d) j)[i]?.getD 0) (rowsOf (spk 40 [] d d) j).length = (d : Int) ∧
      ∀ i, i < (rowsOf (spk 40 [] d d) j).length → OkE ((rowsOf (spk 40 [] d d) j)[i]?.getD 0) := by
  have h := okAll_all d (by omega)
  unfold okAll at h
  generalize spk 40 [] d d = xss at h ⊢
  simp only [Bool.and_eq_true, decide_eq_true_eq, List.all_eq_true, List.mem_range, List.any_eq_true] at h
  obtain ⟨⟨⟨h1, h2⟩, h3⟩, r, h4, h5⟩ := h
  obtain ⟨i, hi, hr⟩ := List.getElem_of_mem h4
  refine ⟨⟨h1, h2⟩, by omega, mt_of xss _ _ i hi (by unfold rowsOf; rw [List.getElem?_eq_getElem hi]; simpa [hr] using h5), fun j hj => ?_⟩
  have h6 := h3 _ (rowsOf_mem xss j hj)
  unfold okRow at h6
  simp only [Bool.and_eq_true, decide_eq_true_eq, List.all_eq_true] at h6
  obtain ⟨⟨h7, h8⟩, h9⟩ := h6
  refine ⟨h7, h8, fun i hi => okElem_of _ ?_⟩
  rw [List.getElem?_eq_getElem hi]
  exact h9 _ (List.getElem_mem hi)
end Go.Proofs.Ytfhfnjcfkpcmnaa
