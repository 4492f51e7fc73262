/-
  Contract of impl.appendPartitions.
-/
import Derived.Test.YtnfhfilconcajaaWPushed
import Derived.Test.YtnfhfilconcajaaWSpecPart
import Derived.Test.YtnfhfilconcajaaWOnesIn
namespace Go.Proofs.Ytnfhfilconcajaa
open Go.RowKit
set_option maxRecDepth 100000
set_option linter.unusedVariables false

/-- Each of the new values is one of the old ones, or its memory is new. -/
def From (C m : Nat) (VS : Nat → Value) (m' : Nat) (VS' : Nat → Value) : Prop := ∀ i, i < m' → (∃ i0, i0 < m ∧ VS' i = VS i0) ∨ (∀ k, (VS' i).ownBlock = some k → C ≤ k)
theorem From.refl (C m : Nat) (VS : Nat → Value) : From C m VS m VS := fun i hi => .inl ⟨i, hi, rfl⟩
theorem From.trans {C C1 m m1 m2 : Nat} {VS VS1 VS2 : Nat → Value} (h : From C m VS m1 VS1) (k : From C1 m1 VS1 m2 VS2) (hc : C ≤ C1) : From C m VS m2 VS2 := fun i hi => by
  rcases k i hi with ⟨i1, h1, e1⟩ | h1
  · rcases h i1 h1 with ⟨i0, h0, e0⟩ | h0
    · exact .inl ⟨i0, h0, e1.trans e0⟩
    · exact .inr fun k hk => h0 k (by rw [← e1]; exact hk)
  · exact .inr fun k hk => Nat.le_trans hc (h1 k hk)
theorem From.apart {w : World} {B n m m' : Nat} {VS VS' : Nat → Value} {bv : Value} {xs : List Value} {e : TypeId} {s : Nat} (h : From w.heap.size m VS m' VS') (hb : w.ownsRow B e s bv n xs)
    (ho : ∀ i, i < m → (VS i).ownBlock = none ∨ (VS i).ownBlock ≠ bv.ownBlock) : ∀ i, i < m' → (VS' i).ownBlock = none ∨ (VS' i).ownBlock ≠ bv.ownBlock := fun i hi => by
  rcases h i hi with ⟨i0, h0, e0⟩ | h0
  · rw [e0]; exact ho i0 h0
  · exact apart_symm (apart_new hb h0)
theorem From.ext {C m : Nat} {VS : Nat → Value} {u : Value} (hu : ∀ k, u.ownBlock = some k → C ≤ k) : From C m VS (m + 1) (ext VS m u) := fun i hi => by
  unfold Go.Proofs.Ytnfhfilconcajaa.ext
  by_cases h1 : i < m
  · rw [if_pos h1]; exact .inl ⟨i, h1, rfl⟩
  · rw [if_neg h1]; exact .inr hu

/-- What the contract leaves. -/
def ImplPost (B : Nat) (w : World) (bv : Value) (n : Nat) (zs : List Int) (m : Nat) (VS : Nat → Value) (xss : List (List Int)) (e : Ending) (w' : World) : Prop :=
  ∃ V' VS', e = .returned V' ∧ FamL w' B V' VS' xss ∧ Below B w w' ∧ KeepI bv.ownBlock w w' ∧ w'.ownsRow B 2 1 bv n (zs.map (Value.int .i64)) ∧ Sep xss.length VS' ∧ From w.heap.size m VS xss.length VS'

theorem Pushed.fam {B n : Nat} {w w' : World} {bv v' V : Value} {zs : List Int} {x : Int} {VS : Nat → Value} {xss : List (List Int)} (h : Pushed B w w' bv v' n zs x) (hF : FamL w B V VS xss)
    (ha : ∀ i, i < xss.length → (VS i).ownBlock = none ∨ (VS i).ownBlock ≠ bv.ownBlock) : FamL w' B V VS xss :=
  FamL.keep hF ha (h.keep w' (KeepI.refl _ _)) (h.rows _ _ _ hF.out)

end Go.Proofs.Ytnfhfilconcajaa
