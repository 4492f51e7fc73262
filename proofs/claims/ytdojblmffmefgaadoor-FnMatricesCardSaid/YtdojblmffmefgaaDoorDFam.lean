/-
  Slices of slices that the calls make: families of rows (what the door's texts need of it).
-/
import Derived.Test.YtdojblmffmefgaaDoorWArgs
import Derived.Test.YtdojblmffmefgaaDoorWOwnC
namespace Go.Proofs.YtdojblmffmefgaaDoor
open Go.RowKit
set_option linter.unusedVariables false
set_option maxRecDepth 100000

/-- V owns a row of m slice values VS 0, .., each of which owns the numbers Y i. -/
structure Fam (w : World) (B : Nat) (V : Value) (m : Nat) (VS : Nat → Value) (Y : Nat → List Int) : Prop where
  out : w.ownsRow B 24 1 V m ((List.range m).map VS)
  inn : ∀ i, i < m → w.ownsRow B 2 1 (VS i) (Y i).length ((Y i).map (Value.int .i64))

/-- The rows do not share memory. -/
def Sep (m : Nat) (VS : Nat → Value) : Prop := ∀ i j, i < m → j < m → i ≠ j → (VS i).ownBlock = none ∨ (VS i).ownBlock ≠ (VS j).ownBlock

theorem Fam.below {w w' : World} {B : Nat} {V : Value} {m : Nat} {VS : Nat → Value} {Y : Nat → List Int} (h : Fam w B V m VS Y) (k : Below w.heap.size w w') : Fam w' B V m VS Y :=
  ⟨own_below h.out k, fun i hi => own_below (h.inn i hi) k⟩

theorem Fam.drewN {w : World} {B : Nat} {V : Value} {m : Nat} {VS : Nat → Value} {Y : Nat → List Int} (h : Fam w B V m VS Y) (q : Nat) : Fam (w.drewN q) B V m VS Y := ⟨h.out, h.inn⟩

/-- What lies below C stays when all that lies below C stays. -/
theorem own_lowC {w w' : World} {B C : Nat} {v : Value} {n : Nat} {xs : List Value} {e : TypeId} {s : Nat} (h : w.ownsRow B e s v n xs) (hc : ∀ g, v.ownBlock = some g → g < C) (k : Below C w w') : w'.ownsRow B e s v n xs :=
  own_sameblock h fun g hg => k.block g (hc g hg)

theorem Fam.lowC {w w' : World} {B C : Nat} {V : Value} {m : Nat} {VS : Nat → Value} {Y : Nat → List Int} (h : Fam w B V m VS Y) (hV : ∀ g, V.ownBlock = some g → g < C) (hS : ∀ i, i < m → ∀ g, (VS i).ownBlock = some g → g < C) (k : Below C w w') : Fam w' B V m VS Y :=
  ⟨own_lowC h.out hV k, fun i hi => own_lowC (h.inn i hi) (hS i hi) k⟩

/-- The shape of a family's head. -/
theorem Fam.head {w : World} {B : Nat} {V : Value} {m : Nat} {VS : Nat → Value} {Y : Nat → List Int} (h : Fam w B V m VS Y) : ∃ a cap, V = .slice a m cap ∧ m ≤ maxLen ∧ (m = 0 ∨ ∃ b, a = some ⟨b, 0, none⟩ ∧ ∀ i, i < m → w.cell? ⟨b, i, none⟩ = some (VS i)) := by
  rcases h.out.2 with ⟨rfl, h0⟩ | ⟨g, cap, cur, rfl, hb, hg, h1, h2, h3, h4⟩
  · exact ⟨none, 0, by rw [h0], by rw [h0]; exact Nat.zero_le _, .inl h0⟩
  · refine ⟨_, cap, rfl, Nat.le_trans h1 h2, .inr ⟨g, rfl, fun i hi => ?_⟩⟩
    rw [h.out.cellAt i (by omega)]
    simp [hi]

theorem Fam.rd {w : World} {B : Nat} {V : Value} {m : Nat} {VS : Nat → Value} {Y : Nat → List Int} (h : Fam w B V m VS Y) (i : Nat) (hi : i < m) : RdI w (VS i) (Y i).length (fun j => (Y i)[j]?.getD 0) :=
  rd_of_own (h.inn i hi) rfl

theorem Tryd.infoS : (Tryd.prog.info? 24).map (fun i => (i.zero, i.size, i.bytes)) = some (some (.slice none 0 0), 1, 24) := by kernel_rfl
def ext (VS : Nat → Value) (m : Nat) (v : Value) : Nat → Value := fun i => if i < m then VS i else v
/-- V reads as the m lists X 0, X 1, .. -/
structure RdSS (w : World) (V : Value) (m : Nat) (X : Nat → List Int) : Prop where
  head : ∃ a cap, V = .slice a m cap
  small : m ≤ maxLen
  rows : ∃ VS : Nat → Value, (m = 0 ∨ ∃ b off, (∃ cap, V = .slice (some ⟨b, off, none⟩) m cap) ∧ ∀ i, i < m → w.cell? ⟨b, off + i, none⟩ = some (VS i)) ∧ ∀ i, i < m → RdI w (VS i) (X i).length (fun j => (X i)[j]?.getD 0)

theorem Fam.rdss {w : World} {B : Nat} {V : Value} {m : Nat} {VS : Nat → Value} {Y : Nat → List Int} (h : Fam w B V m VS Y) : RdSS w V m Y := by
  obtain ⟨a, cap, e, hm, hc⟩ := h.head
  refine ⟨⟨a, cap, e⟩, hm, VS, ?_, fun i hi => h.rd i hi⟩
  rcases hc with h0 | ⟨b, rfl, hc⟩
  · exact .inl h0
  · exact .inr ⟨b, 0, ⟨cap, e⟩, fun i hi => by rw [Nat.zero_add]; exact hc i hi⟩

theorem RdSS.below {w w' : World} {V : Value} {m : Nat} {X : Nat → List Int} (h : RdSS w V m X) (k : Below w.heap.size w w') : RdSS w' V m X := by
  obtain ⟨h1, h2, VS, h3, h4⟩ := h
  refine ⟨h1, h2, VS, ?_, fun i hi => (h4 i hi).below k⟩
  rcases h3 with h0 | ⟨b, off, e, hc⟩
  · exact .inl h0
  · exact .inr ⟨b, off, e, fun i hi => (k.cell (p := ⟨b, off + i, none⟩) (World.block_lt_of_cell? w _ (hc i hi))).trans (hc i hi)⟩

theorem RdSS.drewN {w : World} {V : Value} {m : Nat} {X : Nat → List Int} (h : RdSS w V m X) (q : Nat) : RdSS (w.drewN q) V m X := ⟨h.head, h.small, h.rows⟩

theorem apart_swap {v v' : Value} (h : v.ownBlock = none ∨ v.ownBlock ≠ v'.ownBlock) : v'.ownBlock = none ∨ v'.ownBlock ≠ v.ownBlock := by
  rcases h with h | h
  · rw [h]
    exact Classical.em _
  · exact .inr (Ne.symm h)
theorem sep_push {m : Nat} {VS : Nat → Value} {u : Value} (h : Sep m VS) (hu : ∀ i, i < m → (VS i).ownBlock = none ∨ (VS i).ownBlock ≠ u.ownBlock) : Sep (m + 1) (ext VS m u) := by
  intro i j hi hj hij
  unfold ext
  by_cases h1 : i < m
  · rw [if_pos h1]
    by_cases h2 : j < m
    · rw [if_pos h2]; exact h i j h1 h2 hij
    · rw [if_neg h2]; exact hu i h1
  · rw [if_neg h1]
    by_cases h2 : j < m
    · rw [if_pos h2]; exact apart_swap (hu j h2)
    · exact absurd (by omega) hij
theorem apart_lt {w w' : World} {B n m : Nat} {v u : Value} {xs ys : List Value} {e e' : TypeId} {s s' : Nat} (h : w.ownsRow B e s v n xs) (hu : w'.ownsRow w.heap.size e' s' u m ys) : v.ownBlock = none ∨ v.ownBlock ≠ u.ownBlock :=
  own_apart h hu

end Go.Proofs.YtdojblmffmefgaaDoor
