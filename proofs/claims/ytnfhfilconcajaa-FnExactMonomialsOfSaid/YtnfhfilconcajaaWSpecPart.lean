/-
  Contract of spec.l01Partitions.
-/
import Derived.Test.YtnfhfilconcajaaWPartPlain
import Derived.Test.YtnfhfilconcajaaWCount
import Derived.Test.YtnfhfilconcajaaWDegreeLaw
namespace Go.Proofs.Ytnfhfilconcajaa
open Go.RowKit
set_option maxRecDepth 100000
set_option linter.unusedVariables false

theorem own_shape {w : World} {B n : Nat} {v : Value} {xs : List Value} {e : TypeId} {s : Nat} (h : w.ownsRow B e s v n xs) (hn : v ≠ .slice none 0 0) : ∃ g cap, v = .slice (some ⟨g, 0, none⟩) n cap := by
  rcases h.2 with ⟨h1, _⟩ | ⟨g, cap, cur, h1, _⟩
  · exact absurd h1 hn
  · exact ⟨g, cap, h1⟩

/-- What the contract leaves: the lists are longer by so many; below B, and of the rows of numbers, nothing has turned. -/
def PartPost (B : Nat) (w : World) (xss : List (List Int)) (q : Option Nat) (e : Ending) (w' : World) : Prop :=
  ∃ V' VS', e = .returned V' ∧ FamL w' B V' VS' xss ∧ Below B w w' ∧ KeepI q w w'

theorem next_shape {w : World} {B n : Nat} {v : Value} {xs : List Value} {e : TypeId} {s : Nat} (h : w.ownsRow B e s v n xs) (hn : 0 < n) : ∃ g cap, v = .slice (some ⟨g, 0, none⟩) n cap := by
  rcases h.2 with ⟨_, h1⟩ | ⟨g, cap, cur, h1, _⟩
  · omega
  · exact ⟨g, cap, h1⟩

end Go.Proofs.Ytnfhfilconcajaa
