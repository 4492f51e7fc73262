/-
  spec.l01Own at any row.
-/
import Derived.Test.YtnfhfilconcajaaWOwn
import Derived.Laws.AppendOwnNone
namespace Go.Proofs.Ytnfhfilconcajaa
open Go.RowKit
set_option linter.unusedVariables false
set_option maxRecDepth 100000

theorem ownNil (w : World) :
    Calls Try.prog 84 #[.slice none 0 0] w fun e w' => ∃ u, e = .returned u ∧ w'.ownsRow w.heap.size 2 1 u 0 [] ∧ Below w.heap.size w w' := by
  obtain ⟨i0, hi, hz0, hz1, hz2⟩ := info_parts Try.info2
  go_enter Try.func84, Try.ntmps84
  go_wp2_with (at_builtin; refine wpList_append_own_none rfl _ _ 53 rfl w.heap.size 2 i0 1 Try.underlying53 hi _ 0 [] rfl (World.ownsRow_made w #[] 0 (Nat.le_refl _) (Nat.zero_le _) (by simp)) rfl ?_)
  go_ret
  exact ⟨_, rfl, World.ownsRow_made w #[] 0 (Nat.le_refl _) (Nat.zero_le _) (by simp), (Below.refl _ w).alloc (Nat.le_refl _) _⟩

theorem ownAny (v : Value) (zs : List Int) (B : Nat) (w : World) (hn : zs.length ≤ 1000000) (h : w.ownsRow B 2 1 v zs.length (zs.map (Value.int .i64))) :
    Calls Try.prog 84 #[v] w fun e w' => ∃ u, e = .returned u ∧ w'.ownsRow w.heap.size 2 1 u zs.length (zs.map (Value.int .i64)) ∧ Below w.heap.size w w' := by
  rcases h.2 with ⟨rfl, h0⟩ | ⟨g, cap, cur, rfl, _⟩
  · have hz : zs = [] := List.eq_nil_of_length_eq_zero h0
    subst hz
    exact ownNil w
  · exact (l01Own_any g zs.length cap zs B w hn h).mono fun e w' ⟨u, a, b, _, c⟩ => ⟨u, a, b, c⟩

end Go.Proofs.Ytnfhfilconcajaa
