/-
  Contracts of spec.l01Own and slices.Clone at []int64: a copy in new memory.
-/
import Derived.Test.YtcfgjbfgdlmilaaDoorWFam
namespace Go.Proofs.YtcfgjbfgdlmilaaDoor
open Go.RowKit
set_option maxRecDepth 100000
set_option linter.unusedVariables false

theorem own_news {w : World} {B g n cap : Nat} {xs : List Value} {e : TypeId} (h : w.ownsRow B e 1 (.slice (some ⟨g, 0, none⟩) n cap) n xs) (o : Obj) :
    ∀ j u, xs[j]? = some u → (w.alloc o).cell? ((⟨g, 0, none⟩ : Addr).add j) = some u := by
  intro j u hj
  have hl := h.1
  have hjn : j < n := by
    have := (List.getElem?_eq_some_iff.1 hj).1
    omega
  have e1 : (⟨g, 0, none⟩ : Addr).add j = ⟨g, j, none⟩ := by
    by_cases h6 : j = 0
    · subst h6; simp [Addr.add]
    · simp [Addr.add, h6]
  rw [e1]
  exact ((h.alloc o).cellAt j (by omega)).trans hj

theorem ints_one (zs : List Int) : ∀ u ∈ zs.map (Value.int .i64), u.oneCell' = true := by
  intro u hu
  obtain ⟨z, _, rfl⟩ := List.mem_map.1 hu
  rfl

end Go.Proofs.YtcfgjbfgdlmilaaDoor
