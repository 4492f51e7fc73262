/-
  Contract of impl.isNumber.
-/
import Derived.Test.YtnfhfilconcajaaRows
import Derived.Test.YtnfhfilconcajaaPlainBits
import Derived.Test.YtnfhfilconcajaaWIn
import Derived.WalkLawsBesides
import Derived.WalkSpells
namespace Go.Proofs.Ytnfhfilconcajaa
open Go.RowKit
set_option maxRecDepth 100000

theorem isNumber_yes (n : Int) (w : World) (h0 : 0 ≤ n) (h1 : n ≤ 1000000000000) :
    Calls Try.prog 116 #[.int .i64 n] w fun e w' => e = .returned (.bool true) ∧ w = w' := by
  go_enter Try.func116, Try.ntmps116
  go_wp2
  go_ret
  exact ⟨rfl, rfl⟩

theorem isNumber_no (n : Int) (w : World) (h : n < 0 ∨ 1000000000000 < n) :
    Calls Try.prog 116 #[.int .i64 n] w fun e w' => e = .returned (.bool false) ∧ w = w' := by
  rcases h with h | h
  · go_enter Try.func116, Try.ntmps116
    go_wp2
    go_ret
    exact ⟨rfl, rfl⟩
  · have h0 : 0 ≤ n := by omega
    have h1 : ¬ n ≤ 1000000000000 := by omega
    go_enter Try.func116, Try.ntmps116
    go_wp2
    go_ret
    exact ⟨rfl, rfl⟩

end Go.Proofs.Ytnfhfilconcajaa
