/-
  The methods at and required of impl.profile.
-/
import Derived.Test.YtcbfcpngpnlodaaQMeet
namespace Go.Proofs.Ytcbfcpngpnlodaa
open Go.RowKit
set_option linter.unusedVariables false
set_option maxRecDepth 100000

/-- h(j + 1), 0 behind the sixteen. -/
def at16 (f : Nat → Int) (j : Nat) : Int := if j < 16 then f j else 0
theorem at_any (f : Nat → Int) (j : Nat) (hj : j ≤ 1000) (w : World) : Calls Try.prog 86 #[.agg (arK f), .int .i64 ((j : Int) + 1)] w (SaysV (.int .i64 (at16 f j)) w) := by
  have A1 : Hid (ArAt (w.alloc (.cells (arK f) 56)) w.heap.size f) := Lib.hid (ArAt.new w f)
  have B1 : Hid (Below w.heap.size w (w.alloc (.cells (arK f) 56))) := Lib.hid ((Below.refl _ _).alloc (Nat.le_refl _) _)
  by_cases h : j < 16
  · have c1 : (w.alloc (.cells (arK f) 56)).cell? ⟨w.heap.size, j, none⟩ = some (.int .i64 (f j)) := A1.out.cell j h
    have e : at16 f j = f j := if_pos h
    rw [e]
    have h1 : ¬ (16 : Int) < (j : Int) + 1 := by omega
    have h2 : (j : Int) < 16 := by omega
    have h3 : wrap64 ((j : Int) + 1 - 1) = (j : Int) := by unfold wrap64; omega
    clear e A1
    generalize f j = x at *
    go_enter Try.func86, Try.ntmps86
    go_upto_region 1 with fail
    generalize (w.alloc (.cells (arK f) 56)) = w1 at *
    go_wp2
    go_ret
    exact ⟨rfl, B1.out⟩
  · have e : at16 f j = 0 := if_neg h
    rw [e]
    have h1 : (16 : Int) < (j : Int) + 1 := by omega
    clear e A1
    go_enter Try.func86, Try.ntmps86
    go_upto_region 1 with fail
    generalize (w.alloc (.cells (arK f) 56)) = w1 at *
    go_wp2
    go_ret
    exact ⟨rfl, B1.out⟩
end Go.Proofs.Ytcbfcpngpnlodaa
