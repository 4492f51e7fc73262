/-
  The excess of words: contracts of spec.ExcessOf and impl.ExcessOf, and the walk of laws.FnExactExcessOf.
-/
import Derived.Test.YtfmnlapnbhcacaaWExc
namespace Go.Proofs.Ytfmnlapnbhcacaa
open Go.RowKit
set_option maxRecDepth 100000
set_option linter.unusedVariables false

theorem walk_FnExactExcessOf (a0 : Option Addr) (len0 cap0 : Nat) (z0 : List Int) (w : World) (w0 : IsRow .i64 w a0 len0 cap0 z0) :
    Calls Try.prog 7 #[.slice a0 len0 cap0] w fun e w' => e = .returned (.bool true) ∧ Below w.heap.size w w' := by
  have hr := w0.rd
  have hb : ∀ i, -9223372036854775808 ≤ (fun i => z0.getD i 0) i ∧ (fun i => z0.getD i 0) i ≤ 9223372036854775807 := w0.bounds
  clear w0
  generalize (fun i => z0.getD i 0) = G at hr hb
  by_cases hbig : len0 ≤ 1048576
  · have hbig' : (len0 : Int) ≤ 1048576 := by omega
    obtain ⟨r, c, S, I⟩ := exc_both len0 G hb
    have hrr : (r != r) = false := bne_self_eq_false _
    have S := Lib.hid S
    have I := Lib.hid I
    have R := Lib.hid hr
    clear hr hb
    go_enter Try.func7, Try.ntmps7
    go_wp2_with fail
    refine (toInt64S_any _ len0 G _ (by omega) R.out).mono ?_
    rintro e w1 ⟨v1, rfl, o1, b1⟩
    have r1 := Lib.hid ((rd_of_own o1 (cpy_length G len0 len0).symm).congr (cpy_get G len0))
    have B1 := Lib.hid b1
    have R1 := Lib.hid (R.out.below b1)
    clear o1 b1 R
    go_wp2_with fail
    refine (S.out _ _ r1.out).mono ?_
    rintro e w2 ⟨rfl, q2, rfl⟩
    have B2 := Lib.hid (below_drewN B1.out q2)
    go_wp2_with fail
    refine (toInt64S_any _ len0 G _ (by omega) (R1.out.drewN q2)).mono ?_
    rintro e w3 ⟨v3, rfl, o3, b3⟩
    have r3 := Lib.hid ((rd_of_own o3 (cpy_length G len0 len0).symm).congr (cpy_get G len0))
    have B3 := Lib.hid (B2.out.trans (b3.mono B2.out.size))
    have R3 := Lib.hid ((R1.out.drewN q2).below b3)
    clear o3 b3 B2 B1 R1 r1
    go_wp2_with fail
    refine (I.out _ _ r3.out).mono ?_
    rintro e w4 ⟨rfl, q4, rfl⟩
    have B4 := Lib.hid (below_drewN B3.out q4)
    have R4 := Lib.hid (R3.out.drewN q4)
    have r4 := Lib.hid (r3.out.drewN q4)
    clear B3 R3 r3
    go_wp2_with fail
    refine (toInt64S_any _ len0 G _ (by omega) R4.out).mono ?_
    rintro e w5 ⟨v5, rfl, o5, b5⟩
    have r5 := Lib.hid ((rd_of_own o5 (cpy_length G len0 len0).symm).congr (cpy_get G len0))
    have B5 := Lib.hid (B4.out.trans (b5.mono B4.out.size))
    have r45 := Lib.hid (r4.out.below b5)
    clear o5 b5 B4 R4 r4
    go_wp2_with fail
    refine (eqInt64S_same _ _ len0 G _ r45.out r5.out).mono ?_
    rintro e w6 ⟨rfl, q, rfl⟩
    go_wp2_with fail
    go_ret
    exact ⟨rfl, below_drewN B5.out q⟩
  · have hbig' : (1048576 : Int) < (len0 : Int) := by omega
    go_enter Try.func7, Try.ntmps7
    go_wp2
    go_ret
    exact ⟨rfl, Below.refl _ _⟩
end Go.Proofs.Ytfmnlapnbhcacaa
