/-
  The walk of laws.FnExactIsClosedProfile.
-/
import Derived.Test.YtcbfcpngpnlodaaQIscB
import Derived.Test.YtcbfcpngpnlodaaQBase
import Derived.Deep.RegionHeld3
namespace Go.Proofs.Ytcbfcpngpnlodaa
open Go.RowKit
set_option linter.unusedVariables false
set_option maxRecDepth 100000

set_option maxHeartbeats 4000000 in
theorem walk_FnExactIsClosedProfile (a0 : Option Addr) (len0 cap0 : Nat) (z0 : List Int) (w : World) (w0 : IsRow .i64 w a0 len0 cap0 z0) :
    Calls Try.prog 4 #[.slice a0 len0 cap0] w fun e w' => e = .returned (.bool true) ∧ Below w.heap.size w w' := by
  have hr0 := w0.rd
  have hb0 : ∀ i, -9223372036854775808 ≤ (fun i => z0.getD i 0) i ∧ (fun i => z0.getD i 0) i ≤ 9223372036854775807 := w0.bounds
  clear w0
  generalize (fun i => z0.getD i 0) = G0 at hr0 hb0
  have RW0 := Lib.hid (fun wx (hx : Below w.heap.size w wx) => hr0.below hx)
  clear hr0
  by_cases hbig0 : len0 ≤ 1048576
  · have hbig0' : (len0 : Int) ≤ 1048576 := by omega
    obtain ⟨x, cd, S, I⟩ := IsClosedProfile_both len0 G0 hb0
    have S := Lib.hid S
    have I := Lib.hid I
    clear hb0
    have hx1 : (x != x) = false := bne_self_eq_false _
    have hx2 : (cd != cd) = false := bne_self_eq_false _
    have B0 : Hid (Below w.heap.size w w) := Lib.hid (Below.refl _ _)
    go_enter Try.func4, Try.ntmps4
    go_wp2_with fail
    refine (toInt64S_any _ len0 G0 _ (by omega) (RW0.out _ B0.out)).mono ?_
    rintro e w1 ⟨v2, rfl, o4, b3⟩
    have U5 := Lib.hid (own_base o4 B0.out.size)
    clear o4
    have B6 := Lib.hid (below_one B0.out b3)
    clear B0
    clear b3
    go_wp2_with fail
    refine (S.out _ _ (rd_cpy U5.out)).mono ?_
    rintro e w7 ⟨rfl, b8⟩
    have B9 := Lib.hid (below_one B6.out b8)
    have U10 := Lib.hid (own_below U5.out b8)
    clear B6 U5
    clear b8
    clear U10
    go_wp2_with fail
    refine (toInt64S_any _ len0 G0 _ (by omega) (RW0.out _ B9.out)).mono ?_
    rintro e w11 ⟨v12, rfl, o14, b13⟩
    have U15 := Lib.hid (own_base o14 B9.out.size)
    clear o14
    have B16 := Lib.hid (below_one B9.out b13)
    clear B9
    clear b13
    go_wp2_with fail
    refine (I.out _ _ (rd_cpy U15.out)).mono ?_
    rintro e w17 ⟨rfl, b18⟩
    have B19 := Lib.hid (below_one B16.out b18)
    have U20 := Lib.hid (own_below U15.out b18)
    clear B16 U15
    clear b18
    go_wp2_with fail
    refine (toInt64S_any _ len0 G0 _ (by omega) (RW0.out _ B19.out)).mono ?_
    rintro e w21 ⟨v22, rfl, o24, b23⟩
    have N25 := Lib.hid (own_apart U20.out o24)
    have U26 := Lib.hid (own_base o24 B19.out.size)
    clear o24
    have B27 := Lib.hid (below_one B19.out b23)
    have U28 := Lib.hid (own_below U20.out b23)
    clear B19 U20
    clear b23
    go_wp2_with fail
    refine (eqInt64S_same _ _ len0 _ _ (rd_cpy U28.out) (rd_cpy U26.out)).mono ?_
    rintro e w310 ⟨rfl, q29, rfl⟩
    have b30 := below_dr w21 q29
    have B32 := Lib.hid (below_one B27.out b30)
    have U33 := Lib.hid (own_below U28.out b30)
    have U34 := Lib.hid (own_below U26.out b30)
    clear B27 U28 U26
    clear b30
    generalize w21.drewN q29 = w31 at *
    clear U34
    go_wp2_with fail
    go_ret
    exact ⟨rfl, B32.out⟩
  · have hbig0' : (1048576 : Int) < (len0 : Int) := by omega
    go_enter Try.func4, Try.ntmps4
    go_wp2
    go_ret
    exact ⟨rfl, Below.refl _ _⟩
end Go.Proofs.Ytcbfcpngpnlodaa
