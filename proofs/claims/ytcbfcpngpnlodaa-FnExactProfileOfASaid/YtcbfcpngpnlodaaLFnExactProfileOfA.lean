/-
  The walk of laws.FnExactProfileOfA.
-/
import Derived.Test.YtcbfcpngpnlodaaQNum
import Derived.Test.YtcbfcpngpnlodaaQBase
import Derived.Deep.RegionHeld3
namespace Go.Proofs.Ytcbfcpngpnlodaa
open Go.RowKit
set_option linter.unusedVariables false
set_option maxRecDepth 100000

set_option maxHeartbeats 4000000 in
theorem walk_FnExactProfileOfA (a0 : Int) (w : World) (w0 : (Lit.int .i64 a0).wf = true) :
    Calls Try.prog 5 #[.int .i64 a0] w fun e w' => e = .returned (.bool true) ∧ Below w.heap.size w w' := by
  obtain ⟨zs, cd, hzl, S, I⟩ := ProfileOfA_both a0 w0
  have S := Lib.hid S
  have I := Lib.hid I
  have HZ := Lib.hid hzl
  clear hzl
  have hx2 : (cd != cd) = false := bne_self_eq_false _
  have B0 : Hid (Below w.heap.size w w) := Lib.hid (Below.refl _ _)
  go_enter Try.func5, Try.ntmps5
  go_wp2_with fail
  refine (S.out  _ ).mono ?_
  rintro e w1 ⟨v3, rfl, o4, b2⟩
  have U5 := Lib.hid (own_base o4 B0.out.size)
  clear o4
  have B6 := Lib.hid (below_one B0.out b2)
  clear B0
  clear b2
  go_wp2_with fail
  refine (I.out  _ ).mono ?_
  rintro e w7 ⟨v9, rfl, o10, b8⟩
  have N11 := Lib.hid (own_apart U5.out o10)
  have U12 := Lib.hid (own_base o10 B6.out.size)
  clear o10
  have B13 := Lib.hid (below_one B6.out b8)
  have U14 := Lib.hid (own_below U5.out b8)
  clear B6 U5
  clear b8
  go_wp2_with fail
  refine (eqInt64S_same _ _ zs.length _ _ (rd_of_own U12.out rfl) (rd_of_own U14.out rfl)).mono ?_
  rintro e w170 ⟨rfl, q15, rfl⟩
  have b16 := below_dr w7 q15
  have B18 := Lib.hid (below_one B13.out b16)
  have U19 := Lib.hid (own_below U14.out b16)
  have U20 := Lib.hid (own_below U12.out b16)
  clear B13 U14 U12
  clear b16
  generalize w7.drewN q15 = w17 at *
  go_wp2_with fail
  refine (markInt64S_own _ zs.length _ 1 _ _ (by omega) (by have := HZ.out; omega) (by have := HZ.out; omega) U20.out).mono ?_
  rintro e w21 ⟨rfl, m22, g23, _⟩
  have B24 := Lib.hid (B18.out.grown g23 B18.out.size (fun x hx => (U20.out.lt x (hx.symm ▸ rfl)).1))
  have U25 := Lib.hid (U19.out.kept g23 N11.out)
  have U26 := Lib.hid m22
  clear m22 g23 B18 U19 U20
  have hz0 : ¬ (1 : Int) + (zs.length : Int) < 0 := by omega
  go_wp2_with fail
  refine (heldInt64S_own _ zs.length 1 _ _ (by omega) (by omega) (by have := HZ.out; omega) U26.out).mono ?_
  rintro e w27 ⟨rfl, rfl⟩
  go_wp2_with fail
  refine (I.out  _ ).mono ?_
  rintro e w28 ⟨v30, rfl, o31, b29⟩
  have N32 := Lib.hid (own_apart U25.out o31)
  have N33 := Lib.hid (own_apart U26.out o31)
  have U34 := Lib.hid (own_base o31 B24.out.size)
  clear o31
  have B35 := Lib.hid (below_one B24.out b29)
  have U36 := Lib.hid (own_below U25.out b29)
  have U37 := Lib.hid (own_below U26.out b29)
  clear B24 U25 U26
  clear b29
  go_wp2_with fail
  refine (eqInt64S_same _ _ zs.length _ _ (rd_of_own U34.out rfl) (rd_of_own U36.out rfl)).mono ?_
  rintro e w400 ⟨rfl, q38, rfl⟩
  have b39 := below_dr w28 q38
  have B41 := Lib.hid (below_one B35.out b39)
  have U42 := Lib.hid (own_below U36.out b39)
  have U43 := Lib.hid (own_below U37.out b39)
  have U44 := Lib.hid (own_below U34.out b39)
  clear B35 U36 U37 U34
  clear b39
  generalize w28.drewN q38 = w40 at *
  go_wp2_with fail
  refine (heldInt64S_own _ zs.length 1 _ _ (by omega) (by omega) (by have := HZ.out; omega) U43.out).mono ?_
  rintro e w45 ⟨rfl, rfl⟩
  go_wp2_with fail
  go_ret
  exact ⟨rfl, B41.out⟩
end Go.Proofs.Ytcbfcpngpnlodaa
