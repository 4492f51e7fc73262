/-
  The walk of laws.FnExactIsContainedProfile.
-/
import Derived.Test.YtcbfcpngpnlodaaQCon
import Derived.Test.YtcbfcpngpnlodaaQBase
import Derived.Deep.RegionHeld3
namespace Go.Proofs.Ytcbfcpngpnlodaa
open Go.RowKit
set_option linter.unusedVariables false
set_option maxRecDepth 100000

set_option maxHeartbeats 4000000 in
theorem walk_FnExactIsContainedProfile (a0 : Option Addr) (len0 cap0 : Nat) (z0 : List Int) (a1 : Option Addr) (len1 cap1 : Nat) (z1 : List Int) (w : World) (w0 : IsRow .i64 w a0 len0 cap0 z0) (w1 : IsRow .i64 w a1 len1 cap1 z1) :
    Calls Try.prog 8 #[.slice a0 len0 cap0, .slice a1 len1 cap1] w fun e w' => e = .returned (.bool true) ∧ Below w.heap.size w w' := by
  have hr0 := w0.rd
  have hb0 : ∀ i, -9223372036854775808 ≤ (fun i => z0.getD i 0) i ∧ (fun i => z0.getD i 0) i ≤ 9223372036854775807 := w0.bounds
  clear w0
  generalize (fun i => z0.getD i 0) = G0 at hr0 hb0
  have RW0 := Lib.hid (fun wx (hx : Below w.heap.size w wx) => hr0.below hx)
  clear hr0
  have hr1 := w1.rd
  have hb1 : ∀ i, -9223372036854775808 ≤ (fun i => z1.getD i 0) i ∧ (fun i => z1.getD i 0) i ≤ 9223372036854775807 := w1.bounds
  clear w1
  generalize (fun i => z1.getD i 0) = G1 at hr1 hb1
  have RW1 := Lib.hid (fun wx (hx : Below w.heap.size w wx) => hr1.below hx)
  clear hr1
  by_cases hbig0 : len0 ≤ 1048576
  · have hbig0' : (len0 : Int) ≤ 1048576 := by omega
    by_cases hbig1 : len1 ≤ 1048576
    · have hbig1' : (len1 : Int) ≤ 1048576 := by omega
      obtain ⟨x, cd, S, I⟩ := IsContainedProfile_both len0 G0 hb0 len1 G1 hb1
      have S := Lib.hid S
      have I := Lib.hid I
      clear hb0
      clear hb1
      have hx1 : (x != x) = false := bne_self_eq_false _
      have hx2 : (cd != cd) = false := bne_self_eq_false _
      have B0 : Hid (Below w.heap.size w w) := Lib.hid (Below.refl _ _)
      go_enter Try.func8, Try.ntmps8
      go_wp2_with fail
      refine (toInt64S_any _ len0 G0 _ (by omega) (RW0.out _ B0.out)).mono ?_
      rintro e w1 ⟨v2, rfl, o4, b3⟩
      have U5 := Lib.hid (own_base o4 B0.out.size)
      clear o4
      have B6 := Lib.hid (below_one B0.out b3)
      clear B0
      clear b3
      go_wp2_with fail
      refine (toInt64S_any _ len1 G1 _ (by omega) (RW1.out _ B6.out)).mono ?_
      rintro e w7 ⟨v8, rfl, o10, b9⟩
      have N11 := Lib.hid (own_apart U5.out o10)
      have U12 := Lib.hid (own_base o10 B6.out.size)
      clear o10
      have B13 := Lib.hid (below_one B6.out b9)
      have U14 := Lib.hid (own_below U5.out b9)
      clear B6 U5
      clear b9
      go_wp2_with fail
      refine (S.out _ _ _ (rd_cpy U14.out) (rd_cpy U12.out)).mono ?_
      rintro e w15 ⟨rfl, b16⟩
      have B17 := Lib.hid (below_one B13.out b16)
      have U18 := Lib.hid (own_below U14.out b16)
      have U19 := Lib.hid (own_below U12.out b16)
      clear B13 U14 U12
      clear b16
      clear U18
      clear U19
      go_wp2_with fail
      refine (toInt64S_any _ len0 G0 _ (by omega) (RW0.out _ B17.out)).mono ?_
      rintro e w20 ⟨v21, rfl, o23, b22⟩
      have U24 := Lib.hid (own_base o23 B17.out.size)
      clear o23
      have B25 := Lib.hid (below_one B17.out b22)
      clear B17
      clear b22
      go_wp2_with fail
      refine (toInt64S_any _ len1 G1 _ (by omega) (RW1.out _ B25.out)).mono ?_
      rintro e w26 ⟨v27, rfl, o29, b28⟩
      have N30 := Lib.hid (own_apart U24.out o29)
      have U31 := Lib.hid (own_base o29 B25.out.size)
      clear o29
      have B32 := Lib.hid (below_one B25.out b28)
      have U33 := Lib.hid (own_below U24.out b28)
      clear B25 U24
      clear b28
      go_wp2_with fail
      refine (I.out _ _ _ (rd_cpy U33.out) (rd_cpy U31.out)).mono ?_
      rintro e w34 ⟨rfl, b35⟩
      have B36 := Lib.hid (below_one B32.out b35)
      have U37 := Lib.hid (own_below U33.out b35)
      have U38 := Lib.hid (own_below U31.out b35)
      clear B32 U33 U31
      clear b35
      go_wp2_with fail
      refine (toInt64S_any _ len0 G0 _ (by omega) (RW0.out _ B36.out)).mono ?_
      rintro e w39 ⟨v40, rfl, o42, b41⟩
      have N43 := Lib.hid (own_apart U37.out o42)
      have N44 := Lib.hid (own_apart U38.out o42)
      have U45 := Lib.hid (own_base o42 B36.out.size)
      clear o42
      have B46 := Lib.hid (below_one B36.out b41)
      have U47 := Lib.hid (own_below U37.out b41)
      have U48 := Lib.hid (own_below U38.out b41)
      clear B36 U37 U38
      clear b41
      go_wp2_with fail
      refine (eqInt64S_same _ _ len0 _ _ (rd_cpy U47.out) (rd_cpy U45.out)).mono ?_
      rintro e w510 ⟨rfl, q49, rfl⟩
      have b50 := below_dr w39 q49
      have B52 := Lib.hid (below_one B46.out b50)
      have U53 := Lib.hid (own_below U47.out b50)
      have U54 := Lib.hid (own_below U48.out b50)
      have U55 := Lib.hid (own_below U45.out b50)
      clear B46 U47 U48 U45
      clear b50
      generalize w39.drewN q49 = w51 at *
      clear U55
      go_wp2_with fail
      refine (toInt64S_any _ len1 G1 _ (by omega) (RW1.out _ B52.out)).mono ?_
      rintro e w56 ⟨v57, rfl, o59, b58⟩
      have N60 := Lib.hid (own_apart U53.out o59)
      have N61 := Lib.hid (own_apart U54.out o59)
      have U62 := Lib.hid (own_base o59 B52.out.size)
      clear o59
      have B63 := Lib.hid (below_one B52.out b58)
      have U64 := Lib.hid (own_below U53.out b58)
      have U65 := Lib.hid (own_below U54.out b58)
      clear B52 U53 U54
      clear b58
      go_wp2_with fail
      refine (eqInt64S_same _ _ len1 _ _ (rd_cpy U65.out) (rd_cpy U62.out)).mono ?_
      rintro e w680 ⟨rfl, q66, rfl⟩
      have b67 := below_dr w56 q66
      have B69 := Lib.hid (below_one B63.out b67)
      have U70 := Lib.hid (own_below U64.out b67)
      have U71 := Lib.hid (own_below U65.out b67)
      have U72 := Lib.hid (own_below U62.out b67)
      clear B63 U64 U65 U62
      clear b67
      generalize w56.drewN q66 = w68 at *
      clear U72
      go_wp2_with fail
      go_ret
      exact ⟨rfl, B69.out⟩
    · have hbig1' : (1048576 : Int) < (len1 : Int) := by omega
      go_enter Try.func8, Try.ntmps8
      go_wp2
      go_ret
      exact ⟨rfl, Below.refl _ _⟩
  · have hbig0' : (1048576 : Int) < (len0 : Int) := by omega
    go_enter Try.func8, Try.ntmps8
    go_wp2
    go_ret
    exact ⟨rfl, Below.refl _ _⟩
end Go.Proofs.Ytcbfcpngpnlodaa
