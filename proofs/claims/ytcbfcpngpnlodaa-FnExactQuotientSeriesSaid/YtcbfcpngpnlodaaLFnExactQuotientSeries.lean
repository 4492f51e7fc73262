/-
  The walk of laws.FnExactQuotientSeries.
-/
import Derived.Test.YtcbfcpngpnlodaaQQts
import Derived.Test.YtcbfcpngpnlodaaQBase
import Derived.Deep.RegionHeld3
namespace Go.Proofs.Ytcbfcpngpnlodaa
open Go.RowKit
set_option linter.unusedVariables false
set_option maxRecDepth 100000

set_option maxHeartbeats 4000000 in
theorem walk_FnExactQuotientSeries (a0 : Option Addr) (len0 cap0 : Nat) (z0 : List Int) (a1 : Int) (w : World) (w0 : IsRow .i64 w a0 len0 cap0 z0) (w1 : (Lit.int .i64 a1).wf = true) :
    Calls Try.prog 14 #[.slice a0 len0 cap0, .int .i64 a1] w fun e w' => e = .returned (.bool true) ∧ Below w.heap.size w w' := by
  have hr0 := w0.rd
  have hb0 : ∀ i, -9223372036854775808 ≤ (fun i => z0.getD i 0) i ∧ (fun i => z0.getD i 0) i ≤ 9223372036854775807 := w0.bounds
  clear w0
  generalize (fun i => z0.getD i 0) = G0 at hr0 hb0
  have RW0 := Lib.hid (fun wx (hx : Below w.heap.size w wx) => hr0.below hx)
  clear hr0
  by_cases hbig0 : len0 ≤ 1048576
  · have hbig0' : (len0 : Int) ≤ 1048576 := by omega
    obtain ⟨zs, cd, hzl, S, I⟩ := QuotientSeries_both len0 G0 hb0 a1 w1
    have S := Lib.hid S
    have I := Lib.hid I
    have HZ := Lib.hid hzl
    clear hzl
    clear hb0
    have hx2 : (cd != cd) = false := bne_self_eq_false _
    have B0 : Hid (Below w.heap.size w w) := Lib.hid (Below.refl _ _)
    go_enter Try.func14, Try.ntmps14
    go_wp2_with fail
    refine (toInt64S_any _ len0 G0 _ (by omega) (RW0.out _ B0.out)).mono ?_
    rintro e w1 ⟨v2, rfl, o4, b3⟩
    have U5 := Lib.hid (own_base o4 B0.out.size)
    clear o4
    have B6 := Lib.hid (below_one B0.out b3)
    clear B0
    clear b3
    go_wp2_with fail
    refine (S.out _ _ (rd_cpy U5.out)).mono ?_
    rintro e w7 ⟨v9, rfl, o10, b8⟩
    have N11 := Lib.hid (own_apart U5.out o10)
    have U12 := Lib.hid (own_base o10 B6.out.size)
    clear o10
    have B13 := Lib.hid (below_one B6.out b8)
    have U14 := Lib.hid (own_below U5.out b8)
    clear B6 U5
    clear b8
    clear U14
    go_wp2_with fail
    refine (toInt64S_any _ len0 G0 _ (by omega) (RW0.out _ B13.out)).mono ?_
    rintro e w15 ⟨v16, rfl, o18, b17⟩
    have N19 := Lib.hid (own_apart U12.out o18)
    have U20 := Lib.hid (own_base o18 B13.out.size)
    clear o18
    have B21 := Lib.hid (below_one B13.out b17)
    have U22 := Lib.hid (own_below U12.out b17)
    clear B13 U12
    clear b17
    go_wp2_with fail
    refine (I.out _ _ (rd_cpy U20.out)).mono ?_
    rintro e w23 ⟨v25, rfl, o26, b24⟩
    have N27 := Lib.hid (own_apart U22.out o26)
    have N28 := Lib.hid (own_apart U20.out o26)
    have U29 := Lib.hid (own_base o26 B21.out.size)
    clear o26
    have B30 := Lib.hid (below_one B21.out b24)
    have U31 := Lib.hid (own_below U22.out b24)
    have U32 := Lib.hid (own_below U20.out b24)
    clear B21 U22 U20
    clear b24
    go_wp2_with fail
    refine (eqInt64S_same _ _ zs.length _ _ (rd_of_own U29.out rfl) (rd_of_own U31.out rfl)).mono ?_
    rintro e w350 ⟨rfl, q33, rfl⟩
    have b34 := below_dr w23 q33
    have B36 := Lib.hid (below_one B30.out b34)
    have U37 := Lib.hid (own_below U31.out b34)
    have U38 := Lib.hid (own_below U32.out b34)
    have U39 := Lib.hid (own_below U29.out b34)
    clear B30 U31 U32 U29
    clear b34
    generalize w23.drewN q33 = w35 at *
    go_wp2_with fail
    refine (toInt64S_any _ len0 G0 _ (by omega) (RW0.out _ B36.out)).mono ?_
    rintro e w40 ⟨v41, rfl, o43, b42⟩
    have N44 := Lib.hid (own_apart U37.out o43)
    have N45 := Lib.hid (own_apart U38.out o43)
    have N46 := Lib.hid (own_apart U39.out o43)
    have U47 := Lib.hid (own_base o43 B36.out.size)
    clear o43
    have B48 := Lib.hid (below_one B36.out b42)
    have U49 := Lib.hid (own_below U37.out b42)
    have U50 := Lib.hid (own_below U38.out b42)
    have U51 := Lib.hid (own_below U39.out b42)
    clear B36 U37 U38 U39
    clear b42
    go_wp2_with fail
    refine (eqInt64S_same _ _ len0 _ _ (rd_cpy U50.out) (rd_cpy U47.out)).mono ?_
    rintro e w540 ⟨rfl, q52, rfl⟩
    have b53 := below_dr w40 q52
    have B55 := Lib.hid (below_one B48.out b53)
    have U56 := Lib.hid (own_below U49.out b53)
    have U57 := Lib.hid (own_below U50.out b53)
    have U58 := Lib.hid (own_below U51.out b53)
    have U59 := Lib.hid (own_below U47.out b53)
    clear B48 U49 U50 U51 U47
    clear b53
    generalize w40.drewN q52 = w54 at *
    clear U59
    have hk0 : ¬ (1 : Int) + (len0 : Int) < 0 := by omega
    go_wp2_with fail
    refine (markInt64S_own _ len0 _ 1 _ _ (by omega) (by have := HZ.out; omega) (by have := HZ.out; omega) U57.out).mono ?_
    rintro e w60 ⟨rfl, m61, g62, _⟩
    have B63 := Lib.hid (B55.out.grown g62 B55.out.size (fun x hx => (U57.out.lt x (hx.symm ▸ rfl)).1))
    have U64 := Lib.hid (U56.out.kept g62 N19.out)
    have U65 := Lib.hid m61
    have U66 := Lib.hid (U58.out.kept g62 (apart_sw N28.out))
    clear m61 g62 B55 U56 U57 U58
    clear U65
    go_wp2_with fail
    refine (eqInt64S_same _ _ zs.length _ _ (rd_of_own U66.out rfl) (rd_of_own U64.out rfl)).mono ?_
    rintro e w690 ⟨rfl, q67, rfl⟩
    have b68 := below_dr w60 q67
    have B70 := Lib.hid (below_one B63.out b68)
    have U71 := Lib.hid (own_below U64.out b68)
    have U72 := Lib.hid (own_below U66.out b68)
    clear B63 U64 U66
    clear b68
    generalize w60.drewN q67 = w69 at *
    go_wp2_with fail
    refine (markInt64S_own _ zs.length _ 1 _ _ (by omega) (by have := HZ.out; omega) (by have := HZ.out; omega) U72.out).mono ?_
    rintro e w73 ⟨rfl, m74, g75, _⟩
    have B76 := Lib.hid (B70.out.grown g75 B70.out.size (fun x hx => (U72.out.lt x (hx.symm ▸ rfl)).1))
    have U77 := Lib.hid (U71.out.kept g75 N27.out)
    have U78 := Lib.hid m74
    clear m74 g75 B70 U71 U72
    have hz0 : ¬ (1 : Int) + (zs.length : Int) < 0 := by omega
    go_wp2_with fail
    refine (heldInt64S_own _ zs.length 1 _ _ (by omega) (by omega) (by have := HZ.out; omega) U78.out).mono ?_
    rintro e w79 ⟨rfl, rfl⟩
    go_wp2_with fail
    refine (toInt64S_any _ len0 G0 _ (by omega) (RW0.out _ B76.out)).mono ?_
    rintro e w80 ⟨v81, rfl, o83, b82⟩
    have N84 := Lib.hid (own_apart U77.out o83)
    have N85 := Lib.hid (own_apart U78.out o83)
    have U86 := Lib.hid (own_base o83 B76.out.size)
    clear o83
    have B87 := Lib.hid (below_one B76.out b82)
    have U88 := Lib.hid (own_below U77.out b82)
    have U89 := Lib.hid (own_below U78.out b82)
    clear B76 U77 U78
    clear b82
    go_wp2_with fail
    refine (I.out _ _ (rd_cpy U86.out)).mono ?_
    rintro e w90 ⟨v92, rfl, o93, b91⟩
    have N94 := Lib.hid (own_apart U88.out o93)
    have N95 := Lib.hid (own_apart U89.out o93)
    have N96 := Lib.hid (own_apart U86.out o93)
    have U97 := Lib.hid (own_base o93 B87.out.size)
    clear o93
    have B98 := Lib.hid (below_one B87.out b91)
    have U99 := Lib.hid (own_below U88.out b91)
    have U100 := Lib.hid (own_below U89.out b91)
    have U101 := Lib.hid (own_below U86.out b91)
    clear B87 U88 U89 U86
    clear b91
    clear U101
    go_wp2_with fail
    refine (eqInt64S_same _ _ zs.length _ _ (rd_of_own U97.out rfl) (rd_of_own U99.out rfl)).mono ?_
    rintro e w1040 ⟨rfl, q102, rfl⟩
    have b103 := below_dr w90 q102
    have B105 := Lib.hid (below_one B98.out b103)
    have U106 := Lib.hid (own_below U99.out b103)
    have U107 := Lib.hid (own_below U100.out b103)
    have U108 := Lib.hid (own_below U97.out b103)
    clear B98 U99 U100 U97
    clear b103
    generalize w90.drewN q102 = w104 at *
    go_wp2_with fail
    refine (heldInt64S_own _ zs.length 1 _ _ (by omega) (by omega) (by have := HZ.out; omega) U107.out).mono ?_
    rintro e w109 ⟨rfl, rfl⟩
    go_wp2_with fail
    go_ret
    exact ⟨rfl, B105.out⟩
  · have hbig0' : (1048576 : Int) < (len0 : Int) := by omega
    go_enter Try.func14, Try.ntmps14
    go_wp2
    go_ret
    exact ⟨rfl, Below.refl _ _⟩
end Go.Proofs.Ytcbfcpngpnlodaa
