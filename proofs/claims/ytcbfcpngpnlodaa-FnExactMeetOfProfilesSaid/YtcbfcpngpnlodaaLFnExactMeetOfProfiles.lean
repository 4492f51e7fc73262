/-
  The walk of laws.FnExactMeetOfProfiles.
-/
import Derived.Test.YtcbfcpngpnlodaaQTwo
import Derived.Test.YtcbfcpngpnlodaaQBase
import Derived.Deep.RegionHeld3
namespace Go.Proofs.Ytcbfcpngpnlodaa
open Go.RowKit
set_option linter.unusedVariables false
set_option maxRecDepth 100000

set_option maxHeartbeats 4000000 in
theorem walk_FnExactMeetOfProfiles (a0 : Option Addr) (len0 cap0 : Nat) (z0 : List Int) (a1 : Option Addr) (len1 cap1 : Nat) (z1 : List Int) (w : World) (w0 : IsRow .i64 w a0 len0 cap0 z0) (w1 : IsRow .i64 w a1 len1 cap1 z1) :
    Calls Try.prog 7 #[.slice a0 len0 cap0, .slice a1 len1 cap1] w fun e w' => e = .returned (.bool true) ∧ Below w.heap.size w w' := by
  have hr0 := w0.rd
  have hb0 : ∀ i, -9223372036854775808 ≤ (fun i => z0.getD i 0) i ∧ (fun i => z0.getD i 0) i ≤ 9223372036854775807 := w0.bounds
  clear w0
  generalize (fun i => z0.getD i 0) = G0 at hr0 hb0
  have RW0 := Lib.hid (fun wx (hx : Below w.heap.size w wx) => hr0.below hx)
  clear hr0
  have hr1 := w1.rd
  have hb1 : ∀ i, -9223372036854775808 ≤ (fun i => z1.getD i 0) i ∧ (fun i => z1.getD i 0) i ≤ 9223372036854775807 := w1.bounds
  clear w1
  generalize (fun i => z1.getD i 0) = G1 at hr1 hb1
  have RW1 := Lib.hid (fun wx (hx : Below w.heap.size w wx) => hr1.below hx)
  clear hr1
  by_cases hbig0 : len0 ≤ 1048576
  · have hbig0' : (len0 : Int) ≤ 1048576 := by omega
    by_cases hbig1 : len1 ≤ 1048576
    · have hbig1' : (len1 : Int) ≤ 1048576 := by omega
      obtain ⟨zs, cd, hzl, S, I⟩ := MeetOfProfiles_both len0 G0 hb0 len1 G1 hb1
      have S := Lib.hid S
      have I := Lib.hid I
      have HZ := Lib.hid hzl
      clear hzl
      clear hb0
      clear hb1
      have hx2 : (cd != cd) = false := bne_self_eq_false _
      have B0 : Hid (Below w.heap.size w w) := Lib.hid (Below.refl _ _)
      go_enter Try.func7, Try.ntmps7
      go_wp2_with fail
      refine (toInt64S_any _ len0 G0 _ (by omega) (RW0.out _ B0.out)).mono ?_
      rintro e w1 ⟨v2, rfl, o4, b3⟩
      have U5 := Lib.hid (own_base o4 B0.out.size)
      clear o4
      have B6 := Lib.hid (below_one B0.out b3)
      clear B0
      clear b3
      go_wp2_with fail
      refine (toInt64S_any _ len1 G1 _ (by omega) (RW1.out _ B6.out)).mono ?_
      rintro e w7 ⟨v8, rfl, o10, b9⟩
      have N11 := Lib.hid (own_apart U5.out o10)
      have U12 := Lib.hid (own_base o10 B6.out.size)
      clear o10
      have B13 := Lib.hid (below_one B6.out b9)
      have U14 := Lib.hid (own_below U5.out b9)
      clear B6 U5
      clear b9
      go_wp2_with fail
      refine (S.out _ _ _ (rd_cpy U14.out) (rd_cpy U12.out)).mono ?_
      rintro e w15 ⟨v17, rfl, o18, b16⟩
      have N19 := Lib.hid (own_apart U14.out o18)
      have N20 := Lib.hid (own_apart U12.out o18)
      have U21 := Lib.hid (own_base o18 B13.out.size)
      clear o18
      have B22 := Lib.hid (below_one B13.out b16)
      have U23 := Lib.hid (own_below U14.out b16)
      have U24 := Lib.hid (own_below U12.out b16)
      clear B13 U14 U12
      clear b16
      clear U23
      clear U24
      go_wp2_with fail
      refine (toInt64S_any _ len0 G0 _ (by omega) (RW0.out _ B22.out)).mono ?_
      rintro e w25 ⟨v26, rfl, o28, b27⟩
      have N29 := Lib.hid (own_apart U21.out o28)
      have U30 := Lib.hid (own_base o28 B22.out.size)
      clear o28
      have B31 := Lib.hid (below_one B22.out b27)
      have U32 := Lib.hid (own_below U21.out b27)
      clear B22 U21
      clear b27
      go_wp2_with fail
      refine (toInt64S_any _ len1 G1 _ (by omega) (RW1.out _ B31.out)).mono ?_
      rintro e w33 ⟨v34, rfl, o36, b35⟩
      have N37 := Lib.hid (own_apart U32.out o36)
      have N38 := Lib.hid (own_apart U30.out o36)
      have U39 := Lib.hid (own_base o36 B31.out.size)
      clear o36
      have B40 := Lib.hid (below_one B31.out b35)
      have U41 := Lib.hid (own_below U32.out b35)
      have U42 := Lib.hid (own_below U30.out b35)
      clear B31 U32 U30
      clear b35
      go_wp2_with fail
      refine (I.out _ _ _ (rd_cpy U42.out) (rd_cpy U39.out)).mono ?_
      rintro e w43 ⟨v45, rfl, o46, b44⟩
      have N47 := Lib.hid (own_apart U41.out o46)
      have N48 := Lib.hid (own_apart U42.out o46)
      have N49 := Lib.hid (own_apart U39.out o46)
      have U50 := Lib.hid (own_base o46 B40.out.size)
      clear o46
      have B51 := Lib.hid (below_one B40.out b44)
      have U52 := Lib.hid (own_below U41.out b44)
      have U53 := Lib.hid (own_below U42.out b44)
      have U54 := Lib.hid (own_below U39.out b44)
      clear B40 U41 U42 U39
      clear b44
      go_wp2_with fail
      refine (eqInt64S_same _ _ zs.length _ _ (rd_of_own U50.out rfl) (rd_of_own U52.out rfl)).mono ?_
      rintro e w570 ⟨rfl, q55, rfl⟩
      have b56 := below_dr w43 q55
      have B58 := Lib.hid (below_one B51.out b56)
      have U59 := Lib.hid (own_below U52.out b56)
      have U60 := Lib.hid (own_below U53.out b56)
      have U61 := Lib.hid (own_below U54.out b56)
      have U62 := Lib.hid (own_below U50.out b56)
      clear B51 U52 U53 U54 U50
      clear b56
      generalize w43.drewN q55 = w57 at *
      go_wp2_with fail
      refine (toInt64S_any _ len0 G0 _ (by omega) (RW0.out _ B58.out)).mono ?_
      rintro e w63 ⟨v64, rfl, o66, b65⟩
      have N67 := Lib.hid (own_apart U59.out o66)
      have N68 := Lib.hid (own_apart U60.out o66)
      have N69 := Lib.hid (own_apart U61.out o66)
      have N70 := Lib.hid (own_apart U62.out o66)
      have U71 := Lib.hid (own_base o66 B58.out.size)
      clear o66
      have B72 := Lib.hid (below_one B58.out b65)
      have U73 := Lib.hid (own_below U59.out b65)
      have U74 := Lib.hid (own_below U60.out b65)
      have U75 := Lib.hid (own_below U61.out b65)
      have U76 := Lib.hid (own_below U62.out b65)
      clear B58 U59 U60 U61 U62
      clear b65
      go_wp2_with fail
      refine (eqInt64S_same _ _ len0 _ _ (rd_cpy U74.out) (rd_cpy U71.out)).mono ?_
      rintro e w790 ⟨rfl, q77, rfl⟩
      have b78 := below_dr w63 q77
      have B80 := Lib.hid (below_one B72.out b78)
      have U81 := Lib.hid (own_below U73.out b78)
      have U82 := Lib.hid (own_below U74.out b78)
      have U83 := Lib.hid (own_below U75.out b78)
      have U84 := Lib.hid (own_below U76.out b78)
      have U85 := Lib.hid (own_below U71.out b78)
      clear B72 U73 U74 U75 U76 U71
      clear b78
      generalize w63.drewN q77 = w79 at *
      clear U85
      go_wp2_with fail
      refine (toInt64S_any _ len1 G1 _ (by omega) (RW1.out _ B80.out)).mono ?_
      rintro e w86 ⟨v87, rfl, o89, b88⟩
      have N90 := Lib.hid (own_apart U81.out o89)
      have N91 := Lib.hid (own_apart U82.out o89)
      have N92 := Lib.hid (own_apart U83.out o89)
      have N93 := Lib.hid (own_apart U84.out o89)
      have U94 := Lib.hid (own_base o89 B80.out.size)
      clear o89
      have B95 := Lib.hid (below_one B80.out b88)
      have U96 := Lib.hid (own_below U81.out b88)
      have U97 := Lib.hid (own_below U82.out b88)
      have U98 := Lib.hid (own_below U83.out b88)
      have U99 := Lib.hid (own_below U84.out b88)
      clear B80 U81 U82 U83 U84
      clear b88
      go_wp2_with fail
      refine (eqInt64S_same _ _ len1 _ _ (rd_cpy U98.out) (rd_cpy U94.out)).mono ?_
      rintro e w1020 ⟨rfl, q100, rfl⟩
      have b101 := below_dr w86 q100
      have B103 := Lib.hid (below_one B95.out b101)
      have U104 := Lib.hid (own_below U96.out b101)
      have U105 := Lib.hid (own_below U97.out b101)
      have U106 := Lib.hid (own_below U98.out b101)
      have U107 := Lib.hid (own_below U99.out b101)
      have U108 := Lib.hid (own_below U94.out b101)
      clear B95 U96 U97 U98 U99 U94
      clear b101
      generalize w86.drewN q100 = w102 at *
      clear U108
      have hk0 : ¬ (1 : Int) + (len0 : Int) + (len1 : Int) < 0 := by omega
      go_wp2_with fail
      refine (markInt64S_own _ len0 _ 1 _ _ (by omega) (by have := HZ.out; omega) (by have := HZ.out; omega) U105.out).mono ?_
      rintro e w109 ⟨rfl, m110, g111, _⟩
      have B112 := Lib.hid (B103.out.grown g111 B103.out.size (fun x hx => (U105.out.lt x (hx.symm ▸ rfl)).1))
      have U113 := Lib.hid (U104.out.kept g111 N29.out)
      have U114 := Lib.hid m110
      have U115 := Lib.hid (U106.out.kept g111 (apart_sw N38.out))
      have U116 := Lib.hid (U107.out.kept g111 (apart_sw N48.out))
      clear m110 g111 B103 U104 U105 U106 U107
      go_wp2_with fail
      refine (markInt64S_own _ len1 _ _ _ _ (by omega) (by have := HZ.out; omega) (by have := HZ.out; omega) U115.out).mono ?_
      rintro e w117 ⟨rfl, m118, g119, _⟩
      have B120 := Lib.hid (B112.out.grown g119 B112.out.size (fun x hx => (U115.out.lt x (hx.symm ▸ rfl)).1))
      have U121 := Lib.hid (U113.out.kept g119 N37.out)
      have U122 := Lib.hid (U114.out.kept g119 N38.out)
      have U123 := Lib.hid m118
      have U124 := Lib.hid (U116.out.kept g119 (apart_sw N49.out))
      clear m118 g119 B112 U113 U114 U115 U116
      clear U122
      clear U123
      go_wp2_with fail
      refine (eqInt64S_same _ _ zs.length _ _ (rd_of_own U124.out rfl) (rd_of_own U121.out rfl)).mono ?_
      rintro e w1270 ⟨rfl, q125, rfl⟩
      have b126 := below_dr w117 q125
      have B128 := Lib.hid (below_one B120.out b126)
      have U129 := Lib.hid (own_below U121.out b126)
      have U130 := Lib.hid (own_below U124.out b126)
      clear B120 U121 U124
      clear b126
      generalize w117.drewN q125 = w127 at *
      go_wp2_with fail
      refine (markInt64S_own _ zs.length _ 1 _ _ (by omega) (by have := HZ.out; omega) (by have := HZ.out; omega) U130.out).mono ?_
      rintro e w131 ⟨rfl, m132, g133, _⟩
      have B134 := Lib.hid (B128.out.grown g133 B128.out.size (fun x hx => (U130.out.lt x (hx.symm ▸ rfl)).1))
      have U135 := Lib.hid (U129.out.kept g133 N47.out)
      have U136 := Lib.hid m132
      clear m132 g133 B128 U129 U130
      have hz0 : ¬ (1 : Int) + (zs.length : Int) < 0 := by omega
      go_wp2_with fail
      refine (heldInt64S_own _ zs.length 1 _ _ (by omega) (by omega) (by have := HZ.out; omega) U136.out).mono ?_
      rintro e w137 ⟨rfl, rfl⟩
      go_wp2_with fail
      refine (toInt64S_any _ len0 G0 _ (by omega) (RW0.out _ B134.out)).mono ?_
      rintro e w138 ⟨v139, rfl, o141, b140⟩
      have N142 := Lib.hid (own_apart U135.out o141)
      have N143 := Lib.hid (own_apart U136.out o141)
      have U144 := Lib.hid (own_base o141 B134.out.size)
      clear o141
      have B145 := Lib.hid (below_one B134.out b140)
      have U146 := Lib.hid (own_below U135.out b140)
      have U147 := Lib.hid (own_below U136.out b140)
      clear B134 U135 U136
      clear b140
      go_wp2_with fail
      refine (toInt64S_any _ len1 G1 _ (by omega) (RW1.out _ B145.out)).mono ?_
      rintro e w148 ⟨v149, rfl, o151, b150⟩
      have N152 := Lib.hid (own_apart U146.out o151)
      have N153 := Lib.hid (own_apart U147.out o151)
      have N154 := Lib.hid (own_apart U144.out o151)
      have U155 := Lib.hid (own_base o151 B145.out.size)
      clear o151
      have B156 := Lib.hid (below_one B145.out b150)
      have U157 := Lib.hid (own_below U146.out b150)
      have U158 := Lib.hid (own_below U147.out b150)
      have U159 := Lib.hid (own_below U144.out b150)
      clear B145 U146 U147 U144
      clear b150
      go_wp2_with fail
      refine (I.out _ _ _ (rd_cpy U159.out) (rd_cpy U155.out)).mono ?_
      rintro e w160 ⟨v162, rfl, o163, b161⟩
      have N164 := Lib.hid (own_apart U157.out o163)
      have N165 := Lib.hid (own_apart U158.out o163)
      have N166 := Lib.hid (own_apart U159.out o163)
      have N167 := Lib.hid (own_apart U155.out o163)
      have U168 := Lib.hid (own_base o163 B156.out.size)
      clear o163
      have B169 := Lib.hid (below_one B156.out b161)
      have U170 := Lib.hid (own_below U157.out b161)
      have U171 := Lib.hid (own_below U158.out b161)
      have U172 := Lib.hid (own_below U159.out b161)
      have U173 := Lib.hid (own_below U155.out b161)
      clear B156 U157 U158 U159 U155
      clear b161
      clear U172
      clear U173
      go_wp2_with fail
      refine (eqInt64S_same _ _ zs.length _ _ (rd_of_own U168.out rfl) (rd_of_own U170.out rfl)).mono ?_
      rintro e w1760 ⟨rfl, q174, rfl⟩
      have b175 := below_dr w160 q174
      have B177 := Lib.hid (below_one B169.out b175)
      have U178 := Lib.hid (own_below U170.out b175)
      have U179 := Lib.hid (own_below U171.out b175)
      have U180 := Lib.hid (own_below U168.out b175)
      clear B169 U170 U171 U168
      clear b175
      generalize w160.drewN q174 = w176 at *
      go_wp2_with fail
      refine (heldInt64S_own _ zs.length 1 _ _ (by omega) (by omega) (by have := HZ.out; omega) U179.out).mono ?_
      rintro e w181 ⟨rfl, rfl⟩
      go_wp2_with fail
      go_ret
      exact ⟨rfl, B177.out⟩
    · have hbig1' : (1048576 : Int) < (len1 : Int) := by omega
      go_enter Try.func7, Try.ntmps7
      go_wp2
      go_ret
      exact ⟨rfl, Below.refl _ _⟩
  · have hbig0' : (1048576 : Int) < (len0 : Int) := by omega
    go_enter Try.func7, Try.ntmps7
    go_wp2
    go_ret
    exact ⟨rfl, Below.refl _ _⟩
end Go.Proofs.Ytcbfcpngpnlodaa
