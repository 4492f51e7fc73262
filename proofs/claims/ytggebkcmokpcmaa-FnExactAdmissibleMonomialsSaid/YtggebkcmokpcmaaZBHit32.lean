/-
  Joined: YConcat, YMonI.
-/
import Derived.Test.YtggebkcmokpcmaaZBHit20
import Derived.Deep.RegionLaw
import Derived.Lib.AppendZeros
import Derived.Test.YtggebkcmokpcmaaZBHit31
import Derived.Test.YtggebkcmokpcmaaZBHit05
section
namespace Go.Proofs.Ytggebkcmokpcmaa
open Go.RowKit
set_option linter.unusedVariables false
set_option maxRecDepth 100000

theorem one_ints (y : List Int) : ∀ u ∈ y.map (Value.int .i64), u.oneCell' = true := fun u hu => by
  obtain ⟨z, _, rfl⟩ := List.mem_map.1 hu
  rfl

theorem grow_nil (n : Nat) (w : World) (hn : n ≤ 1000) :
    Calls Try.prog 114 #[.slice none 0 0, .int .i64 n] w fun e w' => ∃ u, e = .returned u ∧ w'.ownsRow w.heap.size 2 1 u 0 [] ∧ Below w.heap.size w w' := by
  obtain ⟨i0, hi, hz0, hz1, hz2⟩ := info_parts Try.info2
  by_cases h0 : n = 0
  · subst h0
    go_enter Try.func114, Try.ntmps114
    go_wp2_with fail
    go_ret
    exact ⟨_, rfl, World.ownsRow_nil _ _ _ _, Below.refl _ _⟩
  · have h1 : ¬ (n : Int) < 0 := by omega
    have h2 : (0 : Int) < (n : Int) := by omega
    have hw : IntKind.i64.wrap (n : Int) = (n : Int) := by rw [IntKind.wrap_i64]; omega
    obtain ⟨cp, hcp⟩ : ∃ cp, grownCap w n 0 2 = cp := ⟨_, rfl⟩
    have HR := Lib.run_append_nil_zeros (P := Try.prog) w 42 3 42 2 i0 (.int .i64 0) .i64 .i64 Try.underlying42 Try.underlying3 hi hz0 n (by omega) (by omega) (by omega) (by rw [hz2]; omega)
    have hge := grownCap_ge w n 0 2
    have hle := grownCap_le_maxLen w n 0 2 (by unfold maxLen; omega)
    rw [hcp] at HR hge hle
    obtain ⟨C, hC⟩ : ∃ C, Builtin.zeroCells (Value.int .i64 0).cells n ++ Builtin.zeroCells (Value.int .i64 0).cells (cp - n) = C := ⟨_, rfl⟩
    have hs : C.size = cp * 1 := by rw [← hC, Array.size_append, size_zeroCells, size_zeroCells]; show n * 1 + (cp - n) * 1 = cp * 1; omega
    rw [hC] at HR
    have HR := Lib.hid HR
    have OW := Lib.hid (World.ownsRow_made (base := w.heap.size) (e := 2) (size := 1) w.drew C cp (Nat.le_refl _) hle hs)
    have BW : Hid (Below w.heap.size w (w.drew.alloc (.cells C 2))) := Lib.hid ((Below.refl _ w).drew.alloc (Nat.le_refl _) _)
    clear hC hs hcp hi hz0 hz1 hz2
    have hcp0 : 0 ≤ cp := Nat.zero_le _
    go_enter Try.func114, Try.ntmps114
    go_wp2_with (at_builtin; refine Lib.wpList_append_run _ rfl _ _ _ _ rfl _ _ rfl rfl _ _ HR.out ?_)
    go_ret
    exact ⟨_, rfl, OW.out, BW.out⟩

/-- The two rows. -/
theorem concat_two (g : Nat) (x y : List Int) (vx vy : Value) (w : World) (hx : RdN w vx x) (hy : RdN w vy y) (c0 : w.cell? ⟨g, 0, none⟩ = some vx) (c1 : w.cell? ⟨g, 1, none⟩ = some vy) (lx : x.length ≤ 100) (ly : y.length ≤ 100) :
    Calls Try.prog 106 #[.slice (some ⟨g, 0, none⟩) 2 2] w fun e w' => ∃ u, e = .returned u ∧ w'.ownsRow w.heap.size 2 1 u (x ++ y).length ((x ++ y).map (Value.int .i64)) ∧ Below w.heap.size w w' := by
  have RX := Lib.hid hx
  have RY := Lib.hid hy
  have C0 := Lib.hid c0
  have C1 := Lib.hid c1
  obtain ⟨ax, cx, rfl, _, _⟩ := id hx
  obtain ⟨ay, cy, rfl, _, _⟩ := id hy
  have GR := Lib.hid (grow_nil (x.length + y.length) w (by omega))
  have hw1 : IntKind.i64.wrap (x.length : Int) = (x.length : Int) := by rw [IntKind.wrap_i64]; omega
  have hw2 : IntKind.i64.wrap ((x.length : Int) + (y.length : Int)) = (x.length : Int) + (y.length : Int) := by rw [IntKind.wrap_i64]; omega
  have hn1 : ¬ (x.length : Int) < 0 := by omega
  have hn2 : ¬ (x.length : Int) + (y.length : Int) < 0 := by omega
  clear hx hy
  go_enter Try.func106, Try.ntmps106
  go_wp2_with fail
  refine wp_loop_rounds 3 ?_
  rw [rounds_succ]
  go_wp2_with fail
  rw [rounds_succ]
  go_wp2_with fail
  rw [rounds_succ]
  go_wp2_with fail
  have hcast : (x.length : Int) + (y.length : Int) = ((x.length + y.length : Nat) : Int) := by omega
  rw [hcast]
  refine GR.out.mono ?_
  rintro e w1 ⟨u, rfl, ou, b1⟩
  have OU := Lib.hid ou
  have B1 := Lib.hid b1
  have d0 := (b1.cell (p := ⟨g, 0, none⟩) (World.block_lt_of_cell? w _ C0.out)).trans C0.out
  have SX := Lib.hid (RX.out.src b1)
  clear ou b1 hcast GR c0 c1 hn1 hn2 hw1 hw2
  go_wp2_with fail
  refine wp_loop_rounds 3 ?_
  rw [rounds_succ]
  go_wp2_with (at_builtin; refine wpList_ints w1 rfl _ _ rfl w.heap.size 0 u [] rfl OU.out ax x.length cx (x.map (Value.int .i64)) rfl SX.out (by simp) (one_ints x) (by omega) B1.out.size ?_; intro v2 w2 ho2 hg2; have O2 : Hid (w2.ownsRow w.heap.size 2 1 v2 x.length (x.map (Value.int .i64))) := Lib.hid (by simpa using ho2); have B2 := Lib.hid (B1.out.grown hg2 B1.out.size (fun q hq => (OU.out.lt q hq).1)); clear ho2 hg2)
  have d1 := (B2.out.cell (p := ⟨g, 1, none⟩) (World.block_lt_of_cell? w _ C1.out)).trans C1.out
  have SY := Lib.hid (RY.out.src B2.out)
  clear d0
  rw [rounds_succ]
  go_wp2_with (at_builtin; refine wpList_ints w2 rfl _ _ rfl w.heap.size x.length v2 (x.map (Value.int .i64)) rfl O2.out ay y.length cy (y.map (Value.int .i64)) rfl SY.out (by simp) (one_ints y) (by omega) B2.out.size ?_; intro v3 w3 ho3 hg3; have O3 : Hid (w3.ownsRow w.heap.size 2 1 v3 (x ++ y).length ((x ++ y).map (Value.int .i64))) := Lib.hid (by simpa using ho3); have B3 := Lib.hid (B2.out.grown hg3 B2.out.size (fun q hq => (O2.out.lt q hq).1)); clear ho3 hg3)
  rw [rounds_succ]
  go_wp2_with fail
  go_ret
  exact ⟨v3, rfl, O3.out, B3.out⟩
end Go.Proofs.Ytggebkcmokpcmaa
end
section
namespace Go.Proofs.Ytggebkcmokpcmaa
open Go.RowKit
set_option linter.unusedVariables false
set_option maxRecDepth 100000

theorem rdN_one {w : World} {g : Nat} {d : Int} (h : w.cell? ⟨g, 0, none⟩ = some (.int .i64 d)) : RdN w (.slice (some ⟨g, 0, none⟩) 1 1) [d] :=
  ⟨_, 1, rfl, Nat.le_refl _, by unfold maxLen; simp, .inr ⟨g, 0, rfl, fun i hi => by
    obtain rfl : i = 0 := by simp at hi; omega
    exact h⟩⟩

set_option maxHeartbeats 400000 in
theorem implMs_zero (zs : List Int) (d : Nat) (xss : List (List Int)) (B : Nat) (V bv : Value) (VS : Nat → Value) (n : Nat) (w : World)
    (hnz : n = zs.length) (hn : n ≤ 10) (hx : xss.length ≤ 200000000000) (hown : w.ownsRow B 2 1 bv n (zs.map (Value.int .i64))) (hF : FamL w B V VS xss) (hS : Sep xss.length VS) (hB : B ≤ w.heap.size) :
    Calls Try.prog 94 #[V, bv, .int .i64 1, .int .i64 (d : Int)] w (ImplPost B w bv n zs xss.length VS (xss ++ ms 0 d zs)) := by
  obtain ⟨i1, hj, hy0, hy1, hy2⟩ := info_parts Try.infoS
  have HF := Lib.hid hF
  have HO := Lib.hid hown
  have HS := Lib.hid hS
  have HN := Lib.hid hnz
  obtain ⟨ab, cb, rfl, _⟩ := own_len hown
  obtain ⟨wc, hwc⟩ : ∃ wc, wc = ((w.alloc (.cells #[.int .i64 (d : Int)] 2)).alloc (.cells #[.slice ab n cb, .slice (some ⟨w.heap.size, 0, none⟩) 1 1] 42)) := ⟨_, rfl⟩
  have BC : Hid (Below w.heap.size w wc) := Lib.hid (by rw [hwc]; exact ((Below.refl _ w).alloc (Nat.le_refl _) _).alloc (by simp) _)
  have hsc : Hid (wc.heap.size = w.heap.size + 2) := Lib.hid (by rw [hwc]; simp)
  have R1 : RdN wc (.slice ab n cb) zs := by
    subst hnz
    exact (RdN.of_own hown).below BC.out
  have R2 : RdN wc (.slice (some ⟨w.heap.size, 0, none⟩) 1 1) [(d : Int)] := rdN_one (by
    rw [hwc]
    have h1 := cell_of_row _ w.heap.size 0 _ _ (0, 0) (heap_alloc_new w (.cells #[.int .i64 (d : Int)] 2))
    exact (((Below.refl _ (w.alloc (.cells #[.int .i64 (d : Int)] 2))).alloc (Nat.le_refl _) _).cell (p := ⟨w.heap.size, 0, none⟩) (World.block_lt_of_cell? _ _ h1)).trans h1)
  have hh : wc.heap[w.heap.size + 1]? = some (.cells #[.slice ab n cb, .slice (some ⟨w.heap.size, 0, none⟩) 1 1] 42 (0, 0)) := by
    rw [hwc]
    have := heap_alloc_new (w.alloc (.cells #[.int .i64 (d : Int)] 2)) (.cells #[.slice ab n cb, .slice (some ⟨w.heap.size, 0, none⟩) 1 1] 42)
    simpa using this
  have CT := Lib.hid (concat_two (w.heap.size + 1) zs [(d : Int)] _ _ wc R1 R2 (cell_of_row _ (w.heap.size + 1) 0 _ _ (0, 0) hh) (cell_of_row _ (w.heap.size + 1) 1 _ _ (0, 0) hh) (by omega) (by simp))
  have ELN : Hid ((zs ++ [(d : Int)]).length = n + 1) := Lib.hid (by rw [List.length_append, ← HN.out]; rfl)
  rw [ELN.out] at CT
  clear hF hown hS hnz R1 R2 hh
  go_enter Try.func94, Try.ntmps94
  go_wp2_with fail
  rw [← hwc]
  clear hwc
  refine CT.out.mono ?_
  rintro e w1 ⟨u0, rfl, hu, hb1c⟩
  have hb1 : Below w.heap.size w w1 := BC.out.step1 hb1c
  have hu : w1.ownsRow w.heap.size 2 1 u0 (n + 1) ((zs ++ [(d : Int)]).map (Value.int .i64)) := own_base hu BC.out.size
  obtain ⟨ua, uc, rfl, _⟩ := own_len hu
  have hF1 : FamL w1 B V VS xss := HF.out.below hb1
  have HB1 := Lib.hid hb1
  have HU := Lib.hid hu
  have hsz1 := hb1.size
  have E1 : Hid (∀ j x, [Value.slice ua (n + 1) uc][j]? = some x → (w1.alloc (.cells #[Value.slice ua (n + 1) uc] 42)).cell? ((⟨w1.heap.size, 0, none⟩ : Addr).add j) = some x) := Lib.hid (cell_one_new _ _ _)
  have E2 : Hid (∀ x ∈ [Value.slice ua (n + 1) uc], x.oneCell' = true) := by
    refine Lib.hid fun x hx => ?_
    rw [List.mem_singleton.1 hx]
    rfl
  have E3 : Hid (xss.length + 1 ≤ maxLen) := Lib.hid (by unfold maxLen; omega)
  have E4 : Hid ((xss.length + 1) * 24 ≤ 140737488355328) := Lib.hid (by omega)
  have E5 : Hid (B ≤ (w1.alloc (.cells #[Value.slice ua (n + 1) uc] 42)).heap.size) := Lib.hid (by simp; omega)
  clear hu hb1 hb1c CT
  go_wp2_with (at_builtin; refine wpList_append_own _ rfl (.tmp 12) (.tmp 18) 25 rfl B 42 i1 (.slice none 0 0) 1 24 Try.underlying25 hj hy0 hy1 hy2 rfl (by decide) _ _ _ rfl (hF1.out.alloc _) ⟨w1.heap.size, 0, none⟩ 1 1 [.slice ua (n + 1) uc] rfl rfl E1.out E2.out E3.out E4.out E5.out ?_)
  intro V3 w3 hV3 hgrow3 _
  have hnew : ∀ k, (Value.slice ua (n + 1) uc).ownBlock = some k → w.heap.size ≤ k := fun k hk => (HU.out.lt k hk).1
  have K3 : KeepI none w1 w3 := (KeepI.below ((Below.refl _ w1).alloc (Nat.le_refl _) _) none).trans (KeepI.row (hF1.out.alloc _) hgrow3 none)
  have K03 : KeepI none w w3 := (KeepI.below HB1.out none).trans K3
  have N3 := K3.own (own_base HU.out hB) (Classical.em _)
  have F3 := Lib.hid (FamL.push hF1 (fun _ _ => Classical.em _) K3 hV3 N3 ELN.out.symm)
  have B3 : Hid (Below B w w3) := Lib.hid ((HB1.out.mono hB).trans (((Below.refl _ w1).alloc (by omega) _).grown hgrow3 (by simp; omega) (fun k hk => (hF1.out.lt k hk).1)))
  have O3 := Lib.hid (K03.own HO.out (Classical.em _))
  have S3 := Lib.hid (Sep.ext HS.out (fun i hi => apart_new (HF.out.inn i hi) hnew))
  have R3 := Lib.hid (From.ext (VS := VS) (m := xss.length) hnew)
  have KK := Lib.hid (K03.wide (Value.slice ab n cb).ownBlock)
  clear hV3 hgrow3 K3 N3 K03 hnew hF1
  go_wp2
  go_ret
  exact ⟨V3, _, rfl, F3.out, B3.out, KK.out, O3.out, by rw [List.length_append]; exact S3.out, by rw [List.length_append]; exact R3.out⟩

set_option maxHeartbeats 800000 in
theorem implMs_any (f : Nat) : ∀ (zs : List Int) (d : Nat) (xss : List (List Int)) (B : Nat) (V bv : Value) (VS : Nat → Value) (K D : Int) (n : Nat) (w : World),
    K = (f : Int) + 1 → D = (d : Int) → n = zs.length → d ≤ 40 → n + f ≤ 7 → xss.length + 41 ^ f ≤ 200000000000 →
    w.ownsRow B 2 1 bv n (zs.map (Value.int .i64)) → FamL w B V VS xss → Sep xss.length VS → (∀ i, i < xss.length → (VS i).ownBlock = none ∨ (VS i).ownBlock ≠ bv.ownBlock) → B ≤ w.heap.size →
    Calls Try.prog 94 #[V, bv, .int .i64 K, .int .i64 D] w (ImplPost B w bv n zs xss.length VS (xss ++ ms f d zs)) := by
  induction f with
  | zero =>
    intro zs d xss B V bv VS K D n w hK hD hnz h40 h7 hx hown hF hS hA hB
    subst hK hD
    exact implMs_zero zs d xss B V bv VS n w hnz (by omega) (by omega) hown hF hS hB
  | succ f ih =>
    intro zs d xss B V bv VS K D n w hK hD hnz h40 h7 hx hown hF hS hA hB
    subst hD
    rw [ms_succ]
    have IH := Lib.hid ih
    have HF := Lib.hid hF
    have HO := Lib.hid hown
    have HN := Lib.hid hnz
    have HX := Lib.hid hx
    have HK := Lib.hid hK
    have HSEP := Lib.hid hS
    have HA := Lib.hid hA
    have hn6 : n ≤ 6 := by omega
    have hK2 : 2 ≤ K ∧ K ≤ 8 := by omega
    have hz : (K == 1) = false := by rw [beq_eq_false_iff_ne]; omega
    have hPT : Hid (∀ j, msTo f d zs (j + 1) = msTo f d zs j ++ ms f (d - j) (zs ++ [(j : Int)])) := Lib.hid (msTo_succ f d zs)
    clear ih hF hown hnz hx hS hA hK
    obtain ⟨an, an2, hbs⟩ : ∃ a c, bv = .slice a n c := by
      obtain ⟨a, c, e, _⟩ := own_len HO.out
      exact ⟨a, c, e⟩
    subst hbs
    go_enter Try.func94, Try.ntmps94
    go_wp2
    go_loopw [0, 9, 22] (fun a _ b wr => ∃ (j : Nat) (V' : Value) (VS' : Nat → Value), j ≤ d + 1 ∧ b = .int .i64 j ∧ a = V' ∧ Hid (FamL wr B V' VS' (xss ++ msTo f d zs j)) ∧ Hid (Below B w wr) ∧ Hid (KeepI (Value.slice an n an2).ownBlock w wr) ∧ Hid (wr.ownsRow B 2 1 (.slice an n an2) n (zs.map (Value.int .i64))) ∧ Hid (Sep (xss ++ msTo f d zs j).length VS') ∧ Hid (From w.heap.size xss.length VS (xss ++ msTo f d zs j).length VS')) (fun _ _ b _ => 42 - (intOf b).toNat)
    case atStart => exact ⟨0, V, VS, by omega, rfl, rfl, Lib.hid (by rw [msTo_zero, List.append_nil]; exact HF.out), Lib.hid (Below.refl _ _), Lib.hid (KeepI.refl _ _), HO, Lib.hid (by rw [msTo_zero, List.append_nil]; exact HSEP.out), Lib.hid (by rw [msTo_zero, List.append_nil]; exact From.refl _ _ _)⟩
    case round =>
      obtain ⟨j, u0, VS', hjd, rfl, rfl, hFr, hBr, hKr, hOr, hSr, hRr⟩ := hrel
      obtain ⟨ys, hys⟩ : ∃ ys, ys = xss ++ msTo f d zs j := ⟨_, rfl⟩
      rw [← hys] at hFr hSr hRr
      have HY := Lib.hid hys
      clear hys
      by_cases hle : j ≤ d
      · have hlt' : (j : Int) < (d : Int) + 1 := by omega
        have hsz := hBr.out.size
        have OA := Lib.hid (hOr.out.alloc (.cells #[Value.int .i64 (j : Int)] 2))
        have CN : Hid (∀ i u, [Value.int .i64 (j : Int)][i]? = some u → (wr.alloc (.cells #[Value.int .i64 (j : Int)] 2)).cell? ((⟨wr.heap.size, 0, none⟩ : Addr).add i) = some u) := Lib.hid (cell_one_new _ _ _)
        have BA : Hid (B ≤ (wr.alloc (.cells #[Value.int .i64 (j : Int)] 2)).heap.size) := Lib.hid (by simp; omega)
        have hn6 : n ≤ 1000000 := by omega
        go_wp2_with (at_builtin; refine wpList_append_pushed rfl (.tmp 26) (.tmp 28) rfl B n (.slice an n an2) zs (j : Int) rfl OA.out ⟨wr.heap.size, 0, none⟩ 1 rfl CN.out BA.out hn6 ?_)
        intro v1 w2 hP
        have HP2 := Lib.hid hP
        clear hP OA CN BA
        have aB : Below wr.heap.size wr (wr.alloc (.cells #[Value.int .i64 (j : Int)] 2)) := (Below.refl _ wr).alloc (Nat.le_refl _) _
        have FA : FamL (wr.alloc (.cells #[Value.int .i64 (j : Int)] 2)) B u0 VS' ys := hFr.out.below aB
        have hAp := From.apart hRr.out HO.out HA.out
        have F2 := Lib.hid (HP2.out.fam FA hAp)
        have A2 : Hid (∀ i, i < ys.length → (VS' i).ownBlock = none ∨ (VS' i).ownBlock ≠ v1.ownBlock) := Lib.hid (fun i hi => HP2.out.apart _ _ _ (FA.inn i hi) (hAp i hi))
        have B2 : Hid (Below B w w2) := Lib.hid ((hBr.out.trans (aB.mono (by omega))).trans HP2.out.below)
        have HLEN : Hid ((zs ++ [(j : Int)]).length = n + 1) := Lib.hid (by rw [List.length_append, ← HN.out]; rfl)
        have HXL : Hid (ys.length + 41 ^ f ≤ 200000000000) := Lib.hid (by
          rw [HY.out]
          have h1 := msTo_len f (ms_len f) zs d h40 j
          have h2 : j * 41 ^ f ≤ 40 * 41 ^ f := Nat.mul_le_mul_right _ (by omega)
          have h3 := HX.out
          rw [Nat.pow_succ] at h3
          rw [List.length_append]
          omega)
        have hBw2 : B ≤ w2.heap.size := Nat.le_trans hB B2.out.size
        have REC := Lib.hid (IH.out (zs ++ [(j : Int)]) (d - j) ys B u0 v1 VS' (K - 1) ((d : Int) - (j : Int)) (n + 1) w2 (by have := HK.out; omega) (by omega) HLEN.out.symm (by omega) (by omega) HXL.out HP2.out.own F2.out hSr.out A2.out hBw2)
        clear FA hAp
        go_wp2_with fail
        refine REC.out.mono ?_
        rintro e w3 ⟨V3, VS3, rfl, hF3, hB3, hK3, hO3, hS3, hR3⟩
        have hnext : ys ++ ms f (d - j) (zs ++ [(j : Int)]) = xss ++ msTo f d zs (j + 1) := by
          rw [HY.out, hPT.out, List.append_assoc]
        rw [hnext] at hF3 hS3 hR3
        have F3 := Lib.hid hF3
        have B3 : Hid (Below B w w3) := Lib.hid (B2.out.trans hB3)
        have K3 : Hid (KeepI (Value.slice an n an2).ownBlock w w3) := Lib.hid ((hKr.out.trans (KeepI.below aB _)).trans (HP2.out.keep w3 hK3))
        have O3 : Hid (w3.ownsRow B 2 1 (.slice an n an2) n (zs.map (Value.int .i64))) := Lib.hid (HP2.out.back w3 hK3 hO3)
        have S3 := Lib.hid hS3
        have R3 : Hid (From w.heap.size xss.length VS (xss ++ msTo f d zs (j + 1)).length VS3) := Lib.hid (hRr.out.trans hR3 B2.out.size)
        clear hnext hF3 hB3 hK3 hO3 hS3 hR3 REC aB
        go_wp2
        go_roundw
        case rel => exact ⟨j + 1, V3, VS3, by omega, by go_num, rfl, F3, B3, K3, O3, S3, R3⟩
        case measure => simp [intOf]; omega
      · obtain rfl : j = d + 1 := by omega
        have hle' : ¬ ((d + 1 : Nat) : Int) < (d : Int) + 1 := by omega
        go_wp2
        go_ret
        exact ⟨_, VS', rfl, by rw [← HY.out]; exact hFr.out, hBr.out, hKr.out, hOr.out, by rw [← HY.out]; exact hSr.out, by rw [← HY.out]; exact hRr.out⟩
end Go.Proofs.Ytggebkcmokpcmaa
end
