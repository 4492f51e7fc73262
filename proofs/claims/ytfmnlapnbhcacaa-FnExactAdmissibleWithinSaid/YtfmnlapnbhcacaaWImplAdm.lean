/-
  Contract of impl.appendAdmissible.
-/
import Derived.Test.YtfmnlapnbhcacaaWSpecAdm
namespace Go.Proofs.Ytfmnlapnbhcacaa
open Go.RowKit
set_option maxRecDepth 100000
set_option linter.unusedVariables false

set_option maxRecDepth 100000 in
/-- The end of the recursion: a copy of the row is appended. -/
theorem implAdmW_zero (zs : List Int) (xss : List (List Int)) (B : Nat) (V bv : Value) (VS : Nat → Value) (M : Int) (n : Nat) (w : World)
    (hnz : n = zs.length) (hn : n ≤ 1000) (hx : xss.length ≤ 2199023255552) (hown : w.ownsRow B 2 1 bv n (zs.map (Value.int .i64))) (hF : FamL w B V VS xss) (hS : Sep xss.length VS) (hB : B ≤ w.heap.size) :
    Calls Try.prog 118 #[V, bv, .int .i64 M, .int .i64 0] w (ImplPost B w bv n zs xss.length VS (xss ++ [zs])) := by
  obtain ⟨i1, hj, hy0, hy1, hy2⟩ := info_parts Try.infoS
  have HF := Lib.hid hF
  have HO := Lib.hid hown
  have HS := Lib.hid hS
  have HN := Lib.hid hnz
  have CL : Calls Try.prog 125 #[bv] w fun e w' => ∃ u, e = .returned u ∧ w'.ownsRow w.heap.size 2 1 u n (zs.map (Value.int .i64)) ∧ Below w.heap.size w w' := by
    rcases hown.2 with ⟨rfl, h0⟩ | ⟨g, cap, cur, rfl, _⟩
    · refine (Clone_nil w).mono ?_
      rintro e w' ⟨rfl, rfl⟩
      refine ⟨_, rfl, ?_, Below.refl _ _⟩
      subst h0
      have hz : zs = [] := List.eq_nil_of_length_eq_zero hnz.symm
      subst hz
      exact World.ownsRow_nil _ _ _ _
    · exact (Clone_any g n cap zs B w (by omega) hown).mono fun e w' ⟨u, a, b, _, c⟩ => ⟨u, a, b, c⟩
  have HCL := Lib.hid CL
  clear hF hown hS hnz CL
  go_enter Try.func118, Try.ntmps118
  go_wp2_with fail
  refine HCL.out.mono ?_
  rintro e w1 ⟨u0, rfl, hu, hb1⟩
  obtain ⟨ua, uc, rfl, _⟩ := own_len hu
  have hF1 : FamL w1 B V VS xss := HF.out.below hb1
  have HB1 := Lib.hid hb1
  have HU := Lib.hid hu
  have hsz1 := hb1.size
  have E1 : Hid (∀ j x, [Value.slice ua n uc][j]? = some x → (w1.alloc (.cells #[Value.slice ua n uc] 27)).cell? ((⟨w1.heap.size, 0, none⟩ : Addr).add j) = some x) := Lib.hid (cell_one_new _ _ _)
  have E2 : Hid (∀ x ∈ [Value.slice ua n uc], x.oneCell' = true) := by
    refine Lib.hid fun x hx => ?_
    rw [List.mem_singleton.1 hx]
    rfl
  have E3 : Hid (xss.length + 1 ≤ maxLen) := Lib.hid (by unfold maxLen; omega)
  have E4 : Hid ((xss.length + 1) * 24 ≤ 140737488355328) := Lib.hid (by omega)
  have E5 : Hid (B ≤ (w1.alloc (.cells #[Value.slice ua n uc] 27)).heap.size) := Lib.hid (by simp; omega)
  clear hu hb1 HCL
  go_wp2_with (at_builtin; refine wpList_append_own _ rfl (.tmp 12) (.tmp 15) 36 rfl B 27 i1 (.slice none 0 0) 1 24 Try.underlying36 hj hy0 hy1 hy2 rfl (by decide) _ _ _ rfl (hF1.out.alloc _) ⟨w1.heap.size, 0, none⟩ 1 1 [.slice ua n uc] rfl rfl E1.out E2.out E3.out E4.out E5.out ?_)
  intro V3 w3 hV3 hgrow3 _
  have hnew : ∀ k, (Value.slice ua n uc).ownBlock = some k → w.heap.size ≤ k := fun k hk => (HU.out.lt k hk).1
  have K3 : KeepI none w1 w3 := (KeepI.below ((Below.refl _ w1).alloc (Nat.le_refl _) _) none).trans (KeepI.row (hF1.out.alloc _) hgrow3 none)
  have K03 : KeepI none w w3 := (KeepI.below HB1.out none).trans K3
  have N3 := K3.own (own_base HU.out hB) (Classical.em _)
  have F3 := Lib.hid (FamL.push hF1 (fun _ _ => Classical.em _) K3 hV3 N3 HN.out)
  have B3 : Hid (Below B w w3) := Lib.hid ((HB1.out.mono hB).trans (((Below.refl _ w1).alloc (by omega) _).grown hgrow3 (by simp; omega) (fun k hk => (hF1.out.lt k hk).1)))
  have O3 := Lib.hid (K03.own HO.out (Classical.em _))
  have S3 := Lib.hid (Sep.ext HS.out (fun i hi => apart_new (HF.out.inn i hi) hnew))
  have R3 := Lib.hid (From.ext (VS := VS) (m := xss.length) hnew)
  have KK := Lib.hid (K03.wide bv.ownBlock)
  clear hV3 hgrow3 K3 N3 K03 hnew hF1
  go_wp2
  go_ret
  exact ⟨V3, _, rfl, F3.out, B3.out, KK.out, O3.out, by rw [List.length_append]; exact S3.out, by rw [List.length_append]; exact R3.out⟩


set_option maxHeartbeats 1600000 in
theorem implAdmW_any (f : Nat) : ∀ (zs : List Int) (d most : Nat) (xss : List (List Int)) (B : Nat) (V bv : Value) (VS : Nat → Value) (D M : Int) (n : Nat) (w : World),
    D = (d : Int) → M = (most : Int) → n = zs.length → d ≤ f → zs.length + d ≤ 40 → most ≤ 40 → xss.length + 2 ^ d ≤ 2199023255552 →
    w.ownsRow B 2 1 bv n (zs.map (Value.int .i64)) → FamL w B V VS xss → Sep xss.length VS → (∀ i, i < xss.length → (VS i).ownBlock = none ∨ (VS i).ownBlock ≠ bv.ownBlock) → B ≤ w.heap.size →
    Calls Try.prog 118 #[V, bv, .int .i64 M, .int .i64 D] w (ImplPost B w bv n zs xss.length VS (xss ++ adm f zs d most)) := by
  induction f with
  | zero =>
    intro zs d most xss B V bv VS D M n w hD hM hnz hdf h40 hm40 hx hown hF hS hA hB
    have h0 : d = 0 := by omega
    subst h0
    subst hD
    rw [adm_zero]
    exact implAdmW_zero zs xss B V bv VS M n w hnz (by omega) (by omega) hown hF hS hB
  | succ f ih =>
    intro zs d most xss B V bv VS D M n w hD hM hnz hdf h40 hm40 hx hown hF hS hA hB
    by_cases h0 : d = 0
    · subst h0
      subst hD
      rw [adm_zero]
      exact implAdmW_zero zs xss B V bv VS M n w hnz (by omega) (by omega) hown hF hS hB
    · subst hD
      subst hM
      rw [adm_succ f zs d most (by omega)]
      have IH := Lib.hid ih
      have HF := Lib.hid hF
      have HO := Lib.hid hown
      have HN := Lib.hid hnz
      have HX := Lib.hid hx
      have HSEP := Lib.hid hS
      have HA := Lib.hid hA
      have hn40 : n + d ≤ 40 := by omega
      have hPT : Hid (∀ j, admTo f zs d (j + 1) = admTo f zs d j ++ adm f (zs ++ [((j + 1 : Nat) : Int)]) (d - (j + 1)) ((j + 1) / 2)) := Lib.hid (admTo_succ f zs d)
      clear ih hF hown hnz hx hS hA
      obtain ⟨an, an2, hbs, _⟩ := own_len HO.out
      subst hbs
      have hz : ((d : Int) == 0) = false := by rw [beq_eq_false_iff_ne]; omega
      obtain ⟨MM, hMM⟩ : ∃ MM, MM = min most d := ⟨_, rfl⟩
      have hm1 : MM ≤ most := by rw [hMM]; exact Nat.min_le_left _ _
      have hm2 : MM ≤ d := by rw [hMM]; exact Nat.min_le_right _ _
      have hmi : (most ≤ d ∧ MM = most) ∨ (d < most ∧ MM = d) := by
        rw [hMM]
        by_cases h : most ≤ d
        · exact .inl ⟨h, Nat.min_eq_left h⟩
        · exact .inr ⟨by omega, Nat.min_eq_right (by omega)⟩
      rw [← hMM]
      clear hMM
      have hmd0 : (most : Int) ≤ (d : Int) ∨ (d : Int) < (most : Int) := by omega
      rcases hmd0 with hmd | hmd
      all_goals
        go_enter Try.func118, Try.ntmps118
        go_wp2_with fail
        go_loopw [0, 9] (fun a b wr => ∃ (j : Nat) (V' : Value) (VS' : Nat → Value), j ≤ MM ∧ b = .int .i64 ((j + 1 : Nat) : Int) ∧ a = V' ∧ Hid (FamL wr B V' VS' (xss ++ admTo f zs d j)) ∧ Hid (Below B w wr) ∧ Hid (KeepI (Value.slice an n an2).ownBlock w wr) ∧ Hid (wr.ownsRow B 2 1 (.slice an n an2) n (zs.map (Value.int .i64))) ∧ Hid (Sep (xss ++ admTo f zs d j).length VS') ∧ Hid (From w.heap.size xss.length VS (xss ++ admTo f zs d j).length VS')) (fun _ b _ => 42 - (intOf b).toNat)
        case atStart => exact ⟨0, V, VS, Nat.zero_le _, rfl, rfl, Lib.hid (by rw [admTo_zero, List.append_nil]; exact HF.out), Lib.hid (Below.refl _ _), Lib.hid (KeepI.refl _ _), HO, Lib.hid (by rw [admTo_zero, List.append_nil]; exact HSEP.out), Lib.hid (by rw [admTo_zero, List.append_nil]; exact From.refl _ _ _)⟩
        case round =>
          obtain ⟨j, u0, VS', hjc, rfl, rfl, hFr, hBr, hKr, hOr, hSr, hRr⟩ := hrel
          obtain ⟨ys, hys⟩ : ∃ ys, ys = xss ++ admTo f zs d j := ⟨_, rfl⟩
          rw [← hys] at hFr hSr hRr
          have HY := Lib.hid hys
          clear hys
          have ROOM : Hid (j + 1 ≤ d → ys.length + 2 ^ (d - (j + 1)) ≤ 2199023255552) := by
            refine Lib.hid fun h => ?_
            have h1 := admTo_room f zs d j h
            have h2 := HX.out
            rw [HY.out, List.length_append]
            omega
          have hPTj := Lib.hid (hPT.out j)
          obtain ⟨p, hpe⟩ : ∃ p, p = j + 1 := ⟨_, rfl⟩
          rw [← hpe] at ROOM hPTj ⊢
          have HP := Lib.hid hpe
          have hp0 : 1 ≤ p := by omega
          clear hpe
          by_cases hle : p ≤ MM
          · have hp2 : p ≤ d := by omega
            have hp3 : p ≤ most := by omega
            have hle1 : (p : Int) ≤ (most : Int) := by omega
            have hle2 : (p : Int) ≤ (d : Int) := by omega
            have hxl := ROOM.out hp2
            have HXL := Lib.hid hxl
            have hsz := hBr.out.size
            have OA := Lib.hid (hOr.out.alloc (.cells #[Value.int .i64 (p : Int)] 2))
            have CN : Hid (∀ i u, [Value.int .i64 (p : Int)][i]? = some u → (wr.alloc (.cells #[Value.int .i64 (p : Int)] 2)).cell? ((⟨wr.heap.size, 0, none⟩ : Addr).add i) = some u) := Lib.hid (cell_one_new _ _ _)
            have BA : Hid (B ≤ (wr.alloc (.cells #[Value.int .i64 (p : Int)] 2)).heap.size) := Lib.hid (by simp; omega)
            have hn6 : n ≤ 1000000 := by omega
            clear hxl ROOM
            go_wp2_with (at_builtin; refine wpList_append_pushed rfl (.tmp 25) (.tmp 27) rfl B n (.slice an n an2) zs (p : Int) rfl OA.out ⟨wr.heap.size, 0, none⟩ 1 rfl CN.out BA.out hn6 ?_)
            intro v1 w2 hP
            have HP2 := Lib.hid hP
            clear hP OA CN BA
            have aB : Below wr.heap.size wr (wr.alloc (.cells #[Value.int .i64 (p : Int)] 2)) := (Below.refl _ wr).alloc (Nat.le_refl _) _
            have FA : FamL (wr.alloc (.cells #[Value.int .i64 (p : Int)] 2)) B u0 VS' ys := hFr.out.below aB
            have hAp := From.apart hRr.out HO.out HA.out
            have F2 := Lib.hid (HP2.out.fam FA hAp)
            have A2 : Hid (∀ i, i < ys.length → (VS' i).ownBlock = none ∨ (VS' i).ownBlock ≠ v1.ownBlock) := Lib.hid (fun i hi => HP2.out.apart _ _ _ (FA.inn i hi) (hAp i hi))
            have B2 : Hid (Below B w w2) := Lib.hid ((hBr.out.trans (aB.mono (by omega))).trans HP2.out.below)
            have hlen : (zs ++ [(p : Int)]).length = n + 1 := by rw [List.length_append, ← HN.out]; rfl
            have HLEN := Lib.hid hlen
            have hBw2 : B ≤ w2.heap.size := Nat.le_trans hB B2.out.size
            have REC := Lib.hid (IH.out (zs ++ [(p : Int)]) (d - p) (p / 2) ys B u0 v1 VS' ((d : Int) - (p : Int)) ((p : Int) / 2) (n + 1) w2 (by omega) (by omega) HLEN.out.symm (by omega) (by rw [HLEN.out]; omega) (by omega) HXL.out HP2.out.own F2.out hSr.out A2.out hBw2)
            clear hlen FA hAp
            go_wp2_with fail
            refine REC.out.mono ?_
            rintro e w3 ⟨V3, VS3, rfl, hF3, hB3, hK3, hO3, hS3, hR3⟩
            have hnext : ys ++ adm f (zs ++ [(p : Int)]) (d - p) (p / 2) = xss ++ admTo f zs d p := by
              rw [HY.out, hPTj.out, List.append_assoc]
            rw [hnext] at hF3 hS3 hR3
            have F3 := Lib.hid hF3
            have B3 : Hid (Below B w w3) := Lib.hid (B2.out.trans hB3)
            have K3 : Hid (KeepI (Value.slice an n an2).ownBlock w w3) := Lib.hid ((hKr.out.trans (KeepI.below aB _)).trans (HP2.out.keep w3 hK3))
            have O3 : Hid (w3.ownsRow B 2 1 (.slice an n an2) n (zs.map (Value.int .i64))) := Lib.hid (HP2.out.back w3 hK3 hO3)
            have S3 := Lib.hid hS3
            have R3 : Hid (From w.heap.size xss.length VS (xss ++ admTo f zs d p).length VS3) := Lib.hid (hRr.out.trans hR3 B2.out.size)
            clear hnext hF3 hB3 hK3 hO3 hS3 hR3 REC aB
            go_wp2
            go_roundw
            case rel => exact ⟨p, V3, VS3, hle, by go_num, rfl, F3, B3, K3, O3, S3, R3⟩
            case measure => simp [intOf]; omega
          · have hjc' : j = MM := by have := HP.out; omega
            have HJ := Lib.hid hjc'
            have hle1 : ¬ (p : Int) ≤ (most : Int) ∨ (d : Int) < (most : Int) := by omega
            have hle2 : ¬ (p : Int) ≤ (d : Int) ∨ (most : Int) ≤ (d : Int) := by omega
            have hle3 : (most : Int) < (p : Int) ∨ (d : Int) < (p : Int) := by omega
            clear hjc' ROOM
            first
              | (have g : ¬ (p : Int) ≤ (most : Int) := by omega
                 go_wp2_with fail
                 go_ret
                 exact ⟨_, VS', rfl, by rw [← HJ.out, ← HY.out]; exact hFr.out, hBr.out, hKr.out, hOr.out, by rw [← HJ.out, ← HY.out]; exact hSr.out, by rw [← HJ.out, ← HY.out]; exact hRr.out⟩)
              | (have g : ¬ (p : Int) ≤ (d : Int) := by omega
                 go_wp2_with fail
                 go_ret
                 exact ⟨_, VS', rfl, by rw [← HJ.out, ← HY.out]; exact hFr.out, hBr.out, hKr.out, hOr.out, by rw [← HJ.out, ← HY.out]; exact hSr.out, by rw [← HJ.out, ← HY.out]; exact hRr.out⟩)
end Go.Proofs.Ytfmnlapnbhcacaa
