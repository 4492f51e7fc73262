/-
  Contract of impl.appendSpikes.
-/
import Derived.Test.YtfhfnjcfkpcmnaaWSpecSpk
namespace Go.Proofs.Ytfhfnjcfkpcmnaa
open Go.RowKit
set_option linter.unusedVariables false

set_option maxRecDepth 100000 in
/-- The end of the recursion: a copy of the row is appended. -/
theorem implSpk_zero (zs : List Int) (xss : List (List Int)) (B : Nat) (V bv : Value) (VS : Nat → Value) (n : Nat) (w : World)
    (hnz : n = zs.length) (hn : n ≤ 1000) (hx : xss.length ≤ 2199023255552) (hown : w.ownsRow B 2 1 bv n (zs.map (Value.int .i64))) (hF : FamL w B V VS xss) (hS : Sep xss.length VS) (hB : B ≤ w.heap.size) :
    Calls Try.prog 85 #[V, bv, .int .i64 0] w (ImplPost B w bv n zs xss.length VS (xss ++ [zs])) := by
  obtain ⟨i1, hj, hy0, hy1, hy2⟩ := info_parts Try.infoS
  have HF := Lib.hid hF
  have HO := Lib.hid hown
  have HS := Lib.hid hS
  have HN := Lib.hid hnz
  have CL : Calls Try.prog 91 #[bv] w fun e w' => ∃ u, e = .returned u ∧ w'.ownsRow w.heap.size 2 1 u n (zs.map (Value.int .i64)) ∧ Below w.heap.size w w' := by
    rcases hown.2 with ⟨rfl, h0⟩ | ⟨g, cap, cur, rfl, _⟩
    · refine (Clone_nil w).mono ?_
      rintro e w' ⟨rfl, rfl⟩
      refine ⟨_, rfl, ?_, Below.refl _ _⟩
      subst h0
      have hz : zs = [] := List.eq_nil_of_length_eq_zero hnz.symm
      subst hz
      exact World.ownsRow_nil _ _ _ _
    · exact (Clone_any g n cap zs B w (by omega) hown).mono fun e w' ⟨u, a, b, _, c⟩ => ⟨u, a, b, c⟩
  have HCL := Lib.hid CL
  clear hF hown hS hnz CL
  go_enter Try.func85, Try.ntmps85
  go_wp2_with fail
  refine HCL.out.mono ?_
  rintro e w1 ⟨u0, rfl, hu, hb1⟩
  obtain ⟨ua, uc, rfl, _⟩ := own_len hu
  have hF1 : FamL w1 B V VS xss := HF.out.below hb1
  have HB1 := Lib.hid hb1
  have HU := Lib.hid hu
  have hsz1 := hb1.size
  have E1 : Hid (∀ j x, [Value.slice ua n uc][j]? = some x → (w1.alloc (.cells #[Value.slice ua n uc] 27)).cell? ((⟨w1.heap.size, 0, none⟩ : Addr).add j) = some x) := Lib.hid (cell_one_new _ _ _)
  have E2 : Hid (∀ x ∈ [Value.slice ua n uc], x.oneCell' = true) := by
    refine Lib.hid fun x hx => ?_
    rw [List.mem_singleton.1 hx]
    rfl
  have E3 : Hid (xss.length + 1 ≤ maxLen) := Lib.hid (by unfold maxLen; omega)
  have E4 : Hid ((xss.length + 1) * 24 ≤ 140737488355328) := Lib.hid (by omega)
  have E5 : Hid (B ≤ (w1.alloc (.cells #[Value.slice ua n uc] 27)).heap.size) := Lib.hid (by simp; omega)
  clear hu hb1 HCL
  go_wp2_with (at_builtin; refine wpList_append_own _ rfl (.tmp 11) (.tmp 14) 36 rfl B 27 i1 (.slice none 0 0) 1 24 Try.underlying36 hj hy0 hy1 hy2 rfl (by decide) _ _ _ rfl (hF1.out.alloc _) ⟨w1.heap.size, 0, none⟩ 1 1 [.slice ua n uc] rfl rfl E1.out E2.out E3.out E4.out E5.out ?_)
  intro V3 w3 hV3 hgrow3 _
  have hnew : ∀ k, (Value.slice ua n uc).ownBlock = some k → w.heap.size ≤ k := fun k hk => (HU.out.lt k hk).1
  have K3 : KeepI none w1 w3 := (KeepI.below ((Below.refl _ w1).alloc (Nat.le_refl _) _) none).trans (KeepI.row (hF1.out.alloc _) hgrow3 none)
  have K03 : KeepI none w w3 := (KeepI.below HB1.out none).trans K3
  have N3 := K3.own (own_base HU.out hB) (Classical.em _)
  have F3 := Lib.hid (FamL.push hF1 (fun _ _ => Classical.em _) K3 hV3 N3 HN.out)
  have B3 : Hid (Below B w w3) := Lib.hid ((HB1.out.mono hB).trans (((Below.refl _ w1).alloc (by omega) _).grown hgrow3 (by simp; omega) (fun k hk => (hF1.out.lt k hk).1)))
  have O3 := Lib.hid (K03.own HO.out (Classical.em _))
  have S3 := Lib.hid (Sep.ext HS.out (fun i hi => apart_new (HF.out.inn i hi) hnew))
  have R3 := Lib.hid (From.ext (VS := VS) (m := xss.length) hnew)
  have KK := Lib.hid (K03.wide bv.ownBlock)
  clear hV3 hgrow3 K3 N3 K03 hnew hF1
  go_wp2
  go_ret
  exact ⟨V3, _, rfl, F3.out, B3.out, KK.out, O3.out, by rw [List.length_append]; exact S3.out, by rw [List.length_append]; exact R3.out⟩


set_option maxHeartbeats 1600000 in
set_option maxRecDepth 100000 in
theorem implSpk_any (f : Nat) : ∀ (zs : List Int) (d most : Nat) (xss : List (List Int)) (B : Nat) (V bv : Value) (VS : Nat → Value) (D : Int) (n : Nat) (w : World),
    D = (d : Int) → n = zs.length → d ≤ f → zs.length + d ≤ 40 → most ≤ 40 → ((n = 0 ∧ most = d) ∨ (0 < n ∧ zs[n - 1]? = some (most : Int))) → xss.length + 2 ^ d ≤ 2199023255552 →
    w.ownsRow B 2 1 bv n (zs.map (Value.int .i64)) → FamL w B V VS xss → Sep xss.length VS → (∀ i, i < xss.length → (VS i).ownBlock = none ∨ (VS i).ownBlock ≠ bv.ownBlock) → B ≤ w.heap.size →
    Calls Try.prog 85 #[V, bv, .int .i64 D] w (ImplPost B w bv n zs xss.length VS (xss ++ spk f zs d most)) := by
  induction f with
  | zero =>
    intro zs d most xss B V bv VS D n w hD hnz hdf h40 hm40 hmo hx hown hF hS hA hB
    have h0 : d = 0 := by omega
    subst h0
    subst hD
    rw [spk_zero]
    exact implSpk_zero zs xss B V bv VS n w hnz (by omega) (by omega) hown hF hS hB
  | succ f ih =>
    intro zs d most xss B V bv VS D n w hD hnz hdf h40 hm40 hmo hx hown hF hS hA hB
    by_cases h0 : d = 0
    · subst h0
      subst hD
      rw [spk_zero]
      exact implSpk_zero zs xss B V bv VS n w hnz (by omega) (by omega) hown hF hS hB
    · subst hD
      rw [spk_succ f zs d most (by omega)]
      have IH := Lib.hid ih
      have HF := Lib.hid hF
      have HO := Lib.hid hown
      have HN := Lib.hid hnz
      have HX := Lib.hid hx
      have HSEP := Lib.hid hS
      have HA := Lib.hid hA
      have HMO := Lib.hid hmo
      have hn40 : n + d ≤ 40 := by omega
      have hPT : Hid (∀ j, spkTo f zs d (j + 1) = spkTo f zs d j ++ spk f (zs ++ [(sp j : Int)]) (d - sp j) (sp j)) := Lib.hid (spkTo_succ f zs d)
      clear ih hF hown hnz hx hS hA hmo
      obtain ⟨an, an2, hbs, _⟩ := own_len HO.out
      subst hbs
      have hz : ((d : Int) == 0) = false := by rw [beq_eq_false_iff_ne]; omega
      obtain ⟨M, hM⟩ : ∃ M, M = min most d := ⟨_, rfl⟩
      have hM1 : M ≤ most := by rw [hM]; exact Nat.min_le_left _ _
      have hM2 : M ≤ d := by rw [hM]; exact Nat.min_le_right _ _
      have HM := Lib.hid hM
      have hM3 : most < d → most ≤ M := fun h => by rw [hM]; exact Nat.le_min.2 ⟨Nat.le_refl _, by omega⟩
      have hM4 : d ≤ most → d ≤ M := fun h => by rw [hM]; exact Nat.le_min.2 ⟨h, Nat.le_refl _⟩
      clear hM
      have hways : (n = 0 ∧ d ≤ M) ∨ (0 < n ∧ d ≤ most ∧ d ≤ M) ∨ (0 < n ∧ most < d ∧ most ≤ M) := by
        rcases HMO.out with ⟨a, b⟩ | ⟨a, _⟩
        · exact .inl ⟨a, hM4 (by omega)⟩
        · by_cases h : d ≤ most
          · exact .inr (.inl ⟨a, h, hM4 h⟩)
          · exact .inr (.inr ⟨a, by omega, hM3 (by omega)⟩)
      have hlast : 0 < n → ∃ g, an = some ⟨g, 0, none⟩ ∧ w.cell? ⟨g, n - 1, none⟩ = some (.int .i64 (most : Int)) := by
        intro hn
        obtain ⟨g, cap, e⟩ := next_shape HO.out hn
        cases e
        refine ⟨g, rfl, ?_⟩
        rw [own_at HO.out (n - 1) (by omega)]
        rcases HMO.out with ⟨a, _⟩ | ⟨_, b⟩
        · omega
        · rw [b]; rfl
      clear hM3 hM4
      rcases hways with ⟨hn0, hMd⟩ | ⟨hn0, hdm, hMd⟩ | ⟨hn0, hdm, hMd⟩
      · clear hlast
        have hz0 : ¬ (0 : Int) < (n : Int) := by omega
        clear hn0
        go_enter Try.func85, Try.ntmps85
        go_wp2_with fail
        go_loopw [0, 8] (fun a b wr => ∃ (j : Nat) (V' : Value) (VS' : Nat → Value), j ≤ scnt M ∧ sp j ≤ 81 ∧ j ≤ 40 ∧ b = .int .i64 ((j : Int) + 1) ∧ a = V' ∧ Hid (FamL wr B V' VS' (xss ++ spkTo f zs d j)) ∧ Hid (Below B w wr) ∧ Hid (KeepI (Value.slice an n an2).ownBlock w wr) ∧ Hid (wr.ownsRow B 2 1 (.slice an n an2) n (zs.map (Value.int .i64))) ∧ Hid (Sep (xss ++ spkTo f zs d j).length VS') ∧ Hid (From w.heap.size xss.length VS (xss ++ spkTo f zs d j).length VS')) (fun _ b _ => 42 - (intOf b).toNat)
        case atStart => exact ⟨0, V, VS, Nat.zero_le _, by decide, by omega, rfl, rfl, Lib.hid (by rw [spkTo_zero, List.append_nil]; exact HF.out), Lib.hid (Below.refl _ _), Lib.hid (KeepI.refl _ _), HO, Lib.hid (by rw [spkTo_zero, List.append_nil]; exact HSEP.out), Lib.hid (by rw [spkTo_zero, List.append_nil]; exact From.refl _ _ _)⟩
        case round =>
          obtain ⟨j, u0, VS', hjc, hj81, hj40, rfl, rfl, hFr, hBr, hKr, hOr, hSr, hRr⟩ := hrel
          obtain ⟨ys, hys⟩ : ∃ ys, ys = xss ++ spkTo f zs d j := ⟨_, rfl⟩
          rw [← hys] at hFr hSr hRr
          have HY := Lib.hid hys
          clear hys
          have hcl := scnt_lt M j
          have hgt := sp_gt j
          have E2 : Hid (sp (j + 1) = 2 * sp j + 1) := Lib.hid rfl
          have ROOM : Hid (sp j ≤ d → ys.length + 2 ^ (d - sp j) ≤ 2199023255552) := by
            refine Lib.hid fun h => ?_
            have h1 := spkTo_room f zs d j h
            have h2 := HX.out
            rw [HY.out, List.length_append]
            omega
          have hPTj := Lib.hid (hPT.out j)
          have SPK := fun (wx : World) => spike_sp j wx (by omega)
          generalize hpe : sp j = p at *
          have HP := Lib.hid hpe
          have SPK := Lib.hid SPK
          clear hpe
          by_cases hle : p ≤ M
          · have hp2 : p ≤ d := by omega
            have hp3 : p ≤ most := by omega
            have hle1 : (p : Int) ≤ (most : Int) := by omega
            have hle2 : (p : Int) ≤ (d : Int) := by omega
            have hjlt : j < scnt M := hcl.2 hle
            have hxl := ROOM.out hp2
            have HXL := Lib.hid hxl
            have hsz := hBr.out.size
            have OA := Lib.hid (hOr.out.alloc (.cells #[Value.int .i64 (p : Int)] 2))
            have CN : Hid (∀ i u, [Value.int .i64 (p : Int)][i]? = some u → (wr.alloc (.cells #[Value.int .i64 (p : Int)] 2)).cell? ((⟨wr.heap.size, 0, none⟩ : Addr).add i) = some u) := Lib.hid (cell_one_new _ _ _)
            have BA : Hid (B ≤ (wr.alloc (.cells #[Value.int .i64 (p : Int)] 2)).heap.size) := Lib.hid (by simp; omega)
            have hn6 : n ≤ 1000000 := by omega
            clear hcl hxl ROOM
            go_wp2_with (first | (go_at_call 74; refine (SPK.out _).mono ?_; rintro e w' ⟨rfl, rfl⟩) | (at_builtin; refine wpList_append_pushed rfl (.tmp 35) (.tmp 38) rfl B n (.slice an n an2) zs (p : Int) rfl OA.out ⟨wr.heap.size, 0, none⟩ 1 rfl CN.out BA.out hn6 ?_))
            intro v1 w2 hP
            have HP2 := Lib.hid hP
            clear hP OA CN BA
            have aB : Below wr.heap.size wr (wr.alloc (.cells #[Value.int .i64 (p : Int)] 2)) := (Below.refl _ wr).alloc (Nat.le_refl _) _
            have FA : FamL (wr.alloc (.cells #[Value.int .i64 (p : Int)] 2)) B u0 VS' ys := hFr.out.below aB
            have hAp := From.apart hRr.out HO.out HA.out
            have F2 := Lib.hid (HP2.out.fam FA hAp)
            have A2 : Hid (∀ i, i < ys.length → (VS' i).ownBlock = none ∨ (VS' i).ownBlock ≠ v1.ownBlock) := Lib.hid (fun i hi => HP2.out.apart _ _ _ (FA.inn i hi) (hAp i hi))
            have B2 : Hid (Below B w w2) := Lib.hid ((hBr.out.trans (aB.mono (by omega))).trans HP2.out.below)
            have hlen : (zs ++ [(p : Int)]).length = n + 1 := by rw [List.length_append, ← HN.out]; rfl
            have HLEN := Lib.hid hlen
            have hlst : (zs ++ [(p : Int)])[n + 1 - 1]? = some (p : Int) := by
              rw [Nat.add_sub_cancel, HN.out, List.getElem?_append_right (Nat.le_refl _), Nat.sub_self]
              rfl
            have hBw2 : B ≤ w2.heap.size := Nat.le_trans hB B2.out.size
            have REC := Lib.hid (IH.out (zs ++ [(p : Int)]) (d - p) p ys B u0 v1 VS' ((d : Int) - (p : Int)) (n + 1) w2 (by omega) HLEN.out.symm (by omega) (by rw [HLEN.out]; omega) (by omega) (.inr ⟨by omega, hlst⟩) HXL.out HP2.out.own F2.out hSr.out A2.out hBw2)
            clear hlen hlst FA hAp
            go_wp2_with (go_at_call 74; refine (SPK.out _).mono ?_; rintro e w' ⟨rfl, rfl⟩)
            refine REC.out.mono ?_
            rintro e w3 ⟨V3, VS3, rfl, hF3, hB3, hK3, hO3, hS3, hR3⟩
            have hnext : ys ++ spk f (zs ++ [(p : Int)]) (d - p) p = xss ++ spkTo f zs d (j + 1) := by
              rw [HY.out, hPTj.out, List.append_assoc]
            rw [hnext] at hF3 hS3 hR3
            have F3 := Lib.hid hF3
            have B3 : Hid (Below B w w3) := Lib.hid (B2.out.trans hB3)
            have K3 : Hid (KeepI (Value.slice an n an2).ownBlock w w3) := Lib.hid ((hKr.out.trans (KeepI.below aB _)).trans (HP2.out.keep w3 hK3))
            have O3 : Hid (w3.ownsRow B 2 1 (.slice an n an2) n (zs.map (Value.int .i64))) := Lib.hid (HP2.out.back w3 hK3 hO3)
            have S3 := Lib.hid hS3
            have R3 : Hid (From w.heap.size xss.length VS (xss ++ spkTo f zs d (j + 1)).length VS3) := Lib.hid (hRr.out.trans hR3 B2.out.size)
            clear hnext hF3 hB3 hK3 hO3 hS3 hR3 REC aB SPK
            go_wp2
            go_roundw
            case rel => exact ⟨j + 1, V3, VS3, by omega, by rw [E2.out]; omega, by omega, by go_num, rfl, F3, B3, K3, O3, S3, R3⟩
            case measure => simp [intOf]; omega
          · have hjc' : j = scnt M := by
              have : ¬ j < scnt M := fun e => hle (hcl.1 e)
              omega
            have hle' : ¬ (p : Int) ≤ (d : Int) := by omega
            have HJ := Lib.hid hjc'
            have HM' := Lib.hid HM.out.symm
            clear hjc' hcl ROOM
            go_wp2_with (go_at_call 74; refine (SPK.out _).mono ?_; rintro e w' ⟨rfl, rfl⟩)
            go_ret
            exact ⟨_, VS', rfl, by rw [HM'.out, ← HJ.out, ← HY.out]; exact hFr.out, hBr.out, hKr.out, hOr.out, by rw [HM'.out, ← HJ.out, ← HY.out]; exact hSr.out, by rw [HM'.out, ← HJ.out, ← HY.out]; exact hRr.out⟩
      · obtain ⟨g, rfl, hl⟩ := hlast hn0
        clear hlast
        have hz0 : (0 : Int) < (n : Int) := by omega
        have hdm' : (d : Int) ≤ (most : Int) := by omega
        go_enter Try.func85, Try.ntmps85
        go_wp2_with fail
        clear hl
        go_loopw [0, 8] (fun a b wr => ∃ (j : Nat) (V' : Value) (VS' : Nat → Value), j ≤ scnt M ∧ sp j ≤ 81 ∧ j ≤ 40 ∧ b = .int .i64 ((j : Int) + 1) ∧ a = V' ∧ Hid (FamL wr B V' VS' (xss ++ spkTo f zs d j)) ∧ Hid (Below B w wr) ∧ Hid (KeepI (Value.slice (some ⟨g, 0, none⟩) n an2).ownBlock w wr) ∧ Hid (wr.ownsRow B 2 1 (.slice (some ⟨g, 0, none⟩) n an2) n (zs.map (Value.int .i64))) ∧ Hid (Sep (xss ++ spkTo f zs d j).length VS') ∧ Hid (From w.heap.size xss.length VS (xss ++ spkTo f zs d j).length VS')) (fun _ b _ => 42 - (intOf b).toNat)
        case atStart => exact ⟨0, V, VS, Nat.zero_le _, by decide, by omega, rfl, rfl, Lib.hid (by rw [spkTo_zero, List.append_nil]; exact HF.out), Lib.hid (Below.refl _ _), Lib.hid (KeepI.refl _ _), HO, Lib.hid (by rw [spkTo_zero, List.append_nil]; exact HSEP.out), Lib.hid (by rw [spkTo_zero, List.append_nil]; exact From.refl _ _ _)⟩
        case round =>
          obtain ⟨j, u0, VS', hjc, hj81, hj40, rfl, rfl, hFr, hBr, hKr, hOr, hSr, hRr⟩ := hrel
          obtain ⟨ys, hys⟩ : ∃ ys, ys = xss ++ spkTo f zs d j := ⟨_, rfl⟩
          rw [← hys] at hFr hSr hRr
          have HY := Lib.hid hys
          clear hys
          have hcl := scnt_lt M j
          have hgt := sp_gt j
          have E2 : Hid (sp (j + 1) = 2 * sp j + 1) := Lib.hid rfl
          have ROOM : Hid (sp j ≤ d → ys.length + 2 ^ (d - sp j) ≤ 2199023255552) := by
            refine Lib.hid fun h => ?_
            have h1 := spkTo_room f zs d j h
            have h2 := HX.out
            rw [HY.out, List.length_append]
            omega
          have hPTj := Lib.hid (hPT.out j)
          have SPK := fun (wx : World) => spike_sp j wx (by omega)
          generalize hpe : sp j = p at *
          have HP := Lib.hid hpe
          have SPK := Lib.hid SPK
          clear hpe
          by_cases hle : p ≤ M
          · have hp2 : p ≤ d := by omega
            have hp3 : p ≤ most := by omega
            have hle1 : (p : Int) ≤ (most : Int) := by omega
            have hle2 : (p : Int) ≤ (d : Int) := by omega
            have hjlt : j < scnt M := hcl.2 hle
            have hxl := ROOM.out hp2
            have HXL := Lib.hid hxl
            have hsz := hBr.out.size
            have OA := Lib.hid (hOr.out.alloc (.cells #[Value.int .i64 (p : Int)] 2))
            have CN : Hid (∀ i u, [Value.int .i64 (p : Int)][i]? = some u → (wr.alloc (.cells #[Value.int .i64 (p : Int)] 2)).cell? ((⟨wr.heap.size, 0, none⟩ : Addr).add i) = some u) := Lib.hid (cell_one_new _ _ _)
            have BA : Hid (B ≤ (wr.alloc (.cells #[Value.int .i64 (p : Int)] 2)).heap.size) := Lib.hid (by simp; omega)
            have hn6 : n ≤ 1000000 := by omega
            clear hcl hxl ROOM
            go_wp2_with (first | (go_at_call 74; refine (SPK.out _).mono ?_; rintro e w' ⟨rfl, rfl⟩) | (at_builtin; refine wpList_append_pushed rfl (.tmp 35) (.tmp 38) rfl B n (.slice (some ⟨g, 0, none⟩) n an2) zs (p : Int) rfl OA.out ⟨wr.heap.size, 0, none⟩ 1 rfl CN.out BA.out hn6 ?_))
            intro v1 w2 hP
            have HP2 := Lib.hid hP
            clear hP OA CN BA
            have aB : Below wr.heap.size wr (wr.alloc (.cells #[Value.int .i64 (p : Int)] 2)) := (Below.refl _ wr).alloc (Nat.le_refl _) _
            have FA : FamL (wr.alloc (.cells #[Value.int .i64 (p : Int)] 2)) B u0 VS' ys := hFr.out.below aB
            have hAp := From.apart hRr.out HO.out HA.out
            have F2 := Lib.hid (HP2.out.fam FA hAp)
            have A2 : Hid (∀ i, i < ys.length → (VS' i).ownBlock = none ∨ (VS' i).ownBlock ≠ v1.ownBlock) := Lib.hid (fun i hi => HP2.out.apart _ _ _ (FA.inn i hi) (hAp i hi))
            have B2 : Hid (Below B w w2) := Lib.hid ((hBr.out.trans (aB.mono (by omega))).trans HP2.out.below)
            have hlen : (zs ++ [(p : Int)]).length = n + 1 := by rw [List.length_append, ← HN.out]; rfl
            have HLEN := Lib.hid hlen
            have hlst : (zs ++ [(p : Int)])[n + 1 - 1]? = some (p : Int) := by
              rw [Nat.add_sub_cancel, HN.out, List.getElem?_append_right (Nat.le_refl _), Nat.sub_self]
              rfl
            have hBw2 : B ≤ w2.heap.size := Nat.le_trans hB B2.out.size
            have REC := Lib.hid (IH.out (zs ++ [(p : Int)]) (d - p) p ys B u0 v1 VS' ((d : Int) - (p : Int)) (n + 1) w2 (by omega) HLEN.out.symm (by omega) (by rw [HLEN.out]; omega) (by omega) (.inr ⟨by omega, hlst⟩) HXL.out HP2.out.own F2.out hSr.out A2.out hBw2)
            clear hlen hlst FA hAp
            go_wp2_with (go_at_call 74; refine (SPK.out _).mono ?_; rintro e w' ⟨rfl, rfl⟩)
            refine REC.out.mono ?_
            rintro e w3 ⟨V3, VS3, rfl, hF3, hB3, hK3, hO3, hS3, hR3⟩
            have hnext : ys ++ spk f (zs ++ [(p : Int)]) (d - p) p = xss ++ spkTo f zs d (j + 1) := by
              rw [HY.out, hPTj.out, List.append_assoc]
            rw [hnext] at hF3 hS3 hR3
            have F3 := Lib.hid hF3
            have B3 : Hid (Below B w w3) := Lib.hid (B2.out.trans hB3)
            have K3 : Hid (KeepI (Value.slice (some ⟨g, 0, none⟩) n an2).ownBlock w w3) := Lib.hid ((hKr.out.trans (KeepI.below aB _)).trans (HP2.out.keep w3 hK3))
            have O3 : Hid (w3.ownsRow B 2 1 (.slice (some ⟨g, 0, none⟩) n an2) n (zs.map (Value.int .i64))) := Lib.hid (HP2.out.back w3 hK3 hO3)
            have S3 := Lib.hid hS3
            have R3 : Hid (From w.heap.size xss.length VS (xss ++ spkTo f zs d (j + 1)).length VS3) := Lib.hid (hRr.out.trans hR3 B2.out.size)
            clear hnext hF3 hB3 hK3 hO3 hS3 hR3 REC aB SPK
            go_wp2
            go_roundw
            case rel => exact ⟨j + 1, V3, VS3, by omega, by rw [E2.out]; omega, by omega, by go_num, rfl, F3, B3, K3, O3, S3, R3⟩
            case measure => simp [intOf]; omega
          · have hjc' : j = scnt M := by
              have : ¬ j < scnt M := fun e => hle (hcl.1 e)
              omega
            have hle' : ¬ (p : Int) ≤ (d : Int) := by omega
            have HJ := Lib.hid hjc'
            have HM' := Lib.hid HM.out.symm
            clear hjc' hcl ROOM
            go_wp2_with (go_at_call 74; refine (SPK.out _).mono ?_; rintro e w' ⟨rfl, rfl⟩)
            go_ret
            exact ⟨_, VS', rfl, by rw [HM'.out, ← HJ.out, ← HY.out]; exact hFr.out, hBr.out, hKr.out, hOr.out, by rw [HM'.out, ← HJ.out, ← HY.out]; exact hSr.out, by rw [HM'.out, ← HJ.out, ← HY.out]; exact hRr.out⟩
      · obtain ⟨g, rfl, hl⟩ := hlast hn0
        clear hlast
        have hz0 : (0 : Int) < (n : Int) := by omega
        have hdm' : (most : Int) < (d : Int) := by omega
        go_enter Try.func85, Try.ntmps85
        go_wp2_with fail
        clear hl
        go_loopw [0, 8] (fun a b wr => ∃ (j : Nat) (V' : Value) (VS' : Nat → Value), j ≤ scnt M ∧ sp j ≤ 81 ∧ j ≤ 40 ∧ b = .int .i64 ((j : Int) + 1) ∧ a = V' ∧ Hid (FamL wr B V' VS' (xss ++ spkTo f zs d j)) ∧ Hid (Below B w wr) ∧ Hid (KeepI (Value.slice (some ⟨g, 0, none⟩) n an2).ownBlock w wr) ∧ Hid (wr.ownsRow B 2 1 (.slice (some ⟨g, 0, none⟩) n an2) n (zs.map (Value.int .i64))) ∧ Hid (Sep (xss ++ spkTo f zs d j).length VS') ∧ Hid (From w.heap.size xss.length VS (xss ++ spkTo f zs d j).length VS')) (fun _ b _ => 42 - (intOf b).toNat)
        case atStart => exact ⟨0, V, VS, Nat.zero_le _, by decide, by omega, rfl, rfl, Lib.hid (by rw [spkTo_zero, List.append_nil]; exact HF.out), Lib.hid (Below.refl _ _), Lib.hid (KeepI.refl _ _), HO, Lib.hid (by rw [spkTo_zero, List.append_nil]; exact HSEP.out), Lib.hid (by rw [spkTo_zero, List.append_nil]; exact From.refl _ _ _)⟩
        case round =>
          obtain ⟨j, u0, VS', hjc, hj81, hj40, rfl, rfl, hFr, hBr, hKr, hOr, hSr, hRr⟩ := hrel
          obtain ⟨ys, hys⟩ : ∃ ys, ys = xss ++ spkTo f zs d j := ⟨_, rfl⟩
          rw [← hys] at hFr hSr hRr
          have HY := Lib.hid hys
          clear hys
          have hcl := scnt_lt M j
          have hgt := sp_gt j
          have E2 : Hid (sp (j + 1) = 2 * sp j + 1) := Lib.hid rfl
          have ROOM : Hid (sp j ≤ d → ys.length + 2 ^ (d - sp j) ≤ 2199023255552) := by
            refine Lib.hid fun h => ?_
            have h1 := spkTo_room f zs d j h
            have h2 := HX.out
            rw [HY.out, List.length_append]
            omega
          have hPTj := Lib.hid (hPT.out j)
          have SPK := fun (wx : World) => spike_sp j wx (by omega)
          generalize hpe : sp j = p at *
          have HP := Lib.hid hpe
          have SPK := Lib.hid SPK
          clear hpe
          by_cases hle : p ≤ M
          · have hp2 : p ≤ d := by omega
            have hp3 : p ≤ most := by omega
            have hle1 : (p : Int) ≤ (most : Int) := by omega
            have hle2 : (p : Int) ≤ (d : Int) := by omega
            have hjlt : j < scnt M := hcl.2 hle
            have hxl := ROOM.out hp2
            have HXL := Lib.hid hxl
            have hsz := hBr.out.size
            have OA := Lib.hid (hOr.out.alloc (.cells #[Value.int .i64 (p : Int)] 2))
            have CN : Hid (∀ i u, [Value.int .i64 (p : Int)][i]? = some u → (wr.alloc (.cells #[Value.int .i64 (p : Int)] 2)).cell? ((⟨wr.heap.size, 0, none⟩ : Addr).add i) = some u) := Lib.hid (cell_one_new _ _ _)
            have BA : Hid (B ≤ (wr.alloc (.cells #[Value.int .i64 (p : Int)] 2)).heap.size) := Lib.hid (by simp; omega)
            have hn6 : n ≤ 1000000 := by omega
            clear hcl hxl ROOM
            go_wp2_with (first | (go_at_call 74; refine (SPK.out _).mono ?_; rintro e w' ⟨rfl, rfl⟩) | (at_builtin; refine wpList_append_pushed rfl (.tmp 35) (.tmp 38) rfl B n (.slice (some ⟨g, 0, none⟩) n an2) zs (p : Int) rfl OA.out ⟨wr.heap.size, 0, none⟩ 1 rfl CN.out BA.out hn6 ?_))
            intro v1 w2 hP
            have HP2 := Lib.hid hP
            clear hP OA CN BA
            have aB : Below wr.heap.size wr (wr.alloc (.cells #[Value.int .i64 (p : Int)] 2)) := (Below.refl _ wr).alloc (Nat.le_refl _) _
            have FA : FamL (wr.alloc (.cells #[Value.int .i64 (p : Int)] 2)) B u0 VS' ys := hFr.out.below aB
            have hAp := From.apart hRr.out HO.out HA.out
            have F2 := Lib.hid (HP2.out.fam FA hAp)
            have A2 : Hid (∀ i, i < ys.length → (VS' i).ownBlock = none ∨ (VS' i).ownBlock ≠ v1.ownBlock) := Lib.hid (fun i hi => HP2.out.apart _ _ _ (FA.inn i hi) (hAp i hi))
            have B2 : Hid (Below B w w2) := Lib.hid ((hBr.out.trans (aB.mono (by omega))).trans HP2.out.below)
            have hlen : (zs ++ [(p : Int)]).length = n + 1 := by rw [List.length_append, ← HN.out]; rfl
            have HLEN := Lib.hid hlen
            have hlst : (zs ++ [(p : Int)])[n + 1 - 1]? = some (p : Int) := by
              rw [Nat.add_sub_cancel, HN.out, List.getElem?_append_right (Nat.le_refl _), Nat.sub_self]
              rfl
            have hBw2 : B ≤ w2.heap.size := Nat.le_trans hB B2.out.size
            have REC := Lib.hid (IH.out (zs ++ [(p : Int)]) (d - p) p ys B u0 v1 VS' ((d : Int) - (p : Int)) (n + 1) w2 (by omega) HLEN.out.symm (by omega) (by rw [HLEN.out]; omega) (by omega) (.inr ⟨by omega, hlst⟩) HXL.out HP2.out.own F2.out hSr.out A2.out hBw2)
            clear hlen hlst FA hAp
            go_wp2_with (go_at_call 74; refine (SPK.out _).mono ?_; rintro e w' ⟨rfl, rfl⟩)
            refine REC.out.mono ?_
            rintro e w3 ⟨V3, VS3, rfl, hF3, hB3, hK3, hO3, hS3, hR3⟩
            have hnext : ys ++ spk f (zs ++ [(p : Int)]) (d - p) p = xss ++ spkTo f zs d (j + 1) := by
              rw [HY.out, hPTj.out, List.append_assoc]
            rw [hnext] at hF3 hS3 hR3
            have F3 := Lib.hid hF3
            have B3 : Hid (Below B w w3) := Lib.hid (B2.out.trans hB3)
            have K3 : Hid (KeepI (Value.slice (some ⟨g, 0, none⟩) n an2).ownBlock w w3) := Lib.hid ((hKr.out.trans (KeepI.below aB _)).trans (HP2.out.keep w3 hK3))
            have O3 : Hid (w3.ownsRow B 2 1 (.slice (some ⟨g, 0, none⟩) n an2) n (zs.map (Value.int .i64))) := Lib.hid (HP2.out.back w3 hK3 hO3)
            have S3 := Lib.hid hS3
            have R3 : Hid (From w.heap.size xss.length VS (xss ++ spkTo f zs d (j + 1)).length VS3) := Lib.hid (hRr.out.trans hR3 B2.out.size)
            clear hnext hF3 hB3 hK3 hO3 hS3 hR3 REC aB SPK
            go_wp2
            go_roundw
            case rel => exact ⟨j + 1, V3, VS3, by omega, by rw [E2.out]; omega, by omega, by go_num, rfl, F3, B3, K3, O3, S3, R3⟩
            case measure => simp [intOf]; omega
          · have hjc' : j = scnt M := by
              have : ¬ j < scnt M := fun e => hle (hcl.1 e)
              omega
            have hle' : ¬ (p : Int) ≤ (most : Int) := by omega
            have HJ := Lib.hid hjc'
            have HM' := Lib.hid HM.out.symm
            clear hjc' hcl ROOM
            go_wp2_with (go_at_call 74; refine (SPK.out _).mono ?_; rintro e w' ⟨rfl, rfl⟩)
            go_ret
            exact ⟨_, VS', rfl, by rw [HM'.out, ← HJ.out, ← HY.out]; exact hFr.out, hBr.out, hKr.out, hOr.out, by rw [HM'.out, ← HJ.out, ← HY.out]; exact hSr.out, by rw [HM'.out, ← HJ.out, ← HY.out]; exact hRr.out⟩
end Go.Proofs.Ytfhfnjcfkpcmnaa
