/-
  Joined: HAdI, HKamJ.
-/
import Derived.Test.YtggebkcmokpcmaaZbleMonomials09
import Derived.Deep.LoopGhost
import Derived.WalkMore
import Derived.Deep.RegionHeld3
import Derived.Test.YtggebkcmokpcmaaZBHit42
import Derived.Test.YtggebkcmokpcmaaZBHit02
section
namespace Go.Proofs.Ytggebkcmokpcmaa
open Go.RowKit Go.Proofs.Ytggebkcmokpcmaa.Pl
set_option linter.unusedVariables false
set_option maxRecDepth 100000

theorem grB_imp (R : List (List (List Int))) (x : List Int) (j : Nat) (h : grB R x j = true) : adB R x = true := by
  unfold grB at h
  unfold adB
  rw [List.any_eq_true] at h ⊢
  obtain ⟨r, hr, h2⟩ := h
  exact ⟨r, List.mem_of_mem_take hr, h2⟩

set_option maxHeartbeats 8000000 in
theorem admissible_any (S mv : Value) (zs : RwZ) (L : List (List Int)) (B : Nat) (w : World) (hS : FamY w B S zs) (hm : RdY w mv (L.map pwK)) (hL : ∀ z ∈ L, z.length = 4) (hl : L.length ≤ 100) (hR : ∀ r ∈ rzR zs, r ≠ [] ∧ ∀ z ∈ r, z.length = 4) (hz : zs.length ≤ 1000) :
    Calls Try.prog 54 #[S, mv] w fun e w' => ∃ u, e = .returned u ∧ OwnY w' w.heap.size u ((adL (rzR zs) L).map pwK) ∧ Below w.heap.size w w' := by
  obtain ⟨i0, hi0, hz0, hz1, hz2⟩ := info_parts infoEY
  obtain ⟨sa, scap, rfl, hcs⟩ := hS.head
  obtain ⟨ma, mcap, rfl, hmm, hmc⟩ := hm
  rw [List.length_map] at hmm hmc
  rw [List.length_map]
  have HS := Lib.hid hS
  have HC := Lib.hid hcs
  have HM := Lib.hid hmc
  have HL := Lib.hid hL
  have HR := Lib.hid hR
  have O0 : Hid (OwnY w w.heap.size (.slice none 0 0) ((adL (rzR zs) (L.take 0)).map pwK)) := Lib.hid (World.ownsRow_nil _ _ _ _)
  have B0 := Lib.hid (Below.refl w.heap.size w)
  have RZ : Hid ((rzR zs).length = zs.length) := Lib.hid (rzR_len zs)
  clear hS hcs hmc hL hR hmm
  go_enter Try.func54, Try.ntmps54
  go_wp2_with fail
  go_step3
  go_wp2_with fail
  go_step3
  go_wp2_with fail
  go_loopg [5, 7, 9, 12] L.length (fun g2 F _ _ c wr => ∃ i : Nat, i + g2 = L.length ∧ c = .int .i64 i ∧ Hid (OwnY wr w.heap.size F ((adL (rzR zs) (L.take i)).map pwK)) ∧ Hid (Below w.heap.size w wr))
  case atStart => exact ⟨0, by omega, rfl, O0, B0⟩
  case round =>
    clear O0 B0
    obtain ⟨i, hi, rfl, hO, hB⟩ := hrel
    cases gk with
    | succ g2 =>
      have hlt : i < L.length := by omega
      have hlt' : (i : Int) < (L.length : Int) := by omega
      obtain ⟨b, off, rfl, hbl, hrg⟩ := HM.out.resolve_left (by omega)
      have hrk := hrg i hlt
      rw [List.getElem?_map, List.getElem?_eq_getElem hlt] at hrk
      have x4 := HL.out L[i] (List.getElem_mem hlt)
      have AS := Lib.hid (adL_step (rzR zs) L i hlt)
      have LI : (adL (rzR zs) (L.take i)).length ≤ 100 := by
        have h1 := List.length_filter_le (fun x => !(adB (rzR zs) x)) (L.take i)
        have h2 : (L.take i).length ≤ L.length := by rw [List.length_take]; omega
        unfold adL
        omega
      generalize L[i] = x at *
      have HRW : Hid (wr.rangeAt b (off + i * 4) (pwK x).toList) := Lib.hid fun q u hq => (hB.out.cell (p := ⟨b, off + i * 4 + q, none⟩) hbl).trans (hrk q u hq)
      have SX : Hid ((pwK x).size = 4) := Lib.hid (by rw [pwK_size, x4])
      have ONX : Hid ((pwK x).all (·.oneCell') = true) := Lib.hid (pwK_one x)
      have NX : Hid ((wr.alloc (.cells (pwK x) 71)).rangeAt wr.heap.size 0 (pwK x).toList) := Lib.hid (PwAt.new wr x).range
      have B1 : Hid (Below wr.heap.size wr (wr.alloc (.cells (pwK x) 71))) := Lib.hid ((Below.refl _ _).alloc (Nat.le_refl _) _)
      have X4 := Lib.hid x4
      have hqn : wr.heap.size < (wr.alloc (.cells (pwK x) 71)).heap.size := by rw [World.size_alloc]; omega
      clear hrg hrk x4
      generalize hK : pwK x = K at *
      go_wp2_with (first | (refine ldKY rfl _ rfl b (off + i * 4) rfl K HRW.out SX.out ?_) | (refine stKY wr rfl _ _ rfl rfl K rfl SX.out ONX.out ?_))
      obtain ⟨wo, hwo⟩ : ∃ wo, wo = wr.alloc (.cells K 71) := ⟨_, rfl⟩
      rw [← hwo] at NX B1 hqn ⊢
      have OA := Lib.hid (own_below hO.out B1.out)
      have BA := Lib.hid (hB.out.step1 B1.out)
      clear hO hB HRW ONX B1 hwo
      obtain ⟨wq, hwq⟩ : ∃ wq, wq = wr := ⟨_, rfl⟩
      subst hwq
      have K0 : Hid (Below wo.heap.size wo wo) := Lib.hid (Below.refl _ _)
      have G0 : Hid (grB (rzR zs) x 0 = false) := Lib.hid (by simp [grB])
      go_loopg [9, 18] zs.length (fun g3 _ c wi => ∃ j : Nat, j + g3 = zs.length ∧ c = .int .i64 j ∧ Hid (grB (rzR zs) x j = false) ∧ Hid (Below wo.heap.size wo wi))
      case atStart => exact ⟨0, by omega, rfl, G0, K0⟩
      case round =>
        clear K0 G0
        obtain ⟨j, hj, rfl, hG, hB⟩ := hrel
        cases gk with
        | succ g3 =>
          have hjl : j < zs.length := by omega
          have hjl' : (j : Int) < (zs.length : Int) := by omega
          obtain ⟨g, rfl, hcell⟩ := HC.out.resolve_left (by omega)
          have hcc := hcell j hjl
          have BW := Lib.hid (below_trans BA.out (hB.out.mono BA.out.size))
          have c3 : wr.cell? ⟨g, j, none⟩ = some zs[j].1 := (BW.out.cell (p := ⟨g, j, none⟩) (World.block_lt_of_cell? w _ hcc)).trans hcc
          have hjr : j < (rzR zs).length := by rw [RZ.out]; exact hjl
          have GS := Lib.hid (grB_step (rzR zs) x j hjr)
          have er : (rzR zs)[j] = zs[j].2 := by simp [rzR]
          rw [er] at GS
          have hmem : zs[j].2 ∈ rzR zs := List.mem_map.2 ⟨_, List.getElem_mem hjl, rfl⟩
          obtain ⟨ne, f4⟩ := HR.out _ hmem
          have GR := Lib.hid (fun wx (hb : Below wr.heap.size wr wx) => greatest_any zs[j].1 zs[j].2 ne f4 wx ((rdY_of_own (HS.out.inn _ (List.getElem_mem hjl)) f4).below (BW.out.step1 hb)))
          have PWE := Lib.hid (fun w => pw_eq (lastL zs[j].2) x (f4 _ (lastL_mem ne)) X4.out w)
          rw [hK] at PWE
          obtain ⟨r, hr⟩ : ∃ r, decide (lastL zs[j].2 = x) = r := ⟨_, rfl⟩
          rw [hr] at PWE GS
          have RG : Hid (∀ wx, Below wr.heap.size wr wx → wx.rangeAt wq.heap.size 0 K.toList) := Lib.hid (fun wx hb => fun q u hq => ((hB.out.step1 hb).cell (p := ⟨wq.heap.size, 0 + q, none⟩) hqn).trans (NX.out q u hq))
          clear hcell hcc er hmem ne f4 hjr hr
          generalize pwK (lastL zs[j].2) = K1 at *
          generalize zs[j].1 = ov at *
          obtain ⟨x0, x1, x2, x3, ex⟩ : ∃ x0 x1 x2 x3, x = [x0, x1, x2, x3] := by
            have h4 := X4.out
            match x, h4 with
            | [x0, x1, x2, x3], _ => exact ⟨x0, x1, x2, x3, rfl⟩
          have eK : K = #[.int .i64 x0, .int .i64 x1, .int .i64 x2, .int .i64 x3] := by rw [← hK, ex]; rfl
          have KEEP : Hid (∀ wx, Below wr.heap.size wr wx → (wx.cell? ⟨wq.heap.size, 0, none⟩ = some (.int .i64 x0) ∧ wx.cell? ⟨wq.heap.size, 1, none⟩ = some (.int .i64 x1) ∧ wx.cell? ⟨wq.heap.size, 2, none⟩ = some (.int .i64 x2) ∧ wx.cell? ⟨wq.heap.size, 3, none⟩ = some (.int .i64 x3) ∧ Below wr.heap.size wr wx)) := Lib.hid (fun wx hb => by
            have h1 := RG.out wx hb
            rw [eK] at h1
            exact ⟨h1 0 _ rfl, h1 1 _ rfl, h1 2 _ rfl, h1 3 _ rfl, hb⟩)
          rw [eK] at PWE
          have EQ2 := PWE.out
          clear ex eK RG PWE
          have AT := Lib.hid (grB_imp (rzR zs) x (j + 1))
          have GN : Hid (grB (rzR zs) x (j + 1) = r) := Lib.hid (by rw [GS.out, hG.out]; rfl)
          go_wp2_with fail
          go_region_held3 (fun wx => wx.cell? ⟨wq.heap.size, 0, none⟩ = some (.int .i64 x0) ∧ wx.cell? ⟨wq.heap.size, 1, none⟩ = some (.int .i64 x1) ∧ wx.cell? ⟨wq.heap.size, 2, none⟩ = some (.int .i64 x2) ∧ wx.cell? ⟨wq.heap.size, 3, none⟩ = some (.int .i64 x3) ∧ Below wr.heap.size wr wx)
            (first | exact KEEP.out _ (Below.refl _ _).drew | exact KEEP.out _ (by assumption))
            (first | (go_at_call 78; refine (GR.out _ (Below.refl _ _).drew).mono ?_; rintro e w5 ⟨rfl, b5⟩; have z5 := belD1 b5))
          cases r with
          | true =>
            have AS2 : Hid (adL (rzR zs) (L.take (i + 1)) = adL (rzR zs) (L.take i)) := Lib.hid (by rw [AS.out, AT.out GN.out]; simp)
            have O5 := Lib.hid (own_below OA.out (hB.out.step1 z5))
            rw [← AS2.out] at O5
            have B5 := Lib.hid (below_trans BA.out ((hB.out.step1 z5).mono BA.out.size))
            clear z5 b5 KEEP GR
            go_wp2_with fail
            go_roundg g2
            case rel => exact ⟨i + 1, by omega, by go_num, O5, B5⟩
            case measure => omega
          | false =>
            have B5 := Lib.hid (hB.out.step1 z5)
            clear z5 b5 KEEP GR
            go_wp2_with fail
            go_roundg g3
            case rel => exact ⟨j + 1, by omega, by go_num, GN, B5⟩
            case measure => omega
        | zero =>
          have hje : j = zs.length := by omega
          have AF : adB (rzR zs) x = false := by
            have h1 := hG.out
            rw [hje, ← RZ.out, grB_all] at h1
            exact h1
          have AS2 : Hid (adL (rzR zs) (L.take (i + 1)) = adL (rzR zs) (L.take i) ++ [x]) := Lib.hid (by rw [AS.out, AF]; simp)
          have hjl' : ¬ ((j : Int) < (zs.length : Int)) := by omega
          have b1 : Below wr.heap.size wr (wr.alloc (.cells K 71)) := (Below.refl _ _).alloc (Nat.le_refl _) _
          have RG : Hid (wr.rangeAt wq.heap.size 0 K.toList) := Lib.hid (fun q u hq => (hB.out.cell (p := ⟨wq.heap.size, 0 + q, none⟩) hqn).trans (NX.out q u hq))
          have BS : ∀ w, (Instr.buildSlice 53 1 #[(0, .agg K)]).run Try.prog w = .ok (.slice (some ⟨w.heap.size, 0, none⟩) 1 1) (w.alloc (.cells K 71)) := fun w => by rw [← hK]; exact bsRunYK w x X4.out
          have OO := Lib.hid (own_below (own_below OA.out hB.out) b1)
          rw [List.length_map] at OO
          have CN : Hid (∀ j u, K.toList[j]? = some u → (wr.alloc (.cells K 71)).cell? ((⟨wr.heap.size, 0, none⟩ : Addr).add j) = some u) := Lib.hid (fun j u hu => by
            rw [Addr.add_mid, Nat.zero_add, cell_of_row _ wr.heap.size j _ _ (0, 0) (heap_alloc_new wr _)]
            simpa using hu)
          have O1 : Hid (∀ u ∈ K.toList, u.oneCell' = true) := Lib.hid (fun u hu => by
            have := pwK_one x
            rw [hK, Array.all_eq_true'] at this
            exact this u (by simpa using hu))
          have K4 : K.toList.length = 1 * 4 := by rw [Array.length_toList, SX.out]
          have BWR := Lib.hid (below_trans BA.out (hB.out.mono BA.out.size))
          have SZ : Hid (w.heap.size ≤ (wr.alloc (.cells K 71)).heap.size) := Lib.hid (Nat.le_trans BWR.out.size b1.size)
          have PU : Hid (∀ S5 w5, w5.ownsRow w.heap.size 71 4 S5 ((adL (rzR zs) (L.take i)).length + 1) (((adL (rzR zs) (L.take i)).map pwK).flatMap Array.toList ++ K.toList) → (wr.alloc (.cells K 71)).grownBy w5 u5.ownBlock → OwnY w5 w.heap.size S5 ((adL (rzR zs) (L.take (i + 1))).map pwK) ∧ Below w.heap.size w w5) := Lib.hid (fun S5 w5 ho hg => by
            refine ⟨?_, ?_⟩
            · rw [AS2.out]
              refine ownY_snoc (z := x) ?_
              rw [hK]
              exact ho
            · exact below_trans (BWR.out.step1 b1) (grown_below (BWR.out.step1 b1).size OO.out hg))
          clear OA BA hB b1 AF BWR
          go_wp2_with (first | (refine ldKY rfl _ rfl wq.heap.size 0 rfl K RG.out SX.out ?_) | (refine bsKY _ rfl _ rfl K rfl (BS _) ?_) | (at_builtin; refine wpList_append_own _ rfl _ _ 53 rfl w.heap.size 71 i0 (.agg #[Value.int .i64 0, Value.int .i64 0, Value.int .i64 0, Value.int .i64 0]) 4 32 Try.underlying53 hi0 hz0 hz1 hz2 rfl (by decide) _ _ _ rfl OO.out ⟨wr.heap.size, 0, none⟩ 1 1 K.toList rfl K4 CN.out O1.out (by unfold maxLen; omega) (by omega) SZ.out ?_; intro S5 w5 hown5 hgrow5 _; have J5 := Lib.hid (PU.out S5 w5 hown5 hgrow5); clear hown5 hgrow5))
          go_roundg g2
          case rel => exact ⟨i + 1, by omega, by go_num, Lib.hid J5.out.1, Lib.hid J5.out.2⟩
          case measure => omega
    | zero =>
      obtain rfl : i = L.length := by omega
      rw [List.take_length] at hO
      go_wp2_with fail
      try rw [Exit.noGoto_ret]
      go_ret
      exact ⟨_, rfl, hO.out, hB.out⟩
end Go.Proofs.Ytggebkcmokpcmaa
end
section
namespace Go.Proofs.Ytggebkcmokpcmaa.Pl
open Go.RowKit
set_option linter.unusedVariables false
set_option maxRecDepth 100000

def upG (xs : List Int) (j : Nat) : Int := upE (xs[j]?.getD 0)
theorem upG_all (xs : List Int) : cpy (upG xs) xs.length xs.length = upL xs := cpy_of upE xs

set_option maxHeartbeats 4000000 in
theorem implKamUp_ok (x : Int) (k0 : Int) (a0 : Option Addr) (m q0 : Nat) (X : Nat → List Int) (w : World) (hx : 0 ≤ x ∧ x ≤ 40) (hk : 1 ≤ k0 ∧ k0 ≤ 4) (hov : 2 * x + k0 ≤ 40) (hm : m ≤ 2000) (h : RdSS w (.slice a0 m q0) m X) (hX : ∀ i, i < m → (X i).length ≤ 4 ∧ ∀ z ∈ X i, 0 ≤ z ∧ z ≤ 40)
    (IS : Hid (∀ wx, Below w.heap.size w wx → Calls Try.prog 57 #[.agg #[.int .i64 k0, .slice a0 m q0]] wx (SaysB true wx))) (DX : Hid (DegPM w k0 a0 m q0 x)) :
    Calls Try.prog 41 #[.agg #[.int .i64 k0, .slice a0 m q0]] w (ResY k0 ((rowsL X m).map upL) 0 w) := by
  have hw1' : wrap64 (2 * x) = 2 * x := wrap_sm (by omega) (by omega)
  have hw2' : wrap64 (2 * x + k0) = 2 * x + k0 := wrap_sm (by omega) (by omega)
  have hw3' : IntKind.i64.wrap (2 * x) = 2 * x := by rw [IntKind.wrap_i64]; omega
  have hw4' : IntKind.i64.wrap (2 * x + k0) = 2 * x + k0 := by rw [IntKind.wrap_i64]; omega
  have hov2 : decide (40 < 2 * x + k0) = false := decide_eq_false (by omega)
  have hov3 : ¬ 40 < 2 * x + k0 := by omega
  clear hx hk hov
  have t2 := Try.underlying31
  obtain ⟨i0, hi0, hz0, hz1, hz2⟩ := info_parts Try.info2
  obtain ⟨i1, hj1, hy0, hy1, hy2⟩ := info_parts Try.infoS
  have HX := Lib.hid hX
  obtain ⟨_, hsm, VS, hc, hr⟩ := h
  have HC := Lib.hid hc
  have HR := Lib.hid hr
  obtain ⟨w1, hw1⟩ : ∃ w1, w1 = ((w.alloc (.cells #[.int .i64 k0, .slice a0 m q0] 31)).alloc (.cells #[.int .i64 0, .slice none 0 0] 31)) := ⟨_, rfl⟩
  have S1 : Hid (Bx2Q w k0 (.slice a0 m q0) w1) := Lib.hid (by rw [hw1]; exact Bx2Q.start _ _ _)
  clear hX hc hr hsm
  have d0 := S1.out.boxA.c0
  have d1 := S1.out.boxA.c1
  go_enter Try.func41, Try.ntmps41
  go_upto_region 1 with fail
  rw [← hw1]
  clear hw1
  go_wp2_with fail
  refine (IS.out w1 S1.out.bel).mono ?_
  rintro e w2 ⟨rfl, b2⟩
  have S2 := Lib.hid (S1.out.up b2)
  clear b2 S1 d0 d1
  have KEEP : Hid (∀ wx, Below w2.heap.size w2 wx → (wx.cell? ⟨w.heap.size, 0, none⟩ = some (.int .i64 k0) ∧ wx.cell? ⟨w.heap.size, 1, none⟩ = some (.slice a0 m q0) ∧ Below w2.heap.size w2 wx)) :=
    Lib.hid (fun wx hb => ⟨(S2.out.boxA.up hb).c0, (S2.out.boxA.up hb).c1, hb⟩)
  have D2 : Hid (∀ wx, Below w2.heap.size w2 wx → Calls Try.prog 58 #[.agg #[.int .i64 k0, .slice a0 m q0]] wx fun e w' => e = .returned (.int .i64 x) ∧ Below wx.heap.size wx w') := Lib.hid (fun wx hb => DX.out wx (S2.out.bel.step1 hb))
  go_wp2_with fail
  go_region_held3 (fun wx => wx.cell? ⟨w.heap.size, 0, none⟩ = some (.int .i64 k0) ∧ wx.cell? ⟨w.heap.size, 1, none⟩ = some (.slice a0 m q0) ∧ Below w2.heap.size w2 wx)
    (first | exact KEEP.out _ (Below.refl _ _).drew | exact KEEP.out _ (by assumption))
    (first | (go_at_call 58; refine (D2.out _ (Below.refl _ _).drew).mono ?_; rintro e w3 ⟨rfl, b3⟩; have z3 := belD1 b3))
  have S3 := Lib.hid (S2.out.up z3)
  clear z3 b3 KEEP D2 S2
  have d0 := S3.out.boxA.c0
  have d1 := S3.out.boxA.c1
  have I0 : Hid (KmI w w3.heap.size k0 (.slice a0 m q0) (.slice none 0 0) (fun _ => undef) ((rowsL X 0).map upL) (w3.alloc (.cells #[.int .i64 k0, .slice none 0 0] 31))) := Lib.hid (bx3_start S3.out)
  have I0' := Lib.hid (I0.out.bx.boxA.c1)
  clear S3
  go_upto_region 6 with fail
  generalize w3.heap.size = g at *
  generalize (w3.alloc (.cells #[.int .i64 k0, .slice none 0 0] 31)) = w4 at *
  clear d0 d1
  have d1 := I0'.out
  go_wp2_with fail
  clear d1 I0'
  go_loopw [6, 7, 8, 9, 28] (fun _ _ _ _ c wr => ∃ (i : Nat) (S : Value) (US : Nat → Value), i ≤ m ∧ c = .int .i64 i ∧ Hid (KmI w g k0 (.slice a0 m q0) S US ((rowsL X i).map upL) wr)) (fun _ _ _ _ c _ => m - (intOf c).toNat)
  case atStart => exact ⟨0, _, _, by omega, rfl, I0⟩
  case round =>
    clear I0
    obtain ⟨i, S, US, hi, rfl, hJ⟩ := hrel
    by_cases hlt : i < m
    · have hlt' : (i : Int) < (m : Int) := by omega
      obtain ⟨b, off, ⟨cap', e⟩, hc'⟩ := HC.out.resolve_left (by omega)
      cases e
      have hcb := hc' i hlt
      obtain ⟨ai, ci, evi, hmi, hci⟩ := HR.out i hlt
      rw [evi] at hcb
      have c1 : wr.cell? ⟨b, off + i, none⟩ = some (.slice ai (X i).length ci) := (hJ.out.bx.bel.cell (p := ⟨b, off + i, none⟩) (World.block_lt_of_cell? w _ hcb)).trans hcb
      have HCI := Lib.hid hci
      have HXI := Lib.hid (HX.out i hlt)
      have NXT : Hid ((rowsL X (i + 1)).map upL = (rowsL X i).map upL ++ [upL (X i)]) := Lib.hid (by rw [rowsL_succ, List.map_append]; rfl)
      have LI : Hid (((rowsL X i).map upL).length ≤ 2000) := Lib.hid (by rw [List.length_map, rowsL_len]; omega)
      have hl4 := HXI.out.1
      generalize (rowsL X i).map upL = L at *
      clear hc' hcb hci evi
      generalize X i = xs at *
      go_upto_region 10 with (at_make; refine wpList_make_full _ rfl _ _ 42 rfl wr.heap.size 2 i0 (.int .i64 0) 1 Try.underlying42 hi0 hz0 hz1 .i64 .i64 (xs.length : Int) (xs.length : Int) xs.length rfl rfl rfl rfl (by rw [hz2]; omega) (by unfold maxLen; omega) (Nat.le_refl _) ?_; intro w5 hown hgrow; rw [made_list0, ← cpy_zero (upG xs) xs.length] at hown; have H5 := Lib.hid hown; have G5 := Lib.hid hgrow; clear hown hgrow)
      have B5 : Hid (Below wr.heap.size wr w5) := Lib.hid ((Below.refl wr.heap.size wr).grown G5.out (Nat.le_refl _) (by intro q hq; cases hq))
      clear G5 c1
      go_wp2_with fail
      obtain ⟨wo, hwo⟩ : ∃ wo, wo = wr := ⟨_, rfl⟩
      subst hwo
      go_loopw [8, 9, 37] (fun _ _ c wi => ∃ k : Nat, k ≤ xs.length ∧ c = .int .i64 k ∧ Hid (wi.ownsRow wo.heap.size 2 1 (.slice (some ⟨wo.heap.size, 0, none⟩) xs.length xs.length) xs.length ((cpy (upG xs) xs.length k).map (Value.int .i64))) ∧ Hid (Below wo.heap.size wo wi)) (fun _ _ c _ => xs.length - (intOf c).toNat)
      case atStart => exact ⟨0, by omega, rfl, H5, B5⟩
      case round =>
        clear H5 B5
        obtain ⟨k, hk5, rfl, hO, hB⟩ := hrel
        by_cases hkl : k < xs.length
        · have hkl' : (k : Int) < (xs.length : Int) := by omega
          obtain ⟨b2, off2, rfl, hc2⟩ := HCI.out.resolve_left (by omega)
          have J5 := hJ.out.up hB.out
          have c2 : wr.cell? ⟨b2, off2 + k, none⟩ = some (.int .i64 xs[k]) := by
            have := hc2 k hkl
            rw [List.getElem?_eq_getElem hkl, Option.getD_some] at this
            exact (J5.bx.bel.cell (p := ⟨b2, off2 + k, none⟩) (World.block_lt_of_cell? w _ this)).trans this
          have c6 := hO.out.cellAt k (by omega)
          have hck : ((cpy (upG xs) xs.length k).map (Value.int .i64))[k]? = some (.int .i64 0) := by simp [cpy, hkl]
          rw [hck] at c6
          have f6 := World.ownsRow.frozenAt hO.out k
          have ST := hO.out.stored k (.int .i64 (2 * xs[k] + 1))
          have SX : ((cpy (upG xs) xs.length k).map (Value.int .i64)).set k (.int .i64 (2 * xs[k] + 1)) = (cpy (upG xs) xs.length (k + 1)).map (Value.int .i64) := by
            rw [← cpy_set, ← List.map_set]
            congr 2
            unfold upG upE
            rw [List.getElem?_eq_getElem hkl, Option.getD_some]
          rw [SX] at ST
          have S1 := Lib.hid ST.1
          have S2 : Hid (Below wo.heap.size wo (wr.setCell ⟨wo.heap.size, k, none⟩ (.int .i64 (2 * xs[k] + 1)))) := Lib.hid (hB.out.setCell (p := ⟨wo.heap.size, k, none⟩) (Nat.le_refl _) _)
          have hb := HXI.out.2 xs[k] (List.getElem_mem hkl)
          generalize xs[k] = y at *
          have hy1 : wrap64 (2 * y) = 2 * y := wrap_sm (by omega) (by omega)
          have hy2 : wrap64 (2 * y + 1) = 2 * y + 1 := wrap_sm (by omega) (by omega)
          clear hc2 J5 ST SX hck
          go_wp2_with fail
          go_roundw
          case rel => exact ⟨k + 1, by omega, by go_num, S1, S2⟩
          case measure => simp [intOf]; omega
        · obtain rfl : k = xs.length := by omega
          have J5 := Lib.hid (hJ.out.up hB.out)
          have d1 := J5.out.bD.c1
          have f1 := J5.out.bD.fr 1
          obtain ⟨sa, sc, eS, _⟩ := Fam.head J5.out.fam
          subst eS
          have HV : Hid (wr.ownsRow wo.heap.size 2 1 (.slice (some ⟨wo.heap.size, 0, none⟩) xs.length xs.length) (upL xs).length ((upL xs).map (Value.int .i64))) := Lib.hid (by have := hO.out; rw [upG_all] at this; rw [upL_len]; exact this)
          have PU := Lib.hid (fun V8 w8 ho hg => KmI.push (x := upL xs) (V8 := V8) (w8 := w8) hJ.out hB.out HV.out (.cells #[.slice (some ⟨wo.heap.size, 0, none⟩) xs.length xs.length] 42) ho hg)
          have E0 := J5.out.ge
          have E1 := Lib.hid (cell_one_new wr (Value.slice (some ⟨wo.heap.size, 0, none⟩) xs.length xs.length) 42)
          have F3A := Lib.hid (J5.out.fam.out.alloc (.cells #[Value.slice (some ⟨wo.heap.size, 0, none⟩) xs.length xs.length] 42))
          have li := LI.out
          clear hO HV hJ hB J5
          go_wp2_with (at_builtin; refine wpList_append_own _ rfl _ _ 25 rfl (g + 1) 42 i1 (.slice none 0 0) 1 24 Try.underlying25 hj1 hy0 hy1 hy2 rfl (by decide) _ _ _ rfl F3A.out ⟨wr.heap.size, 0, none⟩ 1 1 [.slice (some ⟨wo.heap.size, 0, none⟩) xs.length xs.length] rfl rfl E1.out ?c2 ?c3 ?c4 ?c5 ?_)
          case c2 => intro u hu; rw [List.mem_singleton.1 hu]; rfl
          case c3 => unfold maxLen; omega
          case c4 => omega
          case c5 => simp; omega
          intro V8 w8 ho8 hg8 _
          have PP := Lib.hid (PU.out V8 w8 ho8 hg8)
          obtain ⟨a8, c8, e8⟩ := own_shape4 ho8
          subst e8
          have x8 := PP.out.1.c1
          have g8 := PP.out.1.fr 1
          have D9 := Lib.hid PP.out.2
          rw [← NXT.out] at D9
          clear PP PU ho8 hg8 E1 F3A d1 f1
          go_wp2_with fail
          go_roundw
          case rel => exact ⟨i + 1, _, _, by omega, by go_num, D9⟩
          case measure => simp [intOf]; omega
    · obtain rfl : i = m := by omega
      generalize (rowsL X i).map upL = M at *
      obtain ⟨sa, sc, eS, _⟩ := Fam.head hJ.out.fam
      subst eS
      have e0 := hJ.out.bD.c0
      have e1 := hJ.out.bD.c1
      have r0 := hJ.out.bx.boxR.c0
      have r1 := hJ.out.bx.boxR.c1
      have f0 := hJ.out.bx.boxR.fr 0
      have f1 := hJ.out.bx.boxR.fr 1
      have FIN := Lib.hid (okEndQ (C := k0) hJ.out.bx (Below.refl _ _) (hJ.out.fam.base (B' := w.heap.size) (by have := hJ.out.lo; omega)) hJ.out.sep 0)
      clear hJ
      go_wp2_with fail
      refine bodyPost_ret (results_box2_tmp rfl _ _ (w.heap.size + 1) _ _ _ rfl FIN.out.1 t2 (by kernel_rfl)) rfl ?_
      exact FIN.out.2
end Go.Proofs.Ytggebkcmokpcmaa.Pl
end
