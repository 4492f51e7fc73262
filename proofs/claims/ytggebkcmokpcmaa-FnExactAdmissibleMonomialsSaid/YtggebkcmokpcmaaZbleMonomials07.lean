/-
  Joined: HSpC.
-/
import Derived.Test.YtggebkcmokpcmaaZbleMonomials05
section
namespace Go.Proofs.Ytggebkcmokpcmaa
open Go.RowKit Go.Proofs.Ytggebkcmokpcmaa.Pl Go.Proofs.Ytggebkcmokpcmaa.Ml
set_option linter.unusedVariables false
set_option maxRecDepth 100000

theorem infoR1 : (Try.prog.info? 25).map (fun i => (i.zero, i.size, i.bytes)) = some (some (.slice none 0 0), 1, 24) := by kernel_rfl
def RowsPost (R : List (List (List Int))) (w : World) (e : Ending) (w' : World) : Prop := ∃ V zs, e = .returned V ∧ FamR w' V zs ∧ rzR zs = R ∧ Below w.heap.size w w'

set_option maxHeartbeats 8000000 in
theorem l09Rows_any (f d : Nat) (k : Int) (hf : f < 4) (hk : k = (f : Int) + 1) (hd : d ≤ 40) (hc : cn f d ≤ 100) (w : World) :
    Calls Try.prog 43 #[.int .i64 k, .int .i64 (d : Int)] w (RowsPost (hitR f d) w) := by
  obtain ⟨i1, hj1, hy0, hy1, hy2⟩ := info_parts infoR1
  have HOK := Lib.hid (fun j => hitTo_ok hf hd hc j)
  have SP := Lib.hid (SmP_tm (d := d) hf hc)
  have HF := Lib.hid hf
  have HK := Lib.hid hk
  have HC := Lib.hid hc
  have J0 : Hid (RwJ w (.slice (some ⟨w.heap.size, 0, none⟩) 0 0) [] (hitTo f d 0) (w.alloc (.cells #[] 25))) := Lib.hid (RwJ.start w)
  clear hf hk hc
  go_enter Try.func43, Try.ntmps43
  go_wp2_with fail
  go_loopw [5, 6, 7, 8, 9, 10, 11] (fun R c _ _ _ _ _ wr => ∃ (j : Nat) (zs : RwZ), j ≤ 6 ∧ c = .int .i64 ((2 ^ j : Nat) : Int) ∧ Hid (RwJ w R zs (hitTo f d j) wr)) (fun _ c _ _ _ _ _ _ => 100 - (intOf c).toNat)
  case atStart => exact ⟨0, [], by omega, rfl, J0⟩
  case round =>
    clear J0
    obtain ⟨j, zs, hj, rfl, hJ⟩ := hrel
    have hp1 : 1 ≤ 2 ^ j := Nat.one_le_two_pow
    have hp6 : 2 ^ j ≤ 64 := Nat.le_trans (Nat.pow_le_pow_right (by decide) hj) (by decide)
    have NXP : Hid (2 ^ (j + 1) = 2 * 2 ^ j) := Lib.hid (by rw [Nat.pow_succ]; omega)
    have END := Lib.hid (fun (h : d < 2 ^ j) => hitTo_end f d j h hj)
    have NXH : Hid (2 ^ j ≤ d → hitTo f d (j + 1) = hitM (2 ^ j) (hitTo f d j) (ms f (d - 2 ^ j) [])) := Lib.hid (fun h => by rw [hitTo, if_pos h])
    have ROK := Lib.hid (HOK.out j)
    have hj9 : d < 2 ^ 6 := Nat.lt_of_le_of_lt hd (by decide)
    have J6 : Hid (2 ^ j ≤ d → j + 1 ≤ 6) := Lib.hid (fun h => by
      apply Decidable.byContradiction; intro hc
      have : j = 6 := by omega
      subst this
      omega)
    clear hj9
    generalize hitTo f d j = R0 at *
    generalize 2 ^ j = n at *
    by_cases hnd : n ≤ d
    · obtain ⟨e, he⟩ : ∃ e, e + n = d := ⟨d - n, by omega⟩
      have ee : d - n = e := by omega
      rw [ee] at NXH
      have hle : (n : Int) ≤ (d : Int) := by omega
      have hsub : (d : Int) - (n : Int) = (e : Int) := by omega
      have hw1 : wrap64 ((d : Int) - (n : Int)) = (e : Int) := by rw [wrap_sm (by omega) (by omega), hsub]
      have ALL := Lib.hid (fun wx => l08All_any f e k ((d : Int) - (n : Int)) wx HK.out hsub (by have := HF.out; omega) (by omega))
      have HAT := Lib.hid (fun t => hitM_at HF.out he hd R0 ROK.out.1 t)
      have SQO := Lib.hid (fun m (hm : m ∈ ms f e []) => sqM_ok HF.out he hd hm)
      have MSL : Hid ((ms f e []).length ≤ 100) := Lib.hid (by
        rw [ms_cn]
        have := cn_mono f HF.out d (by omega) n
        rw [ee] at this
        have := HC.out
        omega)
      have MTM := Lib.hid (fun m (hm : m ∈ ms f e []) => ms_tm HF.out hm)
      have NX1 := Lib.hid (NXH.out hnd)
      have J7 := Lib.hid (J6.out hnd)
      have r0l := Nat.le_trans ROK.out.2 (Nat.mul_le_mul_right 100 hj)
      clear hsub NXH J6 END ROK hnd
      generalize ms f e [] = L at *
      go_wp2_with fail
      refine (ALL.out _).mono ?_
      rintro e2 w2 ⟨LV, LS, rfl, fl, bl⟩
      obtain ⟨la, lc, rfl, _, hlc⟩ := fl.head
      have FL := Lib.hid fl
      have B2 := Lib.hid bl
      have I0 : Hid (RwJ w u5 zs (hitM n R0 (L.take 0)) w2) := Lib.hid (by rw [List.take_zero, hitM_nil]; exact hJ.out.up bl)
      have HLC := Lib.hid hlc
      clear fl bl hJ ALL hlc
      go_wp2_with fail
      go_loopw [5, 8, 9, 10, 11] (fun R c _ _ _ wr => ∃ (t : Nat) (zs : RwZ), t ≤ L.length ∧ c = .int .i64 t ∧ Hid (RwJ w R zs (hitM n R0 (L.take t)) wr) ∧ Hid (Below w2.heap.size w2 wr)) (fun _ c _ _ _ _ => L.length - (intOf c).toNat)
      case atStart => exact ⟨0, zs, by omega, rfl, I0, Lib.hid (Below.refl _ _)⟩
      case round =>
        clear I0
        obtain ⟨t, zs, ht, rfl, hJ, hB⟩ := hrel
        have tl := MSL.out
        by_cases htl : t < L.length
        · have htl' : (t : Int) < (L.length : Int) := by omega
          obtain ⟨lb, rfl, hcs⟩ := HLC.out.resolve_left (by omega)
          have hmm : L[t] ∈ L := List.getElem_mem htl
          have c1 : wr.cell? ⟨lb, t, none⟩ = some (LS t) := (hB.out.cell (p := ⟨lb, t, none⟩) (World.block_lt_of_cell? w2 _ (hcs t htl))).trans (hcs t htl)
          have ol := (FL.out.inn t htl)
          have em : rowsOf L t = L[t] := by unfold rowsOf; rw [List.getElem?_eq_getElem htl]; rfl
          rw [em] at ol
          have hrow := MTM.out _ hmm
          obtain ⟨sq1, sq2⟩ := SQO.out _ hmm
          obtain ⟨hr1, hr2⟩ := HAT.out t
          have NXT : Hid (hitM n R0 (L.take (t + 1)) = withR (hitM n R0 (L.take t)) (oddY (sqAll [L[t]] n))) := Lib.hid (by rw [List.take_add_one, List.getElem?_eq_getElem htl, Option.toList_some, hitM_snoc])
          generalize L[t] = m at *
          obtain ⟨lv, hlv⟩ : ∃ lv, LS t = lv := ⟨_, rfl⟩
          rw [hlv] at c1 ol
          obtain ⟨ma, mcap, rfl, _⟩ := own_len ol
          have OL := Lib.hid (own_below ol hB.out)
          have SM : Hid (∀ v, wr.ownsRow w2.heap.size 2 1 v m.length (m.map (Value.int .i64)) → True) := Lib.hid (fun _ _ => trivial)
          have RI := Lib.hid hr1
          have zb : zs.length ≤ 1000 := by have := hJ.out.len; have := MSL.out; omega
          have SQ : Hid (Calls Try.prog 71 #[.slice (some ⟨wr.heap.size, 0, none⟩) 1 1, .int .i64 (n : Int)] (wr.alloc (.cells #[.slice ma m.length mcap] 42)) (LPostY (oddY (sqAll [m] n)) (wr.alloc (.cells #[.slice ma m.length mcap] 42)))) := Lib.hid (by
            have f1 : FamL (wr.alloc (.cells #[.slice ma m.length mcap] 42)) 0 (.slice (some ⟨wr.heap.size, 0, none⟩) 1 1) (fun _ => .slice ma m.length mcap) [m] := fam_one (own_base OL.out (Nat.zero_le _)) (Nat.zero_le _)
            have := l08Square_any _ 1 (fun _ => .slice ma m.length mcap) 0 (rowsOf [m]) n _ f1 (fun k hk => by
              obtain rfl : k = 0 := by omega
              exact ⟨by have := hrow.1; have := HF.out; show m.length ≤ 4; omega, small_of_mono hrow.2 (by omega)⟩) (by omega) (by omega)
            have e1 : rowsL (rowsOf [m]) 1 = [m] := rowsL_ofR [m]
            rw [e1] at this
            exact this)
          have SQK := Lib.hid (OkT.mk sq1 sq2)
          have SQE := Lib.hid sq1
          clear hcs ol em hlv hrow hmm sq1 sq2 SM hr1
          generalize oddY (sqAll [m] n) = q at *
          go_wp2_with fail
          refine SQ.out.mono ?_
          rintro e3 w3 ⟨qv, QS, rfl, fq, _, bq⟩
          have B3 := Lib.hid (Below.step1 ((Below.refl wr.heap.size wr).alloc (Nat.le_refl _) (.cells #[.slice ma m.length mcap] 42)) bq)
          have J3 := Lib.hid (hJ.out.up B3.out)
          have RW := Lib.hid (l09Row_any (TmP f d) u5 qv zs q QS w3 SP.out J3.out.fam (fq.base (Nat.zero_le _)) (by rw [J3.out.eq]; exact RI.out) SQK.out zb)
          rw [J3.out.eq] at RW
          clear fq bq SQ c1
          go_wp2_with fail
          refine RW.out.mono ?_
          rintro e4 w4 ⟨xv, XS, rfl, fx, bx⟩
          have J4 := Lib.hid (J3.out.up bx)
          have B4 := Lib.hid ((hB.out.step1 B3.out).step1 bx)
          have FX := Lib.hid fx
          obtain ⟨xa, xc, rfl, _⟩ := fx.head
          have XOK := SQK.out.remAll RI.out
          have XL := SP.out.1 _ XOK
          have WQ : Hid (remR (hitM n R0 (L.take t)) q = [] → withR (hitM n R0 (L.take t)) q = hitM n R0 (L.take t)) := Lib.hid (fun h => if_pos h)
          have WI : Hid (remR (hitM n R0 (L.take t)) q ≠ [] → withR (hitM n R0 (L.take t)) q = insR (hitM n R0 (L.take t)) (remR (hitM n R0 (L.take t)) q)) := Lib.hid (fun h => if_neg h)
          clear SQK XOK J3 B3 RW
          generalize remR (hitM n R0 (L.take t)) q = x at *
          by_cases hx0 : x = []
          · have J9 : Hid (RwJ w u5 zs (hitM n R0 (L.take (t + 1))) w4) := Lib.hid (by rw [NXT.out, WQ.out hx0]; exact J4.out)
            subst hx0
            clear J4 NXT WQ WI RI FX hJ hB fx bx
            go_wp2_with fail
            go_roundw
            case rel => exact ⟨t + 1, zs, by omega, by go_num, J9, B4⟩
            case measure => simp [intOf]; omega
          · have NX9 : Hid (hitM n R0 (L.take (t + 1)) = insR (rzR zs) x) := Lib.hid (by rw [NXT.out, WI.out hx0, J4.out.eq])
            obtain ⟨xb, xc2, p, xu, exv, hp, hpe, c2, RL⟩ := fam_last FX.out hx0 XL
            cases exv
            have hz : ((x.length : Int) == 0) = false := by rw [beq_eq_false_iff_ne]; omega
            have hwp : wrap64 ((x.length : Int) - 1) = (p : Int) := by rw [wrap_sm (by omega) (by omega), hpe]
            have hpl : (p : Int) < (x.length : Int) := by omega
            have hwq : IntKind.i64.wrap ((x.length : Int) - 1) = (p : Int) := by rw [IntKind.wrap_i64, hpe]; omega
            have ROWS : Hid (RowsOk (TmP f d) (rzR zs)) := Lib.hid (by rw [J4.out.eq]; exact RI.out)
            have RL9 := Lib.hid RL
            obtain ⟨g, cap, e5, hcap⟩ := J4.out.fam.head
            subst e5
            clear NXT WQ WI RI hJ hB fx bx RL hpe
            go_wp2_with fail
            go_loopw [10] (fun c wi => ∃ a q : Nat, a ≤ plcR (rzR zs) (lastL x) ∧ c = .int .i64 a ∧ Hid (wi = w4.drewN q)) (fun c _ => zs.length + 1 - (intOf c).toNat)
            case atStart => exact ⟨0, 0, Nat.zero_le _, rfl, Lib.hid rfl⟩
            case round =>
              obtain ⟨a, q1, ha, rfl, hw⟩ := hrel
              have hpz := plcZ_le zs (lastL x)
              have c2r : wr.cell? ⟨xb, p, none⟩ = some xu := by rw [hw.out]; exact c2
              go_upto_region 12 with fail
              go_cut [65] (fun s wx => s = .bool (decide (a < plcR (rzR zs) (lastL x))) ∧ Hid (∃ q2, wx = w4.drewN q2))
              case first =>
                have FRr : FamR wr (.slice (some ⟨g, 0, none⟩) zs.length cap) zs := by rw [hw.out]; exact J4.out.fam.below (below_drewN (Below.refl _ _) _)
                have FIN : Hid (∃ q2, wr.drewN 0 = w4.drewN q2) := Lib.hid ⟨q1, by rw [hw.out]; rfl⟩
                have FIQ : Hid (∀ nq, ∃ q2, wr.drewN nq = w4.drewN q2) := Lib.hid (fun nq => ⟨q1 + nq, by rw [hw.out]; exact World.drewN_drewN ..⟩)
                have RX : Hid (∀ q : Nat, RdL (wr.drewN q) xu (lastL x)) := Lib.hid (fun q => by rw [hw.out]; exact RL9.out)
                rcases plc_cases zs (lastL x) a ha with ⟨hap, han, hlx⟩ | ⟨hap, ⟨han, hlx⟩ | han⟩
                · have hmem : zs[a].2 ∈ rzR zs := List.mem_map.2 ⟨_, List.getElem_mem han, rfl⟩
                  have c3 := FRr.cell a han
                  obtain ⟨VO, fo⟩ := FRr.inn zs[a] (List.getElem_mem han)
                  obtain ⟨ob, oc, p2, ou, eo, hp2, hpe2, c4, RO⟩ := fam_last fo (ROWS.out.ne _ hmem) (SP.out.1 _ ⟨ROWS.out.asc _ hmem, ROWS.out.all _ hmem⟩)
                  rw [eo] at c3
                  have LS9 := Lib.hid (fun q : Nat => l01Less_any xu ou (lastL x) (lastL zs[a].2) (wr.drewN q) (RX.out q) (RO.drewN q))
                  rw [hlx] at LS9
                  have hl2 := SP.out.1 _ (OkT.mk (ROWS.out.asc _ hmem) (ROWS.out.all _ hmem))
                  generalize zs[a].2 = own at *
                  have hwp2 : wrap64 ((own.length : Int) - 1) = (p2 : Int) := by rw [wrap_sm (by omega) (by omega), hpe2]
                  have hpl2 : (p2 : Int) < (own.length : Int) := by omega
                  have hwq2 : IntKind.i64.wrap ((own.length : Int) - 1) = (p2 : Int) := by rw [IntKind.wrap_i64, hpe2]; omega
                  have hg1 : decide (a < zs.length) = true := decide_eq_true han
                  have hg2 : (a : Int) < (zs.length : Int) := by omega
                  have HD : Hid (decide (a < plcR (rzR zs) (lastL x)) = true) := Lib.hid (decide_eq_true hap)
                  clear hlx RX FRr fo RO eo hpe2 hap hmem FIN
                  go_quiet ((go_at_call 72; exact Calls.quiet_of (LS9.out _)))
                  go_wp2_with fail
                  go_meet
                  exact ⟨by rw [HD.out], Lib.hid (FIQ.out _)⟩
                · have hmem : zs[a].2 ∈ rzR zs := List.mem_map.2 ⟨_, List.getElem_mem han, rfl⟩
                  have c3 := FRr.cell a han
                  obtain ⟨VO, fo⟩ := FRr.inn zs[a] (List.getElem_mem han)
                  obtain ⟨ob, oc, p2, ou, eo, hp2, hpe2, c4, RO⟩ := fam_last fo (ROWS.out.ne _ hmem) (SP.out.1 _ ⟨ROWS.out.asc _ hmem, ROWS.out.all _ hmem⟩)
                  rw [eo] at c3
                  have LS9 := Lib.hid (fun q : Nat => l01Less_any xu ou (lastL x) (lastL zs[a].2) (wr.drewN q) (RX.out q) (RO.drewN q))
                  rw [hlx] at LS9
                  have hl2 := SP.out.1 _ (OkT.mk (ROWS.out.asc _ hmem) (ROWS.out.all _ hmem))
                  generalize zs[a].2 = own at *
                  have hwp2 : wrap64 ((own.length : Int) - 1) = (p2 : Int) := by rw [wrap_sm (by omega) (by omega), hpe2]
                  have hpl2 : (p2 : Int) < (own.length : Int) := by omega
                  have hwq2 : IntKind.i64.wrap ((own.length : Int) - 1) = (p2 : Int) := by rw [IntKind.wrap_i64, hpe2]; omega
                  have hg1 : decide (a < zs.length) = true := decide_eq_true han
                  have hg2 : (a : Int) < (zs.length : Int) := by omega
                  have HD : Hid (decide (a < plcR (rzR zs) (lastL x)) = false) := Lib.hid (decide_eq_false (by omega))
                  clear hlx RX FRr fo RO eo hpe2 hap hmem FIN
                  go_quiet ((go_at_call 72; exact Calls.quiet_of (LS9.out _)))
                  go_wp2_with fail
                  go_meet
                  exact ⟨by rw [HD.out], Lib.hid (FIQ.out _)⟩
                · have hg1 : decide (a < zs.length) = false := decide_eq_false (by omega)
                  have hg2 : ¬ (a : Int) < (zs.length : Int) := by omega
                  have HD : Hid (decide (a < plcR (rzR zs) (lastL x)) = false) := Lib.hid (decide_eq_false (by omega))
                  clear RX FRr hap FIN han
                  go_quiet (fail)
                  go_wp2_with fail
                  go_meet
                  exact ⟨by rw [HD.out], Lib.hid (FIQ.out _)⟩
              case rest =>
                obtain ⟨rfl, hq⟩ := hcut
                obtain ⟨q2, hq2⟩ := hq.out
                have B5 := Lib.hid (below_drewN (Below.refl w4.heap.size w4) q2)
                clear hq hw c2r
                by_cases hap : a < plcR (rzR zs) (lastL x)
                · rw [decide_eq_true hap]
                  have HQ2 := Lib.hid hq2
                  clear hq2
                  go_wp2_with fail
                  go_roundw
                  case rel => exact ⟨a + 1, q2, by omega, by go_num, HQ2⟩
                  case measure => simp [intOf]; omega
                · have hae : plcR (rzR zs) (lastL x) = a := by omega
                  have RZI := rzR_ins zs (.slice (some ⟨xb, 0, none⟩) x.length xc) x
                  have J5 : Hid (RwJ w (.slice (some ⟨g, 0, none⟩) zs.length cap) zs (hitM n R0 (L.take t)) wc) := Lib.hid (by rw [hq2]; exact J4.out.up B5.out)
                  have BW : Hid (Below w2.heap.size w2 wc) := Lib.hid (by rw [hq2]; exact B4.out.step1 B5.out)
                  have FX5 : Hid (FamL wc 0 (.slice (some ⟨xb, 0, none⟩) x.length xc) XS x) := Lib.hid (by rw [hq2]; exact FX.out.drewN q2)
                  rw [decide_eq_false hap]
                  rw [hae] at RZI
                  have RZ9 := Lib.hid RZI
                  clear hq2 J4 B4 B5 FX hap hae RZI c2 RL9
                  have hac : a ≤ cap := by omega
                  have haz : a ≤ zs.length := by omega
                  obtain ⟨ds, hds⟩ : ∃ ds, ds = (zs.drop a).map fun z => z.1 := ⟨_, rfl⟩
                  obtain ⟨ts, hts⟩ : ∃ ts, ts = (zs.take a).map fun z => z.1 := ⟨_, rfl⟩
                  have dl : ds.length = zs.length - a := by rw [hds, List.length_map, List.length_drop]
                  have tl2 : ts.length = a := by rw [hts, List.length_map, List.length_take]; omega
                  have DC : Hid (∀ w', Below wc.heap.size wc w' → ∀ jj u, ds[jj]? = some u → w'.cell? ⟨g, a + jj, none⟩ = some u) := Lib.hid (fun w' hb jj u hu => by
                    have hjj : jj < ds.length := (List.getElem?_eq_some_iff.1 hu).1
                    have h1 := (J5.out.fam.below hb).cell (a + jj) (by omega)
                    rw [hds, List.getElem?_map, List.getElem?_drop, List.getElem?_eq_getElem (by omega)] at hu
                    rw [h1]; exact hu)
                  have TC : Hid (∀ w', Below wc.heap.size wc w' → ∀ jj u, ts[jj]? = some u → w'.cell? ⟨g, jj, none⟩ = some u) := Lib.hid (fun w' hb jj u hu => by
                    have hjj : jj < ts.length := (List.getElem?_eq_some_iff.1 hu).1
                    have h1 := (J5.out.fam.below hb).cell jj (by omega)
                    rw [hts, List.getElem?_map, List.getElem?_take, if_pos (by omega), List.getElem?_eq_getElem (by omega)] at hu
                    rw [h1]; exact hu)
                  have D1 : Hid (∀ u ∈ ds, u.oneCell' = true) := Lib.hid (fun u hu => by
                    rw [hds] at hu
                    obtain ⟨z, hz, rfl⟩ := List.mem_map.1 hu
                    obtain ⟨VO, fo⟩ := J5.out.fam.inn z (List.mem_of_mem_drop hz)
                    obtain ⟨_, _, e, _⟩ := fo.head
                    rw [e]; rfl)
                  have T1 : Hid (∀ u ∈ ts, u.oneCell' = true) := Lib.hid (fun u hu => by
                    rw [hts] at hu
                    obtain ⟨z, hz, rfl⟩ := List.mem_map.1 hu
                    obtain ⟨VO, fo⟩ := J5.out.fam.inn z (List.mem_of_mem_take hz)
                    obtain ⟨_, _, e, _⟩ := fo.head
                    rw [e]; rfl)
                  have NEW : Hid (∀ (w' : World) (V' : Value) (B : Nat), Below wc.heap.size wc w' → V' ≠ .slice none 0 0 → w'.ownsRow B 25 1 V' (zs.length + 1) (ts ++ (.slice (some ⟨xb, 0, none⟩) x.length xc :: ds)) → RwJ w V' (zs.take a ++ (.slice (some ⟨xb, 0, none⟩) x.length xc, x) :: zs.drop a) (hitM n R0 (L.take (t + 1))) w') := Lib.hid (fun w' V' B hb hs ho => by
                    rw [hts, hds] at ho
                    exact ⟨J5.out.bel.step1 hb, J5.out.fam.ins FX5.out hb hs ho, by rw [RZ9.out, NX9.out]⟩)
                  have B6 : Hid (Below wc.heap.size wc (wc.alloc (.cells #[.slice (some ⟨xb, 0, none⟩) x.length xc] 25))) := Lib.hid ((Below.refl _ _).alloc (Nat.le_refl _) _)
                  have O6 : Hid ((wc.alloc (.cells #[.slice (some ⟨xb, 0, none⟩) x.length xc] 25)).ownsRow wc.heap.size 25 1 (.slice (some ⟨wc.heap.size, 0, none⟩) 1 1) 1 [.slice (some ⟨xb, 0, none⟩) x.length xc]) := Lib.hid (own_one _ _ _)
                  have S6 : Hid (DC.out = DC.out) := Lib.hid rfl
                  have DS : ∃ bb oo : Nat, (if cap = a then (⟨g, 0, none⟩ : Addr) else ⟨g, a, none⟩) = ⟨bb, oo, none⟩ := by
                    by_cases h : cap = a
                    · exact ⟨g, 0, by rw [if_pos h]⟩
                    · exact ⟨g, a, by rw [if_neg h]⟩
                  clear hds hts FX5 NX9 RZ9 S6 DS
                  have hnd2 : zs.length - a + 1 ≤ 2000 := by omega
                  have HAPP : Hid (∀ (ad : Addr), (∀ jj u, ds[jj]? = some u → (wc.alloc (.cells #[.slice (some ⟨xb, 0, none⟩) x.length xc] 25)).cell? (ad.add jj) = some u) → True) := Lib.hid (fun _ _ => trivial)
                  have N6 : Hid (∀ (v7 : Value) (w7 : World), w7.ownsRow wc.heap.size 25 1 v7 (1 + (zs.length - a)) ([.slice (some ⟨xb, 0, none⟩) x.length xc] ++ ds) → (wc.alloc (.cells #[.slice (some ⟨xb, 0, none⟩) x.length xc] 25)).grownBy w7 (some wc.heap.size) → Below wc.heap.size wc w7) := Lib.hid (fun v7 w7 ho hg => B6.out.grown hg B6.out.size (fun q hq => by cases hq; exact Nat.le_refl _))
                  by_cases hca : cap = a
                  · obtain rfl : a = zs.length := by omega
                    obtain rfl : cap = zs.length := hca
                    have hz0 : zs.length - zs.length = 0 := Nat.sub_self _
                    have hds0 : ds = [] := List.length_eq_zero_iff.1 (by omega)
                    have SRC : Hid (∀ jj u, ds[jj]? = some u → (wc.alloc (.cells #[.slice (some ⟨xb, 0, none⟩) x.length xc] 25)).cell? ((⟨g, 0, none⟩ : Addr).add jj) = some u) := Lib.hid (fun jj u hu => by rw [hds0] at hu; simp at hu)
                    go_upto_region 14 with fail
                    go_upto_region 15 with (at_builtin; refine wpList_append_own _ rfl _ _ 50 rfl wc.heap.size 25 i1 (.slice none 0 0) 1 24 Try.underlying50 hj1 hy0 hy1 hy2 rfl (by decide) _ _ _ rfl O6.out ⟨g, 0, none⟩ _ _ ds rfl (by omega) SRC.out D1.out (by unfold maxLen; omega) (by omega) (by simp) ?_; intro v7 w7 o7 g7 n7)
                    have hn7 : v7 ≠ .slice none 0 0 := fun h => by have := (n7.1 h).1; cases this
                    have o77 : w7.ownsRow wc.heap.size 25 1 v7 (1 + (zs.length - zs.length)) ([.slice (some ⟨xb, 0, none⟩) x.length xc] ++ ds) := by first | exact o7 | (rw [hz0]; exact o7)
                    clear o7
                    have o7 := o77
                    clear o77
                    obtain ⟨b7, c7, e7, hc7⟩ := own_some9 o7 hn7
                    subst e7
                    have B7 := Lib.hid (N6.out _ w7 o7 g7)
                    have C7 := Lib.hid hc7
                    have O8 : Hid ((w7.alloc (.cells #[] 25)).ownsRow w7.heap.size 25 1 (.slice (some ⟨w7.heap.size, 0, none⟩) 0 0) 0 []) := Lib.hid (World.ownsRow_made w7 #[] 0 (Nat.le_refl _) (Nat.zero_le _) (by simp))
                    have B8 : Hid (Below w7.heap.size w7 (w7.alloc (.cells #[] 25))) := Lib.hid ((Below.refl _ _).alloc (Nat.le_refl _) _)
                    have SR8 : Hid (∀ jj u, ts[jj]? = some u → (w7.alloc (.cells #[] 25)).cell? ((⟨g, 0, none⟩ : Addr).add jj) = some u) := Lib.hid (fun jj u hu => by rw [Addr.add_lit, Nat.zero_add]; exact TC.out _ (B7.out.step1 B8.out) jj u hu)
                    have E1 : Hid (∀ u ∈ ([.slice (some ⟨xb, 0, none⟩) x.length xc] ++ ds), u.oneCell' = true) := Lib.hid (fun u hu => by
                      rcases List.mem_append.1 hu with h | h
                      · rw [List.mem_singleton.1 h]; rfl
                      · exact D1.out u h)
                    have LE : ([Value.slice (some ⟨xb, 0, none⟩) x.length xc] ++ ds).length = 1 + (zs.length - zs.length) := by rw [List.length_append, List.length_singleton, dl]
                    obtain ⟨es, hes⟩ : ∃ es, [Value.slice (some ⟨xb, 0, none⟩) x.length xc] ++ ds = es := ⟨_, rfl⟩
                    rw [hes] at LE E1 C7
                    have HES := Lib.hid hes
                    have h1a : 1 + (zs.length - zs.length) ≤ 2000 := by omega
                    clear hes o7 g7 n7 hn7 hc7 SRC DC D1 B6 O6 N6 HAPP
                    obtain ⟨m7, hm7⟩ : ∃ m7, 1 + (zs.length - zs.length) = m7 := ⟨_, rfl⟩
                    rw [hm7] at LE h1a
                    have HM7 := Lib.hid hm7
                    rw [hm7]
                    clear hm7
                    go_wp2_with (first
                      | (at_builtin; refine wpList_append_own _ rfl _ _ 50 rfl w7.heap.size 25 i1 (.slice none 0 0) 1 24 Try.underlying50 hj1 hy0 hy1 hy2 rfl (by decide) _ _ _ rfl O9.out ⟨b7, 0, none⟩ m7 c7 es rfl (by omega) SR9.out E1.out (by unfold maxLen; omega) (by omega) B9.out.size ?_; intro v10 w10 o10 g10 n10)
                      | (at_builtin; refine wpList_append_own _ rfl _ _ 50 rfl w7.heap.size 25 i1 (.slice none 0 0) 1 24 Try.underlying50 hj1 hy0 hy1 hy2 rfl (by decide) _ _ _ rfl O8.out ⟨g, 0, none⟩ zs.length zs.length ts rfl (by omega) SR8.out T1.out (by unfold maxLen; omega) (by omega) (by simp) ?_; intro v9 w9 o9 g9 n9; rw [Nat.zero_add, List.nil_append] at o9; have hn9 : v9 ≠ .slice none 0 0 := (fun h => by (have := (n9.1 h).1; cases this)); obtain ⟨b9, c9, e9, _⟩ := own_some9 o9 hn9; subst e9; clear n9; have B9 : Hid (Below w7.heap.size w7 w9) := Lib.hid (B8.out.grown g9 B8.out.size (fun q hq => by cases hq; exact Nat.le_refl _)); have O9 := Lib.hid o9; have SR9 : Hid (∀ jj u, es[jj]? = some u → w9.cell? ((⟨b7, 0, none⟩ : Addr).add jj) = some u) := Lib.hid (fun jj u hu => by rw [Addr.add_lit, Nat.zero_add]; exact C7.out _ B9.out jj u hu)))
                    have hn10 : v10 ≠ .slice none 0 0 := fun h => hn9 (n10.1 h).1
                    have B10 : Hid (Below wc.heap.size wc w10) := Lib.hid (B7.out.trans ((B9.out.grown g10 B9.out.size (fun q hq => (O9.out.lt q hq).1)).mono B7.out.size))
                    have J10 : Hid (RwJ w v10 (zs.take zs.length ++ (.slice (some ⟨xb, 0, none⟩) x.length xc, x) :: zs.drop zs.length) (hitM n R0 (L.take (t + 1))) w10) := Lib.hid (NEW.out w10 v10 w7.heap.size B10.out hn10 (by
                      have hq := o10
                      rw [← HES.out, List.singleton_append, ← HM7.out, show zs.length + (1 + (zs.length - zs.length)) = zs.length + 1 by omega] at hq
                      exact hq))
                    have BW2 := Lib.hid (BW.out.trans (B10.out.mono BW.out.size))
                    clear o10 g10 n10 hn9 hn10 B10 NEW O9 SR9 B9
                    go_wp2_with fail
                    go_roundw
                    case rel => exact ⟨t + 1, _, by omega, by go_num, J10, BW2⟩
                    case measure => simp [intOf]; omega
                  · have hca2 : ¬ (cap : Int) = (a : Int) := by omega
                    have SRC : Hid (∀ jj u, ds[jj]? = some u → (wc.alloc (.cells #[.slice (some ⟨xb, 0, none⟩) x.length xc] 25)).cell? ((⟨g, a, none⟩ : Addr).add jj) = some u) := Lib.hid (fun jj u hu => by rw [Addr.add_lit]; exact DC.out _ B6.out jj u hu)
                    go_upto_region 14 with fail
                    go_upto_region 15 with (at_builtin; refine wpList_append_own _ rfl _ _ 50 rfl wc.heap.size 25 i1 (.slice none 0 0) 1 24 Try.underlying50 hj1 hy0 hy1 hy2 rfl (by decide) _ _ _ rfl O6.out ⟨g, a, none⟩ (zs.length - a) (cap - a) ds rfl (by omega) SRC.out D1.out (by unfold maxLen; omega) (by omega) (by simp) ?_; intro v7 w7 o7 g7 n7)
                    have hn7 : v7 ≠ .slice none 0 0 := fun h => by have := (n7.1 h).1; cases this
                    have o77 : w7.ownsRow wc.heap.size 25 1 v7 (1 + (zs.length - a)) ([.slice (some ⟨xb, 0, none⟩) x.length xc] ++ ds) := by first | exact o7 | (rw [hz0]; exact o7)
                    clear o7
                    have o7 := o77
                    clear o77
                    obtain ⟨b7, c7, e7, hc7⟩ := own_some9 o7 hn7
                    subst e7
                    have B7 := Lib.hid (N6.out _ w7 o7 g7)
                    have C7 := Lib.hid hc7
                    have O8 : Hid ((w7.alloc (.cells #[] 25)).ownsRow w7.heap.size 25 1 (.slice (some ⟨w7.heap.size, 0, none⟩) 0 0) 0 []) := Lib.hid (World.ownsRow_made w7 #[] 0 (Nat.le_refl _) (Nat.zero_le _) (by simp))
                    have B8 : Hid (Below w7.heap.size w7 (w7.alloc (.cells #[] 25))) := Lib.hid ((Below.refl _ _).alloc (Nat.le_refl _) _)
                    have SR8 : Hid (∀ jj u, ts[jj]? = some u → (w7.alloc (.cells #[] 25)).cell? ((⟨g, 0, none⟩ : Addr).add jj) = some u) := Lib.hid (fun jj u hu => by rw [Addr.add_lit, Nat.zero_add]; exact TC.out _ (B7.out.step1 B8.out) jj u hu)
                    have E1 : Hid (∀ u ∈ ([.slice (some ⟨xb, 0, none⟩) x.length xc] ++ ds), u.oneCell' = true) := Lib.hid (fun u hu => by
                      rcases List.mem_append.1 hu with h | h
                      · rw [List.mem_singleton.1 h]; rfl
                      · exact D1.out u h)
                    have LE : ([Value.slice (some ⟨xb, 0, none⟩) x.length xc] ++ ds).length = 1 + (zs.length - a) := by rw [List.length_append, List.length_singleton, dl]
                    obtain ⟨es, hes⟩ : ∃ es, [Value.slice (some ⟨xb, 0, none⟩) x.length xc] ++ ds = es := ⟨_, rfl⟩
                    rw [hes] at LE E1 C7
                    have HES := Lib.hid hes
                    have h1a : 1 + (zs.length - a) ≤ 2000 := by omega
                    clear hes o7 g7 n7 hn7 hc7 SRC DC D1 B6 O6 N6 HAPP
                    obtain ⟨m7, hm7⟩ : ∃ m7, 1 + (zs.length - a) = m7 := ⟨_, rfl⟩
                    rw [hm7] at LE h1a
                    have HM7 := Lib.hid hm7
                    rw [hm7]
                    clear hm7
                    go_wp2_with (first
                      | (at_builtin; refine wpList_append_own _ rfl _ _ 50 rfl w7.heap.size 25 i1 (.slice none 0 0) 1 24 Try.underlying50 hj1 hy0 hy1 hy2 rfl (by decide) _ _ _ rfl O9.out ⟨b7, 0, none⟩ m7 c7 es rfl (by omega) SR9.out E1.out (by unfold maxLen; omega) (by omega) B9.out.size ?_; intro v10 w10 o10 g10 n10)
                      | (at_builtin; refine wpList_append_own _ rfl _ _ 50 rfl w7.heap.size 25 i1 (.slice none 0 0) 1 24 Try.underlying50 hj1 hy0 hy1 hy2 rfl (by decide) _ _ _ rfl O8.out ⟨g, 0, none⟩ a cap ts rfl (by omega) SR8.out T1.out (by unfold maxLen; omega) (by omega) (by simp) ?_; intro v9 w9 o9 g9 n9; rw [Nat.zero_add, List.nil_append] at o9; have hn9 : v9 ≠ .slice none 0 0 := (fun h => by (have := (n9.1 h).1; cases this)); obtain ⟨b9, c9, e9, _⟩ := own_some9 o9 hn9; subst e9; clear n9; have B9 : Hid (Below w7.heap.size w7 w9) := Lib.hid (B8.out.grown g9 B8.out.size (fun q hq => by cases hq; exact Nat.le_refl _)); have O9 := Lib.hid o9; have SR9 : Hid (∀ jj u, es[jj]? = some u → w9.cell? ((⟨b7, 0, none⟩ : Addr).add jj) = some u) := Lib.hid (fun jj u hu => by rw [Addr.add_lit, Nat.zero_add]; exact C7.out _ B9.out jj u hu)))
                    have hn10 : v10 ≠ .slice none 0 0 := fun h => hn9 (n10.1 h).1
                    have B10 : Hid (Below wc.heap.size wc w10) := Lib.hid (B7.out.trans ((B9.out.grown g10 B9.out.size (fun q hq => (O9.out.lt q hq).1)).mono B7.out.size))
                    have J10 : Hid (RwJ w v10 (zs.take a ++ (.slice (some ⟨xb, 0, none⟩) x.length xc, x) :: zs.drop a) (hitM n R0 (L.take (t + 1))) w10) := Lib.hid (NEW.out w10 v10 w7.heap.size B10.out hn10 (by
                      have hq := o10
                      rw [← HES.out, List.singleton_append, ← HM7.out, show a + (1 + (zs.length - a)) = zs.length + 1 by omega] at hq
                      exact hq))
                    have BW2 := Lib.hid (BW.out.trans (B10.out.mono BW.out.size))
                    clear o10 g10 n10 hn9 hn10 B10 NEW O9 SR9 B9
                    go_wp2_with fail
                    go_roundw
                    case rel => exact ⟨t + 1, _, by omega, by go_num, J10, BW2⟩
                    case measure => simp [intOf]; omega
        · obtain rfl : t = L.length := by omega
          rw [List.take_length, ← NX1.out] at hJ
          have hw2 : wrap64 ((n : Int) * 2) = (n : Int) * 2 := wrap_sm (by omega) (by omega)
          go_wp2_with fail
          go_roundw
          case rel => exact ⟨j + 1, zs, J7.out, by rw [NXP.out]; congr 1; omega, hJ⟩
          case measure => simp [intOf]; omega
    · have hnle : ¬ (n : Int) ≤ (d : Int) := by omega
      rw [END.out (by omega)] at hJ
      clear NXP NXH J6 ROK
      go_wp2_with fail
      go_ret
      exact ⟨_, zs, rfl, hJ.out.fam, hJ.out.eq, hJ.out.bel⟩
end Go.Proofs.Ytggebkcmokpcmaa
end
