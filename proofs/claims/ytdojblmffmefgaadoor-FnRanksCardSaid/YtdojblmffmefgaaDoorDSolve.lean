/-
  Contract of spec.l02Solve.
-/
import Derived.Test.YtdojblmffmefgaaDoorDKerB
namespace Go.Proofs.YtdojblmffmefgaaDoor
open Go.RowKit
set_option linter.unusedVariables false
set_option maxRecDepth 100000

set_option maxHeartbeats 4000000 in
theorem l02Solve_any (s : Value) (R : List Nat) (w : World) (h : RdN w s R) (hR : ∀ x ∈ R, x < 2 ^ 60) (hl : R.length ≤ 60) (v : Nat) (hv : v < 2 ^ 60) :
    Calls Tryd.prog 97 #[s, .int .i64 v] w fun e w' => e = .returned (.tuple #[.int .i64 (((rml (kruns (fun i => R.getD i 0) R.length).D (kruns (fun i => R.getD i 0) R.length).M (v, 0)).2 : Nat) : Int), .bool ((((rml (kruns (fun i => R.getD i 0) R.length).D (kruns (fun i => R.getD i 0) R.length).M (v, 0)).1 : Nat) : Int) == 0)]) ∧ Below w.heap.size w w' := by
  have HV := Lib.hid hv
  clear hv
  have H := Lib.hid h
  have HR := Lib.hid hR
  have BR := Lib.hid (both_runs (fun i => R.getD i 0) R.length hl (fun i hi => by
    have : R.getD i 0 ∈ R := by rw [List.getD_eq_getElem?_getD, List.getElem?_eq_getElem hi]; exact List.getElem_mem hi
    exact hR _ this))
  obtain ⟨a, cap, rfl, hm, hc⟩ := h
  clear hc hR
  generalize hn : R.length = n at *
  have HN := Lib.hid hn
  clear hn
  generalize hG : (fun i => R.getD i 0) = G at *
  have HG : Hid (∀ i, R.getD i 0 = G i) := Lib.hid (fun i => by rw [← hG])
  clear hG
  have W3 : ∃ w3, w3 = ((w.alloc (.cells #[] 2)).alloc (.cells #[] 2)) := ⟨_, rfl⟩
  obtain ⟨w3, hw3⟩ := W3
  have S3 : Hid (K3 w (.slice (some ⟨w.heap.size, 0, none⟩) 0 0) (.slice (some ⟨w.heap.size + 1, 0, none⟩) 0 0) (.slice none 0 0) (kruns G 0).D (kruns G 0).M [] w3) := Lib.hid (by
    have b1 : Below w.heap.size w (w.alloc (.cells #[] 2)) := (Below.refl _ _).alloc (Nat.le_refl _) _
    have b2 : Below w.heap.size w ((w.alloc (.cells #[] 2)).alloc (.cells #[] 2)) := b1.alloc (by simp) _
    have o1 : (w.alloc (.cells #[] 2)).ownsRow w.heap.size 2 1 (.slice (some ⟨w.heap.size, 0, none⟩) 0 0) 0 (([] : List Int).map (Value.int .i64)) := World.ownsRow_made w #[] 0 (Nat.le_refl _) (Nat.zero_le _) (by simp)
    have o2 : ((w.alloc (.cells #[] 2)).alloc (.cells #[] 2)).ownsRow w.heap.size 2 1 (.slice (some ⟨w.heap.size + 1, 0, none⟩) 0 0) 0 (([] : List Int).map (Value.int .i64)) := by
      have := World.ownsRow_made (base := w.heap.size) (e := 2) (size := 1) (w.alloc (.cells #[] 2)) #[] 0 b1.size (Nat.zero_le _) (by simp)
      simpa using this
    rw [hw3]
    exact ⟨own_below o1 ((Below.refl _ _).alloc (Nat.le_refl _) _), o2, World.ownsRow_nil _ _ _ _, .inr (by simp [Value.ownBlock]), .inr (by simp [Value.ownBlock]), .inr (by simp [Value.ownBlock]), b2⟩)
  go_enter Tryd.func97, Tryd.ntmps97
  go_wp2
  rw [← hw3]
  clear hw3
  go_loopw [6, 7, 9] (fun vd vm c wr => ∃ i : Nat, i ≤ n ∧ c = .int .i64 i ∧ Hid (K3 w vd vm (.slice none 0 0) (kruns G i).D (kruns G i).M [] wr)) (fun _ _ c _ => n - (intOf c).toNat)
  case atStart => exact ⟨0, by omega, rfl, S3⟩
  case round =>
    clear S3
    obtain ⟨i, hi, rfl, S⟩ := hrel
    obtain ⟨da, dc, rfl⟩ := S.out.d.shape
    obtain ⟨ma, mc, rfl⟩ := S.out.m.shape
    have BI := BR.out i hi
    obtain ⟨ld, lo⟩ := kruns_len G i
    by_cases hlt : i < n
    · have hlt' : (i : Int) < (n : Int) := by omega
      have HRi := H.out.below S.out.bel
      unfold RdN at HRi
      rw [HN.out] at HRi
      obtain ⟨_, _, e, _, hc⟩ := HRi
      cases e
      obtain ⟨b, off, rfl, hc2⟩ := hc.resolve_left (by omega)
      have c1 : wr.cell? ⟨b, off + i, none⟩ = some (.int .i64 ((R.getD i 0 : Nat) : Int)) := hc2 i hlt
      rw [HG.out i] at c1
      have gl : G i < 2 ^ 60 := by rw [← HG.out i]; exact HR.out _ (by rw [List.getD_eq_getElem?_getD, List.getElem?_eq_getElem (by rw [HN.out]; exact hlt)]; exact List.getElem_mem (by rw [HN.out]; exact hlt))
      clear hc hc2
      have ok := BI.ok
      have LM := Lib.hid ok.len
      have AT := Lib.hid (rml_at ok (G i, 2 ^ i) ⟨gl, pow_lt60 (by omega)⟩)
      have RS := Lib.hid (rmp_succ (fam (kruns G i).D (kruns G i).M) (pvt (kruns G i).D) (G i, 2 ^ i))
      have KE : Hid (kruns G (i + 1) = kst (kruns G i) (G i, 2 ^ i)) := Lib.hid rfl
      have W2 := Lib.hid (wrap_two i (by omega))
      have RD := Lib.hid S.out.rd
      have R0 : Hid (rmp (fam (kruns G i).D (kruns G i).M) (pvt (kruns G i).D) (G i, 2 ^ i) 0 = (G i, 2 ^ i)) := Lib.hid rfl
      have OKK := Lib.hid ok
      have RL : Hid (rml (kruns G i).D (kruns G i).M (G i, 2 ^ i) = rmp (fam (kruns G i).D (kruns G i).M) (pvt (kruns G i).D) (G i, 2 ^ i) (kruns G i).D.length) := Lib.hid rfl
      have KZ := Lib.hid (@kst_zero (kruns G i) (G i, 2 ^ i))
      have KM := Lib.hid (@kst_more (kruns G i) (G i, 2 ^ i))
      clear BI ok gl
      generalize kruns G i = st at *
      generalize hq : (fun j => rmp (fam st.D st.M) (pvt st.D) (G i, 2 ^ i) j) = q at *
      have HQ : Hid (∀ j, rmp (fam st.D st.M) (pvt st.D) (G i, 2 ^ i) j = q j) := Lib.hid (fun j => by rw [← hq])
      clear hq
      go_wp2
      go_loop [10, 11, 12] (fun x o c => ∃ j : Nat, j ≤ st.D.length ∧ c = .int .i64 j ∧ x = .int .i64 (((q j).1 : Nat) : Int) ∧ o = .int .i64 (((q j).2 : Nat) : Int)) (fun _ _ c => st.D.length - (intOf c).toNat)
      case atStart =>
        refine ⟨0, by omega, rfl, ?_, ?_⟩
        · rw [← HQ.out, R0.out]
        · rw [← HQ.out, R0.out, ← W2.out]
      case round =>
        obtain ⟨j, hj, rfl, rfl, rfl⟩ := hrel
        by_cases hjd : j < st.D.length
        · have hjd' : (j : Int) < (st.D.length : Int) := by omega
          obtain ⟨_, _, e1, _, hcd⟩ := RD.out.1
          cases e1
          obtain ⟨bd, od, rfl, hcd2⟩ := hcd.resolve_left (by omega)
          have d1 : wr.cell? ⟨bd, od + j, none⟩ = some (.int .i64 ((st.D.getD j 0 : Nat) : Int)) := hcd2 j hjd
          obtain ⟨_, _, e2, _, hcm⟩ := RD.out.2
          cases e2
          obtain ⟨bm, om, rfl, hcm2⟩ := hcm.resolve_left (by have := LM.out; omega)
          have d2 : wr.cell? ⟨bm, om + j, none⟩ = some (.int .i64 ((st.M.getD j 0 : Nat) : Int)) := hcm2 j (by have := LM.out; omega)
          clear hcd hcd2 hcm hcm2
          have hd := OKK.out.lt j hjd
          have hdm := OKK.out.tl j hjd
          have h0 := OKK.out.pos j hjd
          have QJ := AT.out j (by omega)
          rw [HQ.out] at QJ
          have QS := RS.out j
          rw [HQ.out, HQ.out] at QS
          have QS : Hid (q (j + 1) = stp (q j) (tz (st.D.getD j 0)) (st.D.getD j 0, st.M.getD j 0)) := Lib.hid QS
          have BT := Lib.hid (bit_test (q j).1 (tz (st.D.getD j 0)) QJ.1 (tz_lt60 _ h0 hd))
          have LW := Lib.hid (fun w => l02Low_any (st.D.getD j 0) w h0 hd)
          have X1 := Lib.hid (i64_xor (q j).1 (st.D.getD j 0) (by have := QJ.1; omega) (by omega))
          have X2 := Lib.hid (i64_xor (q j).2 (st.M.getD j 0) (by have := QJ.2; omega) (by omega))
          have H0 := Lib.hid h0
          have hjm : (j : Int) < (st.M.length : Int) := by have := LM.out; omega
          clear hd hdm h0 QJ
          generalize q j = y at *
          generalize st.D.getD j 0 = dd at *
          generalize st.M.getD j 0 = mm at *
          cases hb : y.1.testBit (tz dd) with
          | true =>
            have hb2 : (bits .and .i64 ((y.1 : Nat) : Int) ((2 ^ tz dd : Nat) : Int) != 0) = true := by rw [BT.out]; exact hb
            have E : Hid (q (j + 1) = (y.1 ^^^ dd, y.2 ^^^ mm)) := Lib.hid (by rw [QS.out]; unfold stp; rw [if_pos ⟨H0.out, hb⟩]; rfl)
            clear hb
            generalize ((2 ^ tz dd : Nat) : Int) = pw at *
            go_wp2_with (go_at_call 114; refine (LW.out _).mono ?_; rintro e w' ⟨rfl, rfl⟩)
            go_round
            case rel => exact ⟨j + 1, by omega, by go_num, by rw [E.out, ← X1.out], by rw [E.out, ← X2.out]⟩
            case measure => simp [intOf]; omega
          | false =>
            have hb2 : (bits .and .i64 ((y.1 : Nat) : Int) ((2 ^ tz dd : Nat) : Int) != 0) = false := by rw [BT.out]; exact hb
            have E : Hid (q (j + 1) = y) := Lib.hid (by rw [QS.out]; unfold stp; rw [if_neg (fun h => by have := h.2; rw [hb] at this; cases this)])
            clear hb
            generalize ((2 ^ tz dd : Nat) : Int) = pw at *
            go_wp2_with (go_at_call 114; refine (LW.out _).mono ?_; rintro e w' ⟨rfl, rfl⟩)
            go_round
            case rel => exact ⟨j + 1, by omega, by go_num, by rw [E.out], by rw [E.out]⟩
            case measure => simp [intOf]; omega
        · obtain rfl : j = st.D.length := by omega
          rw [HQ.out] at RL
          by_cases hz : (q st.D.length).1 = 0
          · have hb : ((((q st.D.length).1 : Nat) : Int) != 0) = false := by rw [hz]; rfl
            have EK : Hid ((kruns G (i + 1)).D = st.D ∧ (kruns G (i + 1)).M = st.M) := Lib.hid (by rw [KE.out, KZ.out (by rw [RL.out]; exact hz)]; exact ⟨rfl, rfl⟩)
            clear hz
            go_wp2
            go_roundw
            case rel => exact ⟨i + 1, by omega, by go_num, Lib.hid (by rw [EK.out.1, EK.out.2]; exact S.out)⟩
            case measure => simp [intOf]; omega
          · have hb : ((((q st.D.length).1 : Nat) : Int) != 0) = true := by rw [bne_iff_ne]; omega
            have EK : Hid (kruns G (i + 1) = ⟨st.D ++ [(q st.D.length).1], st.M ++ [(q st.D.length).2], st.O⟩) := Lib.hid (by rw [KE.out, KM.out (by rw [RL.out]; exact hz), RL.out])
            clear hz
            have A := Lib.hid (S.out.up ((Below.refl _ _).alloc (Nat.le_refl _) (.cells #[.int .i64 (((q st.D.length).1 : Nat) : Int)] 2)))
            go_wp2_with (at_builtin; refine wpList_append1L rfl _ _ rfl w.heap.size _ st.D.length (nI st.D) rfl A.out.d _ _ 1 rfl (World.cell?_alloc_new _ _ _ _) ?c1 ?c2 ?_)
            case c1 => omega
            case c2 => have := A.out.bel.size; simpa using this
            intro g' cp w5 ho hg hl2
            have F := Lib.hid (A.out.pushD (x := (q st.D.length).1) (by rw [List.map_append]; exact ho) hg (by simpa using hl2))
            have A2 := Lib.hid (F.out.up ((Below.refl _ _).alloc (Nat.le_refl _) (.cells #[.int .i64 (((q st.D.length).2 : Nat) : Int)] 2)))
            clear ho hg hl2
            go_wp2_with (at_builtin; refine wpList_append1L rfl _ _ rfl w.heap.size _ st.M.length (nI st.M) rfl A2.out.m _ _ 1 rfl (World.cell?_alloc_new _ _ _ _) ?c3 ?c4 ?_)
            case c3 => have := LM.out; omega
            case c4 => have := A2.out.bel.size; simpa using this
            intro g2 cp2 w6 ho hg hl2
            have F2 := Lib.hid (A2.out.pushM (x := (q st.D.length).2) (by rw [List.map_append]; exact ho) hg (by simpa using hl2))
            clear ho hg hl2
            go_wp2
            go_roundw
            case rel => exact ⟨i + 1, by omega, by go_num, Lib.hid (by rw [EK.out]; exact F2.out)⟩
            case measure => simp [intOf]; omega
    · obtain rfl : i = n := by omega
      have BL := Lib.hid S.out.bel
      have ok := BI.ok
      have LM := Lib.hid ok.len
      have AT := Lib.hid (rml_at ok (v, 0) ⟨HV.out, Nat.two_pow_pos 60⟩)
      have RS := Lib.hid (rmp_succ (fam (kruns G i).D (kruns G i).M) (pvt (kruns G i).D) (v, 0))
      have RD := Lib.hid S.out.rd
      have R0 : Hid (rmp (fam (kruns G i).D (kruns G i).M) (pvt (kruns G i).D) (v, 0) 0 = (v, 0)) := Lib.hid rfl
      have OKK := Lib.hid ok
      have RL : Hid (rml (kruns G i).D (kruns G i).M (v, 0) = rmp (fam (kruns G i).D (kruns G i).M) (pvt (kruns G i).D) (v, 0) (kruns G i).D.length) := Lib.hid rfl
      clear BI ok
      generalize hst : kruns G i = st at *
      have HST := Lib.hid hst
      clear hst
      generalize hq : (fun j => rmp (fam st.D st.M) (pvt st.D) (v, 0) j) = q at *
      have HQ : Hid (∀ j, rmp (fam st.D st.M) (pvt st.D) (v, 0) j = q j) := Lib.hid (fun j => by rw [← hq])
      clear hq
      rw [HQ.out] at RL
      go_wp2
      go_loop [1, 8, 13] (fun x o c => ∃ j : Nat, j ≤ st.D.length ∧ c = .int .i64 j ∧ x = .int .i64 (((q j).1 : Nat) : Int) ∧ o = .int .i64 (((q j).2 : Nat) : Int)) (fun _ _ c => st.D.length - (intOf c).toNat)
      case atStart =>
        refine ⟨0, by omega, rfl, ?_, ?_⟩
        · rw [← HQ.out, R0.out]
        · rw [← HQ.out, R0.out]; rfl
      case round =>
        obtain ⟨j, hj, rfl, rfl, rfl⟩ := hrel
        by_cases hjd : j < st.D.length
        · have hjd' : (j : Int) < (st.D.length : Int) := by omega
          obtain ⟨_, _, e1, _, hcd⟩ := RD.out.1
          cases e1
          obtain ⟨bd, od, rfl, hcd2⟩ := hcd.resolve_left (by omega)
          have d1 : wr.cell? ⟨bd, od + j, none⟩ = some (.int .i64 ((st.D.getD j 0 : Nat) : Int)) := hcd2 j hjd
          obtain ⟨_, _, e2, _, hcm⟩ := RD.out.2
          cases e2
          obtain ⟨bm, om, rfl, hcm2⟩ := hcm.resolve_left (by have := LM.out; omega)
          have d2 : wr.cell? ⟨bm, om + j, none⟩ = some (.int .i64 ((st.M.getD j 0 : Nat) : Int)) := hcm2 j (by have := LM.out; omega)
          clear hcd hcd2 hcm hcm2
          have hd := OKK.out.lt j hjd
          have hdm := OKK.out.tl j hjd
          have h0 := OKK.out.pos j hjd
          have QJ := AT.out j (by omega)
          rw [HQ.out] at QJ
          have QS := RS.out j
          rw [HQ.out, HQ.out] at QS
          have QS : Hid (q (j + 1) = stp (q j) (tz (st.D.getD j 0)) (st.D.getD j 0, st.M.getD j 0)) := Lib.hid QS
          have BT := Lib.hid (bit_test (q j).1 (tz (st.D.getD j 0)) QJ.1 (tz_lt60 _ h0 hd))
          have LW := Lib.hid (fun w => l02Low_any (st.D.getD j 0) w h0 hd)
          have X1 := Lib.hid (i64_xor (q j).1 (st.D.getD j 0) (by have := QJ.1; omega) (by omega))
          have X2 := Lib.hid (i64_xor (q j).2 (st.M.getD j 0) (by have := QJ.2; omega) (by omega))
          have H0 := Lib.hid h0
          have hjm : (j : Int) < (st.M.length : Int) := by have := LM.out; omega
          clear hd hdm h0 QJ
          generalize q j = y at *
          generalize st.D.getD j 0 = dd at *
          generalize st.M.getD j 0 = mm at *
          cases hb : y.1.testBit (tz dd) with
          | true =>
            have hb2 : (bits .and .i64 ((y.1 : Nat) : Int) ((2 ^ tz dd : Nat) : Int) != 0) = true := by rw [BT.out]; exact hb
            have E : Hid (q (j + 1) = (y.1 ^^^ dd, y.2 ^^^ mm)) := Lib.hid (by rw [QS.out]; unfold stp; rw [if_pos ⟨H0.out, hb⟩]; rfl)
            clear hb
            generalize ((2 ^ tz dd : Nat) : Int) = pw at *
            go_wp2_with (go_at_call 114; refine (LW.out _).mono ?_; rintro e w' ⟨rfl, rfl⟩)
            go_round
            case rel => exact ⟨j + 1, by omega, by go_num, by rw [E.out, ← X1.out], by rw [E.out, ← X2.out]⟩
            case measure => simp [intOf]; omega
          | false =>
            have hb2 : (bits .and .i64 ((y.1 : Nat) : Int) ((2 ^ tz dd : Nat) : Int) != 0) = false := by rw [BT.out]; exact hb
            have E : Hid (q (j + 1) = y) := Lib.hid (by rw [QS.out]; unfold stp; rw [if_neg (fun h => by have := h.2; rw [hb] at this; cases this)])
            clear hb
            generalize ((2 ^ tz dd : Nat) : Int) = pw at *
            go_wp2_with (go_at_call 114; refine (LW.out _).mono ?_; rintro e w' ⟨rfl, rfl⟩)
            go_round
            case rel => exact ⟨j + 1, by omega, by go_num, by rw [E.out], by rw [E.out]⟩
            case measure => simp [intOf]; omega
        · obtain rfl : j = st.D.length := by omega
          rw [← RL.out]
          generalize hy : rml st.D st.M (v, 0) = y at *
          have HY := Lib.hid hy
          clear hy
          go_wp2
          go_ret2
          exact ⟨by rw [HST.out, HY.out]; rfl, BL.out⟩
end Go.Proofs.YtdojblmffmefgaaDoor
