/-
  Contracts: spec.l02Meet, impl.doubledRows.
-/
import Derived.Test.YtdojblmffmefgaaDoorPlainMeet
namespace Go.Proofs.YtdojblmffmefgaaDoor
open Go.RowKit
set_option linter.unusedVariables false
set_option maxRecDepth 100000

theorem mruns_len (G : Nat → TR) (i : Nat) : (mruns G i).D.length ≤ i ∧ (mruns G i).O.length ≤ i := by
  induction i with
  | zero => exact ⟨Nat.le_refl _, Nat.le_refl _⟩
  | succ i ih =>
    rw [mruns]
    unfold kst
    split
    · simp; omega
    · simp; omega

set_option maxHeartbeats 4000000 in
theorem l02Meet_any (s1 s2 : Value) (A B : List Nat) (w : World) (h1 : RdN w s1 A) (h2 : RdN w s2 B) (hA : ∀ x ∈ A, x < 2 ^ 60) (hB : ∀ x ∈ B, x < 2 ^ 60) (la : A.length ≤ 200) (lb : B.length ≤ 200) :
    Calls Tryd.prog 108 #[s1, s2] w (PutRes w.heap.size (putAll [] (mspec A B)) w) := by
  have H1 := Lib.hid h1
  have H2 := Lib.hid h2
  have HA := Lib.hid hA
  have HB := Lib.hid hB
  have PA := (putAll_ok hA).2
  have PB := (putAll_ok hB).2
  have LA := Lib.hid (putAll_lt hA)
  have LB := Lib.hid (putAll_lt hB)
  have MO := Lib.hid (mruns_ok (mrow (putAll [] A) (putAll [] B)) _ (mrow_lt (putAll_lt hA) (putAll_lt hB)))
  have ML := Lib.hid (mrow_lt (putAll_lt hA) (putAll_lt hB))
  have FIN : Hid ((mruns (mrow (putAll [] A) (putAll [] B)) ((putAll [] A).length + (putAll [] B).length)).O = mspec A B) := Lib.hid rfl
  clear h1 h2 hA hB
  go_enter Tryd.func108, Tryd.ntmps108
  go_wp2_with fail
  refine (l02Reduce_any s1 A w H1.out HA.out (by omega)).mono ?_
  rintro e w1 ⟨u1, rfl, o1, b1⟩
  obtain ⟨a1, q1, rfl⟩ := o1.shape
  have R2 := Lib.hid (H2.out.below b1)
  have O1 := Lib.hid o1
  have B1 := Lib.hid b1
  clear o1 b1
  go_wp2_with fail
  refine (l02Reduce_any s2 B w1 R2.out HB.out (by omega)).mono ?_
  rintro e w2 ⟨u2, rfl, o2, b2⟩
  obtain ⟨a2, q2, rfl⟩ := o2.shape
  have F1 := Lib.hid (rdn_of_own (own_below O1.out b2))
  have F2 := Lib.hid (rdn_of_own o2)
  have B2 := Lib.hid (B1.out.trans (b2.mono B1.out.size))
  clear o2 b2 O1 B1 R2
  generalize hQ : mrow (putAll [] A) (putAll [] B) = Q at *
  have QE : Hid (∀ i, Q i = if i < (putAll [] A).length then ((putAll [] A).getD i 0, (putAll [] A).getD i 0) else ((putAll [] B).getD (i - (putAll [] A).length) 0, 0)) := Lib.hid (fun i => by rw [← hQ]; rfl)
  clear hQ
  generalize putAll [] A = LF at *
  generalize putAll [] B = LS at *
  generalize hp : LF.length = p at *
  have HP := Lib.hid hp
  generalize hq2 : LS.length = r at *
  have HR := Lib.hid hq2
  clear hp hq2
  have W3 : ∃ w3, w3 = (((w2.alloc (.cells #[] 2)).alloc (.cells #[] 2)).alloc (.cells #[] 2)) := ⟨_, rfl⟩
  obtain ⟨w3, hw3⟩ := W3
  have S3 : Hid (K3 w2 (.slice (some ⟨w2.heap.size, 0, none⟩) 0 0) (.slice (some ⟨w2.heap.size + 1, 0, none⟩) 0 0) (.slice (some ⟨w2.heap.size + 1 + 1, 0, none⟩) 0 0) (mruns Q 0).D (mruns Q 0).M (mruns Q 0).O w3) := Lib.hid (by
    have b1 : Below w2.heap.size w2 (w2.alloc (.cells #[] 2)) := (Below.refl _ _).alloc (Nat.le_refl _) _
    have b2 : Below w2.heap.size w2 ((w2.alloc (.cells #[] 2)).alloc (.cells #[] 2)) := b1.alloc (by simp) _
    have b3 : Below w2.heap.size w2 (((w2.alloc (.cells #[] 2)).alloc (.cells #[] 2)).alloc (.cells #[] 2)) := b2.alloc (by simp; omega) _
    have o1 : (w2.alloc (.cells #[] 2)).ownsRow w2.heap.size 2 1 (.slice (some ⟨w2.heap.size, 0, none⟩) 0 0) 0 (([] : List Int).map (Value.int .i64)) := World.ownsRow_made w2 #[] 0 (Nat.le_refl _) (Nat.zero_le _) (by simp)
    have o2 : ((w2.alloc (.cells #[] 2)).alloc (.cells #[] 2)).ownsRow w2.heap.size 2 1 (.slice (some ⟨w2.heap.size + 1, 0, none⟩) 0 0) 0 (([] : List Int).map (Value.int .i64)) := by
      have := World.ownsRow_made (base := w2.heap.size) (e := 2) (size := 1) (w2.alloc (.cells #[] 2)) #[] 0 b1.size (Nat.zero_le _) (by simp)
      simpa using this
    have o3 : (((w2.alloc (.cells #[] 2)).alloc (.cells #[] 2)).alloc (.cells #[] 2)).ownsRow w2.heap.size 2 1 (.slice (some ⟨w2.heap.size + 1 + 1, 0, none⟩) 0 0) 0 (([] : List Int).map (Value.int .i64)) := by
      have := World.ownsRow_made (base := w2.heap.size) (e := 2) (size := 1) ((w2.alloc (.cells #[] 2)).alloc (.cells #[] 2)) #[] 0 b2.size (Nat.zero_le _) (by simp)
      simpa using this
    rw [hw3]
    refine ⟨own_below (own_below o1 ((Below.refl _ _).alloc (Nat.le_refl _) _)) ((Below.refl _ _).alloc (Nat.le_refl _) _), own_below o2 ((Below.refl _ _).alloc (Nat.le_refl _) _), o3, .inr ?_, .inr ?_, .inr ?_, b3⟩ <;> simp [Value.ownBlock] <;> omega)
  go_wp2_with fail
  rw [← hw3]
  clear hw3
  go_loopw [7, 8, 9, 10] (fun vd vm vo c wr => ∃ i : Nat, i ≤ p + r ∧ c = .int .i64 i ∧ Hid (K3 w2 vd vm vo (mruns Q i).D (mruns Q i).M (mruns Q i).O wr)) (fun _ _ _ c _ => (p + r) - (intOf c).toNat)
  case atStart => exact ⟨0, by omega, rfl, S3⟩
  case round =>
    clear S3
    obtain ⟨i, hi, rfl, S⟩ := hrel
    obtain ⟨da, dc, rfl⟩ := S.out.d.shape
    obtain ⟨ma, mc, rfl⟩ := S.out.m.shape
    obtain ⟨oa, oc, rfl⟩ := S.out.o.shape
    have BI := MO.out i hi
    obtain ⟨ld, lo⟩ := mruns_len Q i
    by_cases hlt : i < p + r
    · have hlt' : (i : Int) < (p : Int) + (r : Int) := by omega
      have gl := ML.out i hlt
      have ok := BI.ok
      have LM := Lib.hid ok.len
      have AT := Lib.hid (rml_at ok (Q i) gl)
      have RS := Lib.hid (rmp_succ (fam (mruns Q i).D (mruns Q i).M) (pvt (mruns Q i).D) (Q i))
      have KE : Hid (mruns Q (i + 1) = kst (mruns Q i) (Q i)) := Lib.hid rfl
      have RD := Lib.hid S.out.rd
      have R0 : Hid (rmp (fam (mruns Q i).D (mruns Q i).M) (pvt (mruns Q i).D) (Q i) 0 = Q i) := Lib.hid rfl
      have OKK := Lib.hid ok
      have RL : Hid (rml (mruns Q i).D (mruns Q i).M (Q i) = rmp (fam (mruns Q i).D (mruns Q i).M) (pvt (mruns Q i).D) (Q i) (mruns Q i).D.length) := Lib.hid rfl
      have KZ := Lib.hid (@kst_zero (mruns Q i) (Q i))
      have KM := Lib.hid (@kst_more (mruns Q i) (Q i))
      have QI := Lib.hid (QE.out i)
      clear BI ok gl
      generalize mruns Q i = st at *
      generalize hq : (fun j => rmp (fam st.D st.M) (pvt st.D) (Q i) j) = q at *
      have HQ : Hid (∀ j, rmp (fam st.D st.M) (pvt st.D) (Q i) j = q j) := Lib.hid (fun j => by rw [← hq])
      clear hq
      by_cases hf : i < p
      · have hf' : (i : Int) < (p : Int) := by omega
        have QI : Hid (Q i = (LF.getD i 0, LF.getD i 0)) := Lib.hid (by rw [QI.out, if_pos hf])
        have HRi := F1.out.below S.out.bel
        unfold RdN at HRi
        rw [HP.out] at HRi
        obtain ⟨_, _, e, _, hc⟩ := HRi
        cases e
        obtain ⟨b, off, rfl, hc2⟩ := hc.resolve_left (by omega)
        have c1 : wr.cell? ⟨b, off + i, none⟩ = some (.int .i64 ((LF.getD i 0 : Nat) : Int)) := hc2 i hf
        clear hc hc2
        generalize LF.getD i 0 = xx at *
        go_wp2
        go_loop [11, 12, 13] (fun x o c => ∃ j : Nat, j ≤ st.D.length ∧ c = .int .i64 j ∧ x = .int .i64 (((q j).1 : Nat) : Int) ∧ o = .int .i64 (((q j).2 : Nat) : Int)) (fun _ _ c => st.D.length - (intOf c).toNat)
        case atStart =>
          refine ⟨0, by omega, rfl, ?_, ?_⟩
          · rw [← HQ.out, R0.out, QI.out]
          · rw [← HQ.out, R0.out, QI.out]
        case round =>
          obtain ⟨j, hj, rfl, rfl, rfl⟩ := hrel
          by_cases hjd : j < st.D.length
          · have hjd' : (j : Int) < (st.D.length : Int) := by omega
            obtain ⟨_, _, e1, _, hcd⟩ := RD.out.1
            cases e1
            obtain ⟨bd, od, rfl, hcd2⟩ := hcd.resolve_left (by omega)
            have d1 : wr.cell? ⟨bd, od + j, none⟩ = some (.int .i64 ((st.D.getD j 0 : Nat) : Int)) := hcd2 j hjd
            obtain ⟨_, _, e2, _, hcm⟩ := RD.out.2
            cases e2
            obtain ⟨bm, om, rfl, hcm2⟩ := hcm.resolve_left (by have := LM.out; omega)
            have d2 : wr.cell? ⟨bm, om + j, none⟩ = some (.int .i64 ((st.M.getD j 0 : Nat) : Int)) := hcm2 j (by have := LM.out; omega)
            clear hcd hcd2 hcm hcm2
            have hd := OKK.out.lt j hjd
            have hdm := OKK.out.tl j hjd
            have h0 := OKK.out.pos j hjd
            have QJ := AT.out j (by omega)
            rw [HQ.out] at QJ
            have QS := RS.out j
            rw [HQ.out, HQ.out] at QS
            have QS : Hid (q (j + 1) = stp (q j) (tz (st.D.getD j 0)) (st.D.getD j 0, st.M.getD j 0)) := Lib.hid QS
            have BT := Lib.hid (bit_test (q j).1 (tz (st.D.getD j 0)) QJ.1 (tz_lt60 _ h0 hd))
            have LW := Lib.hid (fun w => l02Low_any (st.D.getD j 0) w h0 hd)
            have X1 := Lib.hid (i64_xor (q j).1 (st.D.getD j 0) (by have := QJ.1; omega) (by omega))
            have X2 := Lib.hid (i64_xor (q j).2 (st.M.getD j 0) (by have := QJ.2; omega) (by omega))
            have H0 := Lib.hid h0
            have hjm : (j : Int) < (st.M.length : Int) := by have := LM.out; omega
            clear hd hdm h0 QJ
            generalize q j = y at *
            generalize st.D.getD j 0 = dd at *
            generalize st.M.getD j 0 = mm at *
            cases hb : y.1.testBit (tz dd) with
            | true =>
              have hb2 : (bits .and .i64 ((y.1 : Nat) : Int) ((2 ^ tz dd : Nat) : Int) != 0) = true := by rw [BT.out]; exact hb
              have E : Hid (q (j + 1) = (y.1 ^^^ dd, y.2 ^^^ mm)) := Lib.hid (by rw [QS.out]; unfold stp; rw [if_pos ⟨H0.out, hb⟩]; rfl)
              clear hb
              generalize ((2 ^ tz dd : Nat) : Int) = pw at *
              go_wp2_with (go_at_call 114; refine (LW.out _).mono ?_; rintro e w' ⟨rfl, rfl⟩)
              go_round
              case rel => exact ⟨j + 1, by omega, by go_num, by rw [E.out, ← X1.out], by rw [E.out, ← X2.out]⟩
              case measure => simp [intOf]; omega
            | false =>
              have hb2 : (bits .and .i64 ((y.1 : Nat) : Int) ((2 ^ tz dd : Nat) : Int) != 0) = false := by rw [BT.out]; exact hb
              have E : Hid (q (j + 1) = y) := Lib.hid (by rw [QS.out]; unfold stp; rw [if_neg (fun h => by have := h.2; rw [hb] at this; cases this)])
              clear hb
              generalize ((2 ^ tz dd : Nat) : Int) = pw at *
              go_wp2_with (go_at_call 114; refine (LW.out _).mono ?_; rintro e w' ⟨rfl, rfl⟩)
              go_round
              case rel => exact ⟨j + 1, by omega, by go_num, by rw [E.out], by rw [E.out]⟩
              case measure => simp [intOf]; omega
          · obtain rfl : j = st.D.length := by omega
            rw [HQ.out] at RL
            by_cases hz : (q st.D.length).1 = 0
            · have hb : ((((q st.D.length).1 : Nat) : Int) == 0) = true := by rw [hz]; rfl
              have EK : Hid (mruns Q (i + 1) = ⟨st.D, st.M, st.O ++ [(q st.D.length).2]⟩) := Lib.hid (by rw [KE.out, KZ.out (by rw [RL.out]; exact hz), RL.out])
              clear hz
              have A := Lib.hid (S.out.up ((Below.refl _ _).alloc (Nat.le_refl _) (.cells #[.int .i64 (((q st.D.length).2 : Nat) : Int)] 2)))
              go_wp2_with (at_builtin; refine wpList_append1L rfl _ _ rfl w2.heap.size _ st.O.length (nI st.O) rfl A.out.o _ _ 1 rfl (World.cell?_alloc_new _ _ _ _) ?c1 ?c2 ?_)
              case c1 => omega
              case c2 => have := A.out.bel.size; simpa using this
              intro g' cp w5 ho hg hl2
              have F := Lib.hid (A.out.pushO (x := (q st.D.length).2) (by rw [List.map_append]; exact ho) hg (by simpa using hl2))
              clear ho hg hl2
              go_wp2
              go_roundw
              case rel => exact ⟨i + 1, by omega, by go_num, Lib.hid (by rw [EK.out]; exact F.out)⟩
              case measure => simp [intOf]; omega
            · have hb : ((((q st.D.length).1 : Nat) : Int) == 0) = false := by rw [beq_eq_false_iff_ne]; omega
              have EK : Hid (mruns Q (i + 1) = ⟨st.D ++ [(q st.D.length).1], st.M ++ [(q st.D.length).2], st.O⟩) := Lib.hid (by rw [KE.out, KM.out (by rw [RL.out]; exact hz), RL.out])
              clear hz
              have A := Lib.hid (S.out.up ((Below.refl _ _).alloc (Nat.le_refl _) (.cells #[.int .i64 (((q st.D.length).1 : Nat) : Int)] 2)))
              go_wp2_with (at_builtin; refine wpList_append1L rfl _ _ rfl w2.heap.size _ st.D.length (nI st.D) rfl A.out.d _ _ 1 rfl (World.cell?_alloc_new _ _ _ _) ?c1 ?c2 ?_)
              case c1 => omega
              case c2 => have := A.out.bel.size; simpa using this
              intro g' cp w5 ho hg hl2
              have F := Lib.hid (A.out.pushD (x := (q st.D.length).1) (by rw [List.map_append]; exact ho) hg (by simpa using hl2))
              have A2 := Lib.hid (F.out.up ((Below.refl _ _).alloc (Nat.le_refl _) (.cells #[.int .i64 (((q st.D.length).2 : Nat) : Int)] 2)))
              clear ho hg hl2
              go_wp2_with (at_builtin; refine wpList_append1L rfl _ _ rfl w2.heap.size _ st.M.length (nI st.M) rfl A2.out.m _ _ 1 rfl (World.cell?_alloc_new _ _ _ _) ?c3 ?c4 ?_)
              case c3 => have := LM.out; omega
              case c4 => have := A2.out.bel.size; simpa using this
              intro g2 cp2 w6 ho hg hl2
              have F2 := Lib.hid (A2.out.pushM (x := (q st.D.length).2) (by rw [List.map_append]; exact ho) hg (by simpa using hl2))
              clear ho hg hl2
              go_wp2
              go_roundw
              case rel => exact ⟨i + 1, by omega, by go_num, Lib.hid (by rw [EK.out]; exact F2.out)⟩
              case measure => simp [intOf]; omega
      · have hf' : ¬ (i : Int) < (p : Int) := by omega
        have QI : Hid (Q i = (LS.getD (i - p) 0, 0)) := Lib.hid (by rw [QI.out, if_neg hf])
        have HRi := F2.out.below S.out.bel
        unfold RdN at HRi
        rw [HR.out] at HRi
        obtain ⟨_, _, e, _, hc⟩ := HRi
        cases e
        obtain ⟨b, off, rfl, hc2⟩ := hc.resolve_left (by omega)
        have c1 : wr.cell? ⟨b, off + (i - p), none⟩ = some (.int .i64 ((LS.getD (i - p) 0 : Nat) : Int)) := hc2 (i - p) (by omega)
        have esub : (i : Int) - (p : Int) = ((i - p : Nat) : Int) := by omega
        have hge : ((i - p : Nat) : Int) < (r : Int) := by omega
        clear hc hc2
        generalize LS.getD (i - p) 0 = xx at *
        go_wp2
        go_loop [11, 12, 13] (fun x o c => ∃ j : Nat, j ≤ st.D.length ∧ c = .int .i64 j ∧ x = .int .i64 (((q j).1 : Nat) : Int) ∧ o = .int .i64 (((q j).2 : Nat) : Int)) (fun _ _ c => st.D.length - (intOf c).toNat)
        case atStart =>
          refine ⟨0, by omega, rfl, ?_, ?_⟩
          · rw [← HQ.out, R0.out, QI.out]
          · rw [← HQ.out, R0.out, QI.out]; rfl
        case round =>
          obtain ⟨j, hj, rfl, rfl, rfl⟩ := hrel
          by_cases hjd : j < st.D.length
          · have hjd' : (j : Int) < (st.D.length : Int) := by omega
            obtain ⟨_, _, e1, _, hcd⟩ := RD.out.1
            cases e1
            obtain ⟨bd, od, rfl, hcd2⟩ := hcd.resolve_left (by omega)
            have d1 : wr.cell? ⟨bd, od + j, none⟩ = some (.int .i64 ((st.D.getD j 0 : Nat) : Int)) := hcd2 j hjd
            obtain ⟨_, _, e2, _, hcm⟩ := RD.out.2
            cases e2
            obtain ⟨bm, om, rfl, hcm2⟩ := hcm.resolve_left (by have := LM.out; omega)
            have d2 : wr.cell? ⟨bm, om + j, none⟩ = some (.int .i64 ((st.M.getD j 0 : Nat) : Int)) := hcm2 j (by have := LM.out; omega)
            clear hcd hcd2 hcm hcm2
            have hd := OKK.out.lt j hjd
            have hdm := OKK.out.tl j hjd
            have h0 := OKK.out.pos j hjd
            have QJ := AT.out j (by omega)
            rw [HQ.out] at QJ
            have QS := RS.out j
            rw [HQ.out, HQ.out] at QS
            have QS : Hid (q (j + 1) = stp (q j) (tz (st.D.getD j 0)) (st.D.getD j 0, st.M.getD j 0)) := Lib.hid QS
            have BT := Lib.hid (bit_test (q j).1 (tz (st.D.getD j 0)) QJ.1 (tz_lt60 _ h0 hd))
            have LW := Lib.hid (fun w => l02Low_any (st.D.getD j 0) w h0 hd)
            have X1 := Lib.hid (i64_xor (q j).1 (st.D.getD j 0) (by have := QJ.1; omega) (by omega))
            have X2 := Lib.hid (i64_xor (q j).2 (st.M.getD j 0) (by have := QJ.2; omega) (by omega))
            have H0 := Lib.hid h0
            have hjm : (j : Int) < (st.M.length : Int) := by have := LM.out; omega
            clear hd hdm h0 QJ
            generalize q j = y at *
            generalize st.D.getD j 0 = dd at *
            generalize st.M.getD j 0 = mm at *
            cases hb : y.1.testBit (tz dd) with
            | true =>
              have hb2 : (bits .and .i64 ((y.1 : Nat) : Int) ((2 ^ tz dd : Nat) : Int) != 0) = true := by rw [BT.out]; exact hb
              have E : Hid (q (j + 1) = (y.1 ^^^ dd, y.2 ^^^ mm)) := Lib.hid (by rw [QS.out]; unfold stp; rw [if_pos ⟨H0.out, hb⟩]; rfl)
              clear hb
              generalize ((2 ^ tz dd : Nat) : Int) = pw at *
              go_wp2_with (go_at_call 114; refine (LW.out _).mono ?_; rintro e w' ⟨rfl, rfl⟩)
              go_round
              case rel => exact ⟨j + 1, by omega, by go_num, by rw [E.out, ← X1.out], by rw [E.out, ← X2.out]⟩
              case measure => simp [intOf]; omega
            | false =>
              have hb2 : (bits .and .i64 ((y.1 : Nat) : Int) ((2 ^ tz dd : Nat) : Int) != 0) = false := by rw [BT.out]; exact hb
              have E : Hid (q (j + 1) = y) := Lib.hid (by rw [QS.out]; unfold stp; rw [if_neg (fun h => by have := h.2; rw [hb] at this; cases this)])
              clear hb
              generalize ((2 ^ tz dd : Nat) : Int) = pw at *
              go_wp2_with (go_at_call 114; refine (LW.out _).mono ?_; rintro e w' ⟨rfl, rfl⟩)
              go_round
              case rel => exact ⟨j + 1, by omega, by go_num, by rw [E.out], by rw [E.out]⟩
              case measure => simp [intOf]; omega
          · obtain rfl : j = st.D.length := by omega
            rw [HQ.out] at RL
            by_cases hz : (q st.D.length).1 = 0
            · have hb : ((((q st.D.length).1 : Nat) : Int) == 0) = true := by rw [hz]; rfl
              have EK : Hid (mruns Q (i + 1) = ⟨st.D, st.M, st.O ++ [(q st.D.length).2]⟩) := Lib.hid (by rw [KE.out, KZ.out (by rw [RL.out]; exact hz), RL.out])
              clear hz
              have A := Lib.hid (S.out.up ((Below.refl _ _).alloc (Nat.le_refl _) (.cells #[.int .i64 (((q st.D.length).2 : Nat) : Int)] 2)))
              go_wp2_with (at_builtin; refine wpList_append1L rfl _ _ rfl w2.heap.size _ st.O.length (nI st.O) rfl A.out.o _ _ 1 rfl (World.cell?_alloc_new _ _ _ _) ?c1 ?c2 ?_)
              case c1 => omega
              case c2 => have := A.out.bel.size; simpa using this
              intro g' cp w5 ho hg hl2
              have F := Lib.hid (A.out.pushO (x := (q st.D.length).2) (by rw [List.map_append]; exact ho) hg (by simpa using hl2))
              clear ho hg hl2
              go_wp2
              go_roundw
              case rel => exact ⟨i + 1, by omega, by go_num, Lib.hid (by rw [EK.out]; exact F.out)⟩
              case measure => simp [intOf]; omega
            · have hb : ((((q st.D.length).1 : Nat) : Int) == 0) = false := by rw [beq_eq_false_iff_ne]; omega
              have EK : Hid (mruns Q (i + 1) = ⟨st.D ++ [(q st.D.length).1], st.M ++ [(q st.D.length).2], st.O⟩) := Lib.hid (by rw [KE.out, KM.out (by rw [RL.out]; exact hz), RL.out])
              clear hz
              have A := Lib.hid (S.out.up ((Below.refl _ _).alloc (Nat.le_refl _) (.cells #[.int .i64 (((q st.D.length).1 : Nat) : Int)] 2)))
              go_wp2_with (at_builtin; refine wpList_append1L rfl _ _ rfl w2.heap.size _ st.D.length (nI st.D) rfl A.out.d _ _ 1 rfl (World.cell?_alloc_new _ _ _ _) ?c1 ?c2 ?_)
              case c1 => omega
              case c2 => have := A.out.bel.size; simpa using this
              intro g' cp w5 ho hg hl2
              have F := Lib.hid (A.out.pushD (x := (q st.D.length).1) (by rw [List.map_append]; exact ho) hg (by simpa using hl2))
              have A2 := Lib.hid (F.out.up ((Below.refl _ _).alloc (Nat.le_refl _) (.cells #[.int .i64 (((q st.D.length).2 : Nat) : Int)] 2)))
              clear ho hg hl2
              go_wp2_with (at_builtin; refine wpList_append1L rfl _ _ rfl w2.heap.size _ st.M.length (nI st.M) rfl A2.out.m _ _ 1 rfl (World.cell?_alloc_new _ _ _ _) ?c3 ?c4 ?_)
              case c3 => have := LM.out; omega
              case c4 => have := A2.out.bel.size; simpa using this
              intro g2 cp2 w6 ho hg hl2
              have F2 := Lib.hid (A2.out.pushM (x := (q st.D.length).2) (by rw [List.map_append]; exact ho) hg (by simpa using hl2))
              clear ho hg hl2
              go_wp2
              go_roundw
              case rel => exact ⟨i + 1, by omega, by go_num, Lib.hid (by rw [EK.out]; exact F2.out)⟩
              case measure => simp [intOf]; omega
    · obtain rfl : i = p + r := by omega
      have RO := Lib.hid (rdn_of_own S.out.o)
      have BL := Lib.hid S.out.bel
      have OBB := Lib.hid BI.ol
      rw [FIN.out] at *
      clear BI
      generalize mspec A B = K at *
      go_wp2_with fail
      refine (l02Reduce_any _ K wr RO.out OBB.out (by omega)).mono ?_
      rintro e w5 ⟨u, rfl, o5, b5⟩
      have O5 := Lib.hid (own_base (own_base o5 BL.out.size) B2.out.size)
      have B5 := Lib.hid (B2.out.trans ((BL.out.trans (b5.mono BL.out.size)).mono B2.out.size))
      clear o5 b5
      go_wp2_with fail
      go_ret
      exact ⟨_, rfl, O5.out, B5.out⟩

/-- Rows with themselves as traces, the first j. -/
def dbl (L : List Nat) (j : Nat) : Nat → TR := fun i => (L.getD i 0, if i < j then L.getD i 0 else 0)
theorem dbl_zero (L : List Nat) : dbl L 0 = fun i => (L.getD i 0, 0) := by funext i; simp [dbl]
theorem dbl_succ (L : List Nat) (j : Nat) : (fun i => if i = j then ((dbl L j j).1, L.getD j 0) else dbl L j i) = dbl L (j + 1) := by
  funext i
  unfold dbl
  by_cases e : i = j
  · subst e; simp
  · by_cases h : i < j
    · rw [if_neg e, if_pos h, if_pos (by omega)]
    · rw [if_neg e, if_neg h, if_neg (by omega)]

theorem doubledRows_any (s : Value) (L : List Nat) (w : World) (h : RdN w s L) (hl : L.length ≤ 200) :
    Calls Tryd.prog 107 #[s] w fun e w' => ∃ u, e = .returned u ∧ w'.ownsRow w.heap.size 91 2 u L.length (tc (fun i => (L.getD i 0, L.getD i 0)) L.length) ∧ Below w.heap.size w w' := by
  have PR := Lib.hid (plainRows_at s L w h (by omega))
  have t3 := Tryd.underlying91
  clear h
  rw [← dbl_zero] at PR
  have FIN : Hid (tc (fun i => (L.getD i 0, L.getD i 0)) L.length = tc (dbl L L.length) L.length) := Lib.hid (tc_congr fun i hi => by unfold dbl; rw [if_pos hi])
  generalize hn : L.length = n at *
  clear hn
  go_enter Tryd.func107, Tryd.ntmps107
  go_wp2_with fail
  refine PR.out.mono ?_
  rintro e w1 ⟨rfl, o1, b1⟩
  have H1 := Lib.hid o1
  have B1 := b1
  clear PR o1 b1
  go_wp2
  go_loopw [4, 9] (fun _ c wr => ∃ j : Nat, j ≤ n ∧ c = .int .i64 j ∧ Hid (wr.ownsRow w.heap.size 91 2 (.slice (some ⟨w.heap.size, 0, none⟩) n n) n (tc (dbl L j) n)) ∧ Below w.heap.size w wr) (fun _ c _ => n - (intOf c).toNat)
  case atStart => exact ⟨0, by omega, rfl, H1, B1⟩
  case round =>
    clear H1 B1
    obtain ⟨j, hj, rfl, ho, hb⟩ := hrel
    by_cases hlt : j < n
    · have hlt' : (j : Int) < (n : Int) := by omega
      have c1 := ho.out.cellAt (j * 2) (by omega)
      rw [tc_at0 _ _ _ hlt] at c1
      have c2 := ho.out.cellAt (j * 2 + 1) (by omega)
      rw [tc_at1 _ _ _ hlt] at c2
      have f2 := ho.out.frozenAt (j * 2 + 1)
      have e1 : (dbl L j j).1 = L.getD j 0 := rfl
      rw [e1] at c1
      have hst := ho.out.stored (j * 2 + 1) (.int .i64 ((L.getD j 0 : Nat) : Int))
      rw [tc_set1, dbl_succ] at hst
      have HS := Lib.hid hst
      have BS := Lib.hid (hb.setCell (p := ⟨w.heap.size, j * 2 + 1, none⟩) (Nat.le_refl _) (.int .i64 ((L.getD j 0 : Nat) : Int)))
      clear hst ho e1
      generalize (dbl L j j).2 = y at c2
      generalize L.getD j 0 = x at *
      go_wp2
      go_roundw
      case rel => exact ⟨j + 1, by omega, by go_num, Lib.hid HS.out.1, BS.out⟩
      case measure => simp [intOf]; omega
    · obtain rfl : j = n := by omega
      go_wp2
      go_ret
      exact ⟨_, rfl, by rw [FIN.out]; exact ho.out, hb⟩
end Go.Proofs.YtdojblmffmefgaaDoor
