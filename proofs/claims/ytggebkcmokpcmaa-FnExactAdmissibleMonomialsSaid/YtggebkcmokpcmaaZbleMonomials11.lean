/-
  Joined: HKamD, HKamK, HKamB.
-/
import Derived.Test.YtggebkcmokpcmaaZBHit41
import Derived.Test.YtggebkcmokpcmaaZBHit42
import Derived.Test.YtggebkcmokpcmaaZBHit02
import Derived.Test.YtggebkcmokpcmaaZbleMonomials10
import Derived.Test.YtggebkcmokpcmaaZBHit14
section
namespace Go.Proofs.Ytggebkcmokpcmaa.Pl
open Go.RowKit
set_option linter.unusedVariables false
set_option maxRecDepth 100000

/-- The halves of the first k, as values. -/
def dnI (xs : List Int) (k : Nat) : List Value := ((xs.take k).map dnE).map (Value.int .i64)
theorem dnI_all (xs : List Int) : dnI xs xs.length = (dnL xs).map (Value.int .i64) := by unfold dnI dnL; rw [List.take_length]
theorem dnI_take (xs : List Int) (k : Nat) (h : k < xs.length) : dnI xs (k + 1) = dnI xs k ++ [.int .i64 (xs[k] / 2)] := by
  unfold dnI
  rw [List.take_add_one, List.getElem?_eq_getElem h, Option.toList_some, List.map_append, List.map_append]
  rfl
theorem allOdd_take (xs : List Int) (k : Nat) (h : k < xs.length) : allOdd (xs.take (k + 1)) = (allOdd (xs.take k) && (xs[k] % 2 == 1)) := by
  unfold allOdd
  rw [List.take_add_one, List.getElem?_eq_getElem h, Option.toList_some, List.all_append]
  simp

set_option maxHeartbeats 4000000 in
theorem specKamDown_ok (k0 : Int) (a0 : Option Addr) (m q0 : Nat) (X : Nat → List Int) (w : World) (hm : m ≤ 2000) (h : RdSS w (.slice a0 m q0) m X) (hX : ∀ i, i < m → (X i).length ≤ 4 ∧ ∀ z ∈ X i, 0 ≤ z ∧ z ≤ 40) (hA : Asc (rowsL X m))
    (IS : Hid (∀ wx, Below w.heap.size w wx → Calls Try.prog 67 #[.agg #[.int .i64 k0, .slice a0 m q0]] wx (SaysB true wx))) :
    Calls Try.prog 38 #[.agg #[.int .i64 k0, .slice a0 m q0]] w (ResY k0 (dnS (rowsL X m)) 0 w) := by
  have t2 := Try.underlying31
  obtain ⟨i0, hi0, hz0, hz1, hz2⟩ := info_parts Try.info2
  have HX := Lib.hid hX
  have HAS := Lib.hid hA
  obtain ⟨_, hsm, VS, hc, hr⟩ := h
  have HC := Lib.hid hc
  have HR := Lib.hid hr
  obtain ⟨w1, hw1⟩ : ∃ w1, w1 = ((w.alloc (.cells #[.int .i64 k0, .slice a0 m q0] 31)).alloc (.cells #[.int .i64 0, .slice none 0 0] 31)) := ⟨_, rfl⟩
  have S1 : Hid (Bx2Q w k0 (.slice a0 m q0) w1) := Lib.hid (by rw [hw1]; exact Bx2Q.start _ _ _)
  clear hX hA hc hr hsm
  have d0 := S1.out.boxA.c0
  have d1 := S1.out.boxA.c1
  go_enter Try.func38, Try.ntmps38
  go_upto_region 1 with fail
  rw [← hw1]
  clear hw1
  go_wp2_with fail
  refine (IS.out w1 S1.out.bel).mono ?_
  rintro e w2 ⟨rfl, b2⟩
  have S2 := Lib.hid (S1.out.up b2)
  clear b2 S1 d0 d1
  have d0 := S2.out.boxA.c0
  have d1 := S2.out.boxA.c1
  clear d0 d1
  have I0 : Hid (KamJ w k0 (.slice a0 m q0) (.slice (some ⟨w2.heap.size, 0, none⟩) 0 0) (fun _ => undef) (dnS (rowsL X 0)) (w2.alloc (.cells #[] 42))) := Lib.hid ⟨S2.out.up ((Below.refl _ _).alloc (Nat.le_refl _) _), ⟨own_base (World.ownsRow_made w2 #[] 0 (Nat.le_refl _) (Nat.zero_le _) (by simp)) S2.out.bel.size, fun i hi => absurd hi (Nat.not_lt_zero _)⟩, fun i j hi => absurd hi (Nat.not_lt_zero _)⟩
  clear S2
  go_wp2_with fail
  go_loopw [4, 5, 6, 7, 8] (fun S c _ _ _ wr => ∃ (i : Nat) (US : Nat → Value), i ≤ m ∧ c = .int .i64 i ∧ Hid (KamJ w k0 (.slice a0 m q0) S US (dnS (rowsL X i)) wr)) (fun _ c _ _ _ _ => m - (intOf c).toNat)
  case atStart => exact ⟨0, _, by omega, rfl, I0⟩
  case round =>
    clear I0
    obtain ⟨i, US, hi, rfl, hJ⟩ := hrel
    have d0 := hJ.out.bx.boxA.c0
    have d1 := hJ.out.bx.boxA.c1
    by_cases hlt : i < m
    · have hlt' : (i : Int) < (m : Int) := by omega
      obtain ⟨b, off, ⟨cap', e⟩, hc'⟩ := HC.out.resolve_left (by omega)
      cases e
      have hcb := hc' i hlt
      obtain ⟨ai, ci, evi, hmi, hci⟩ := HR.out i hlt
      rw [evi] at hcb
      have HCB := Lib.hid hcb
      have HCI := Lib.hid hci
      have HXI := Lib.hid (HX.out i hlt)
      have NXT : Hid (dnS (rowsL X (i + 1)) = dnS (rowsL X i) ++ (if allOdd (X i) then [dnL (X i)] else [])) := Lib.hid (by rw [rowsL_succ, dnS_snoc])
      have ASI : Hid (allOdd (X i) = true → Asc (dnS (rowsL X i) ++ [dnL (X i)])) := Lib.hid (fun ho => by
        have h9 := NXT.out
        rw [if_pos ho] at h9
        rw [← h9]
        refine asc_dn ?_
        have e : rowsL X m = rowsL X (i + 1) ++ (rowsL X m).drop (i + 1) := by
          rw [show rowsL X (i + 1) = (rowsL X m).take (i + 1) by unfold rowsL; rw [← List.map_take, List.take_range, Nat.min_eq_left (by omega)], List.take_append_drop]
        have := HAS.out
        rw [e] at this
        exact (List.pairwise_append.1 this).1)
      have LI : Hid ((dnS (rowsL X i)).length ≤ 2000 ∧ ∀ t ∈ dnS (rowsL X i), t.length ≤ 4) := Lib.hid ⟨by have := dnS_len (rowsL X i); rw [rowsL_len] at this; omega, fun t ht => by
        obtain ⟨x, hx, rfl⟩ := List.mem_map.1 ht
        obtain ⟨j, hj, rfl⟩ := mem_rowsL (List.mem_filter.1 hx).1
        rw [dnL_len]
        exact (HX.out j (by omega)).1⟩
      have SL : Hid (allOdd (X i) = true → ∀ (w1 : World) (v : Value) (B : Nat), Below wr.heap.size wr w1 → w1.ownsRow B 2 1 v (dnL (X i)).length ((dnL (X i)).map (Value.int .i64)) → Calls Try.prog 68 #[u4, .slice (some ⟨w1.heap.size, 0, none⟩) 1 1] (w1.alloc (.cells #[v] 42)) fun e w' => ∃ S' US', e = .returned S' ∧ KamJ w k0 (.slice (some ⟨b, off, none⟩) m q0) S' US' (dnS (rowsL X (i + 1))) w') := Lib.hid (fun ho9 w1 v B hb ho => by
        rw [NXT.out, if_pos ho9]
        exact sum_last hJ.out hb ho (ASI.out ho9) LI.out.1 LI.out.2 (by rw [dnL_len]; exact HXI.out.1))
      have SN : Hid (allOdd (X i) = false → ∀ w1, Below wr.heap.size wr w1 → KamJ w k0 (.slice (some ⟨b, off, none⟩) m q0) u4 US (dnS (rowsL X (i + 1))) w1) := Lib.hid (fun ho9 w1 hb => by
        rw [NXT.out, if_neg (by rw [ho9]; decide), List.append_nil]
        exact hJ.out.up hb)
      have B0 : Hid (Below wr.heap.size wr (wr.alloc (.cells #[] 2))) := Lib.hid ((Below.refl _ _).alloc (Nat.le_refl _) _)
      have O0 : Hid ((wr.alloc (.cells #[] 2)).ownsRow wr.heap.size 2 1 (.slice (some ⟨wr.heap.size, 0, none⟩) 0 0) 0 (dnI (X i) 0)) := Lib.hid (World.ownsRow_made wr #[] 0 (Nat.le_refl _) (Nat.zero_le _) (by simp))
      have JJ := hJ
      clear hJ hc' hcb hci NXT ASI LI evi
      generalize X i = xs at *
      go_wp2_with fail
      obtain ⟨wo, hwo⟩ : ∃ wo, wo = wr := ⟨_, rfl⟩
      subst hwo
      clear d0 d1
      go_loopw [6, 7, 8] (fun S o c wi => ∃ (k : Nat), k ≤ xs.length ∧ c = .int .i64 k ∧ o = .bool (allOdd (xs.take k)) ∧ Hid (wi.ownsRow wo.heap.size 2 1 S k (dnI xs k)) ∧ Hid (Below wo.heap.size wo wi)) (fun _ _ c _ => xs.length - (intOf c).toNat)
      case atStart => exact ⟨0, by omega, rfl, rfl, O0, B0⟩
      case round =>
        clear O0 B0
        obtain ⟨k, hk5, rfl, rfl, hO, hB⟩ := hrel
        have J5 := Lib.hid (JJ.out.up hB.out)
        have d1 := J5.out.bx.boxA.c1
        have c1 : wr.cell? ⟨b, off + i, none⟩ = some (.slice ai xs.length ci) := (J5.out.bx.bel.cell (p := ⟨b, off + i, none⟩) (World.block_lt_of_cell? w _ HCB.out)).trans HCB.out
        by_cases hkl : k < xs.length
        · have hkl' : (k : Int) < (xs.length : Int) := by omega
          obtain ⟨b2, off2, rfl, hc2⟩ := HCI.out.resolve_left (by omega)
          have c2 : wr.cell? ⟨b2, off2 + k, none⟩ = some (.int .i64 xs[k]) := by
            have := hc2 k hkl
            rw [List.getElem?_eq_getElem hkl, Option.getD_some] at this
            exact (J5.out.bx.bel.cell (p := ⟨b2, off2 + k, none⟩) (World.block_lt_of_cell? w _ this)).trans this
          have NX := Lib.hid (dnI_take xs k hkl)
          have NO := Lib.hid (allOdd_take xs k hkl)
          have hb := HXI.out.2 xs[k] (List.getElem_mem hkl)
          have hl4 := HXI.out.1
          generalize xs[k] = x at *
          obtain ⟨p, rfl⟩ : ∃ p : Nat, x = (p : Int) := ⟨x.toNat, by omega⟩
          obtain ⟨r1, hr1⟩ : ∃ r1, ((p : Int) % 2 == 1) = r1 := ⟨_, rfl⟩
          have NO2 : Hid (allOdd (xs.take (k + 1)) = (allOdd (xs.take k) && r1)) := Lib.hid (by rw [NO.out, hr1])
          generalize allOdd (xs.take k) = r at *
          have hsz := hB.out.size
          have CN := Lib.hid (cell_one_new wr (Value.int .i64 ((p : Int) / 2)) 2)
          clear hc2 NO
          cases r <;> cases r1
          all_goals
            go_wp2_with (at_builtin; refine wpList_append_own _ rfl _ _ 42 rfl wo.heap.size 2 i0 (.int .i64 0) 1 8 Try.underlying42 hi0 hz0 hz1 hz2 rfl (by decide) _ _ _ rfl (hO.out.alloc _) ⟨wr.heap.size, 0, none⟩ 1 1 [.int .i64 ((p : Int) / 2)] rfl rfl ?c1 ?c2 ?c3 ?c4 ?c5 ?_)
            case c1 => exact CN.out
            case c2 => intro u hu; simp at hu; subst hu; rfl
            case c3 => unfold maxLen; omega
            case c4 => omega
            case c5 => simp; omega
            intro v' w5 hown' hgrow _
            have HO5 : Hid (w5.ownsRow wo.heap.size 2 1 v' (k + 1) (dnI xs (k + 1))) := Lib.hid (by rw [NX.out]; exact hown')
            have HB5 : Hid (Below wo.heap.size wo w5) := Lib.hid ((hB.out.alloc hsz _).grown hgrow (by simp; omega) (fun k hk => (hO.out.lt k hk).1))
            clear hgrow hown' hO hB d1 c1 c2 NX J5
            go_wp2_with fail
            go_roundw
            case rel => exact ⟨k + 1, by omega, by go_num, by rw [NO2.out]; rfl, HO5, HB5⟩
            case measure => simp [intOf]; omega
        · obtain rfl : k = xs.length := by omega
          obtain ⟨ua, uc, eU, _⟩ := own_len hO.out
          subst eU
          have hO9 : Hid (wr.ownsRow wo.heap.size 2 1 (.slice ua xs.length uc) (dnL xs).length ((dnL xs).map (Value.int .i64))) := Lib.hid (by have := hO.out; rw [dnI_all] at this; rw [dnL_len]; exact this)
          have ET : xs.take xs.length = xs := List.take_length
          rw [ET]
          obtain ⟨r, hr⟩ : ∃ r, allOdd xs = r := ⟨_, rfl⟩
          rw [hr]
          cases r
          · have J7 := Lib.hid (SN.out hr wr hB.out)
            clear hO SL JJ J5 HCB HCI SN hr ET
            go_wp2_with fail
            go_roundw
            case rel => exact ⟨i + 1, US, by omega, by go_num, J7⟩
            case measure => simp [intOf]; omega
          · have SM := Lib.hid (SL.out hr wr _ _ hB.out hO9.out)
            clear hO SL JJ J5 HCB HCI SN hr ET
            go_wp2_with fail
            refine SM.out.mono ?_
            rintro e w5 ⟨S', US', rfl, J6⟩
            have J7 := Lib.hid J6
            clear J6 SM d1 c1
            go_wp2_with fail
            go_roundw
            case rel => exact ⟨i + 1, US', by omega, by go_num, J7⟩
            case measure => simp [intOf]; omega
    · obtain rfl : i = m := by omega
      generalize dnS (rowsL X i) = M at *
      obtain ⟨sa, sc, eS, _⟩ := Fam.head hJ.out.fam
      subst eS
      have r0 := hJ.out.bx.boxR.c0
      have r1 := hJ.out.bx.boxR.c1
      have f0 := hJ.out.bx.boxR.fr 0
      have f1 := hJ.out.bx.boxR.fr 1
      have FIN := Lib.hid (okEndQ (C := k0) hJ.out.bx (Below.refl _ _) hJ.out.fam hJ.out.sep 0)
      clear hJ
      go_wp2_with fail
      refine bodyPost_ret (results_box2_tmp rfl _ _ (w.heap.size + 1) _ _ _ rfl FIN.out.1 t2 (by kernel_rfl)) rfl ?_
      exact FIN.out.2
end Go.Proofs.Ytggebkcmokpcmaa.Pl
end
section
namespace Go.Proofs.Ytggebkcmokpcmaa.Pl
open Go.RowKit
set_option linter.unusedVariables false
set_option maxRecDepth 100000

def dnG (xs : List Int) (j : Nat) : Int := dnE (xs[j]?.getD 0)
theorem dnG_all (xs : List Int) : cpy (dnG xs) xs.length xs.length = dnL xs := cpy_of dnE xs
theorem allOdd_no (xs : List Int) (k : Nat) (h : k < xs.length) (ho : (xs[k] % 2 == 1) = false) : allOdd xs = false := by
  unfold allOdd
  rw [List.all_eq_false]
  exact ⟨xs[k], List.getElem_mem h, by rw [ho]; decide⟩

set_option maxHeartbeats 4000000 in
theorem implKamDown_ok (k0 : Int) (a0 : Option Addr) (m q0 : Nat) (X : Nat → List Int) (w : World) (hm : m ≤ 2000) (h : RdSS w (.slice a0 m q0) m X) (hX : ∀ i, i < m → (X i).length ≤ 4 ∧ ∀ z ∈ X i, 0 ≤ z ∧ z ≤ 40)
    (IS : Hid (∀ wx, Below w.heap.size w wx → Calls Try.prog 57 #[.agg #[.int .i64 k0, .slice a0 m q0]] wx (SaysB true wx))) :
    Calls Try.prog 39 #[.agg #[.int .i64 k0, .slice a0 m q0]] w (ResY k0 (dnS (rowsL X m)) 0 w) := by
  have t2 := Try.underlying31
  obtain ⟨i0, hi0, hz0, hz1, hz2⟩ := info_parts Try.info2
  obtain ⟨i1, hj1, hy0, hy1, hy2⟩ := info_parts Try.infoS
  have HX := Lib.hid hX
  obtain ⟨_, hsm, VS, hc, hr⟩ := h
  have HC := Lib.hid hc
  have HR := Lib.hid hr
  obtain ⟨w1, hw1⟩ : ∃ w1, w1 = ((w.alloc (.cells #[.int .i64 k0, .slice a0 m q0] 31)).alloc (.cells #[.int .i64 0, .slice none 0 0] 31)) := ⟨_, rfl⟩
  have S1 : Hid (Bx2Q w k0 (.slice a0 m q0) w1) := Lib.hid (by rw [hw1]; exact Bx2Q.start _ _ _)
  clear hX hc hr hsm
  have d0 := S1.out.boxA.c0
  have d1 := S1.out.boxA.c1
  go_enter Try.func39, Try.ntmps39
  go_upto_region 1 with fail
  rw [← hw1]
  clear hw1
  go_wp2_with fail
  go_step3
  go_wp2_with fail
  refine (IS.out w1 S1.out.bel).mono ?_
  rintro e w2 ⟨rfl, b2⟩
  have S2 := Lib.hid (S1.out.up b2)
  clear b2 S1 d0 d1
  have S3 := S2
  clear S2
  have d0 := S3.out.boxA.c0
  have d1 := S3.out.boxA.c1
  have I0 : Hid (KmI w w2.heap.size k0 (.slice a0 m q0) (.slice none 0 0) (fun _ => undef) (dnS (rowsL X 0)) (w2.alloc (.cells #[.int .i64 k0, .slice none 0 0] 31))) := Lib.hid (bx3_start S3.out)
  have I0' := Lib.hid (I0.out.bx.boxA.c1)
  clear S3
  go_upto_region 4 with fail
  generalize w2.heap.size = g at *
  generalize (w2.alloc (.cells #[.int .i64 k0, .slice none 0 0] 31)) = w4 at *
  clear d0 d1
  have d1 := I0'.out
  go_wp2_with fail
  go_step3
  go_wp2_with fail
  clear d1 I0'
  go_loopg [6, 7, 8, 9, 20] m (fun g2 _ _ _ _ c wr => ∃ (i : Nat) (S : Value) (US : Nat → Value), i + g2 = m ∧ c = .int .i64 i ∧ Hid (KmI w g k0 (.slice a0 m q0) S US (dnS (rowsL X i)) wr))
  case atStart => exact ⟨0, _, _, by omega, rfl, I0⟩
  case round =>
    clear I0
    obtain ⟨i, S, US, hi, rfl, hJ⟩ := hrel
    cases gk with
    | succ g2 =>
      have hlt : i < m := by omega
      have hlt' : (i : Int) < (m : Int) := by omega
      obtain ⟨b, off, ⟨cap', e⟩, hc'⟩ := HC.out.resolve_left (by omega)
      cases e
      have hcb := hc' i hlt
      obtain ⟨ai, ci, evi, hmi, hci⟩ := HR.out i hlt
      rw [evi] at hcb
      have c1 : wr.cell? ⟨b, off + i, none⟩ = some (.slice ai (X i).length ci) := (hJ.out.bx.bel.cell (p := ⟨b, off + i, none⟩) (World.block_lt_of_cell? w _ hcb)).trans hcb
      have HCI := Lib.hid hci
      have HXI := Lib.hid (HX.out i hlt)
      have NXT : Hid (allOdd (X i) = true → dnS (rowsL X (i + 1)) = dnS (rowsL X i) ++ [dnL (X i)]) := Lib.hid (fun ho => by rw [rowsL_succ, dnS_snoc, if_pos ho])
      have NXN : Hid (allOdd (X i) = false → dnS (rowsL X (i + 1)) = dnS (rowsL X i)) := Lib.hid (fun ho => by rw [rowsL_succ, dnS_snoc, if_neg (by rw [ho]; decide), List.append_nil])
      have LI : Hid ((dnS (rowsL X i)).length ≤ 2000) := Lib.hid (by have := dnS_len (rowsL X i); rw [rowsL_len] at this; omega)
      have hl4 := HXI.out.1
      generalize dnS (rowsL X i) = L at *
      clear hc' hcb hci evi
      generalize X i = xs at *
      go_upto_region 8 with (at_make; refine wpList_make_full _ rfl _ _ 42 rfl wr.heap.size 2 i0 (.int .i64 0) 1 Try.underlying42 hi0 hz0 hz1 .i64 .i64 (xs.length : Int) (xs.length : Int) xs.length rfl rfl rfl rfl (by rw [hz2]; omega) (by unfold maxLen; omega) (Nat.le_refl _) ?_; intro w5 hown hgrow; rw [made_list0, ← cpy_zero (dnG xs) xs.length] at hown; have H5 := Lib.hid hown; have G5 := Lib.hid hgrow; clear hown hgrow)
      have B5 : Hid (Below wr.heap.size wr w5) := Lib.hid ((Below.refl wr.heap.size wr).grown G5.out (Nat.le_refl _) (by intro q hq; cases hq))
      clear G5 c1
      go_wp2_with fail
      obtain ⟨wo, hwo⟩ : ∃ wo, wo = wr := ⟨_, rfl⟩
      subst hwo
      go_loopg [8, 9, 29] xs.length (fun g3 _ _ c wi => ∃ k : Nat, k + g3 = xs.length ∧ c = .int .i64 k ∧ Hid (wi.ownsRow wo.heap.size 2 1 (.slice (some ⟨wo.heap.size, 0, none⟩) xs.length xs.length) xs.length ((cpy (dnG xs) xs.length k).map (Value.int .i64))) ∧ Hid (allOdd (xs.take k) = true) ∧ Hid (Below wo.heap.size wo wi))
      case atStart => exact ⟨0, by omega, rfl, H5, Lib.hid rfl, B5⟩
      case round =>
        clear H5 B5
        obtain ⟨k, hk5, rfl, hO, hA, hB⟩ := hrel
        cases gk with
        | succ g3 =>
          have hkl : k < xs.length := by omega
          have hkl' : (k : Int) < (xs.length : Int) := by omega
          obtain ⟨b2, off2, rfl, hc2⟩ := HCI.out.resolve_left (by omega)
          have J5 := hJ.out.up hB.out
          have c2 : wr.cell? ⟨b2, off2 + k, none⟩ = some (.int .i64 xs[k]) := by
            have := hc2 k hkl
            rw [List.getElem?_eq_getElem hkl, Option.getD_some] at this
            exact (J5.bx.bel.cell (p := ⟨b2, off2 + k, none⟩) (World.block_lt_of_cell? w _ this)).trans this
          have c6 := hO.out.cellAt k (by omega)
          have hck : ((cpy (dnG xs) xs.length k).map (Value.int .i64))[k]? = some (.int .i64 0) := by simp [cpy, hkl]
          rw [hck] at c6
          have f6 := World.ownsRow.frozenAt hO.out k
          have ST := hO.out.stored k (.int .i64 (xs[k] / 2))
          have SX : ((cpy (dnG xs) xs.length k).map (Value.int .i64)).set k (.int .i64 (xs[k] / 2)) = (cpy (dnG xs) xs.length (k + 1)).map (Value.int .i64) := by
            rw [← cpy_set, ← List.map_set]
            congr 2
            unfold dnG dnE
            rw [List.getElem?_eq_getElem hkl, Option.getD_some]
          rw [SX] at ST
          have S1 := Lib.hid ST.1
          have S2 : Hid (Below wo.heap.size wo (wr.setCell ⟨wo.heap.size, k, none⟩ (.int .i64 (xs[k] / 2)))) := Lib.hid (hB.out.setCell (p := ⟨wo.heap.size, k, none⟩) (Nat.le_refl _) _)
          have hb := HXI.out.2 xs[k] (List.getElem_mem hkl)
          have NO : Hid ((xs[k] % 2 == 1) = true → allOdd (xs.take (k + 1)) = true) := Lib.hid (fun h1 => by rw [allOdd_take xs k hkl, hA.out, h1]; rfl)
          have NN := Lib.hid (allOdd_no xs k hkl)
          generalize xs[k] = y at *
          obtain ⟨p, rfl⟩ : ∃ p : Nat, y = (p : Int) := ⟨y.toNat, by omega⟩
          clear hc2 ST SX hck
          by_cases hp : p % 2 = 0
          · have hz : ((p : Int) % 2 == 0) = true := by rw [beq_iff_eq]; omega
            have J7 : Hid (KmI w g k0 (.slice (some ⟨b, off, none⟩) m q0) S US (dnS (rowsL X (i + 1))) wr) := Lib.hid (by rw [NXN.out (NN.out (by rw [beq_eq_false_iff_ne]; omega))]; exact J5)
            clear J5 S1 S2 NO NN hO hJ hB hp
            go_wp2_with fail
            go_roundg g2
            case rel => exact ⟨i + 1, S, US, by omega, by go_num, J7⟩
            case measure => omega
          · have hz : ((p : Int) % 2 == 0) = false := by rw [beq_eq_false_iff_ne]; omega
            have A2 := Lib.hid (NO.out (by rw [beq_iff_eq]; omega))
            clear J5 NO NN hO hB hp
            go_wp2_with fail
            go_roundg g3
            case rel => exact ⟨k + 1, by omega, by go_num, S1, A2, S2⟩
            case measure => omega
        | zero =>
          obtain rfl : k = xs.length := by omega
          have AL : allOdd xs = true := by have := hA.out; rw [List.take_length] at this; exact this
          have NX9 := Lib.hid (NXT.out AL)
          clear AL
          have J5 := Lib.hid (hJ.out.up hB.out)
          have d1 := J5.out.bD.c1
          have f1 := J5.out.bD.fr 1
          obtain ⟨sa, sc, eS, _⟩ := Fam.head J5.out.fam
          subst eS
          have HV : Hid (wr.ownsRow wo.heap.size 2 1 (.slice (some ⟨wo.heap.size, 0, none⟩) xs.length xs.length) (dnL xs).length ((dnL xs).map (Value.int .i64))) := Lib.hid (by have := hO.out; rw [dnG_all] at this; rw [dnL_len]; exact this)
          have PU := Lib.hid (fun V8 w8 ho hg => KmI.push (x := dnL xs) (V8 := V8) (w8 := w8) hJ.out hB.out HV.out (.cells #[.slice (some ⟨wo.heap.size, 0, none⟩) xs.length xs.length] 42) ho hg)
          have E0 := J5.out.ge
          have E1 := Lib.hid (cell_one_new wr (Value.slice (some ⟨wo.heap.size, 0, none⟩) xs.length xs.length) 42)
          have F3A := Lib.hid (J5.out.fam.out.alloc (.cells #[Value.slice (some ⟨wo.heap.size, 0, none⟩) xs.length xs.length] 42))
          have li := LI.out
          clear hO HV hJ hB J5
          go_wp2_with (at_builtin; refine wpList_append_own _ rfl _ _ 25 rfl (g + 1) 42 i1 (.slice none 0 0) 1 24 Try.underlying25 hj1 hy0 hy1 hy2 rfl (by decide) _ _ _ rfl F3A.out ⟨wr.heap.size, 0, none⟩ 1 1 [.slice (some ⟨wo.heap.size, 0, none⟩) xs.length xs.length] rfl rfl E1.out ?c2 ?c3 ?c4 ?c5 ?_)
          case c2 => intro u hu; rw [List.mem_singleton.1 hu]; rfl
          case c3 => unfold maxLen; omega
          case c4 => omega
          case c5 => simp; omega
          intro V8 w8 ho8 hg8 _
          have PP := Lib.hid (PU.out V8 w8 ho8 hg8)
          obtain ⟨a8, c8, e8⟩ := own_shape4 ho8
          subst e8
          have x8 := PP.out.1.c1
          have g8 := PP.out.1.fr 1
          have D9 := Lib.hid PP.out.2
          rw [← NX9.out] at D9
          clear PP PU ho8 hg8 E1 F3A d1 f1
          go_wp2_with fail
          go_roundg g2
          case rel => exact ⟨i + 1, _, _, by omega, by go_num, D9⟩
          case measure => omega
    | zero =>
      obtain rfl : i = m := by omega
      generalize dnS (rowsL X i) = M at *
      obtain ⟨sa, sc, eS, _⟩ := Fam.head hJ.out.fam
      subst eS
      have e0 := hJ.out.bD.c0
      have e1 := hJ.out.bD.c1
      have r0 := hJ.out.bx.boxR.c0
      have r1 := hJ.out.bx.boxR.c1
      have f0 := hJ.out.bx.boxR.fr 0
      have f1 := hJ.out.bx.boxR.fr 1
      have FIN := Lib.hid (okEndQ (C := k0) hJ.out.bx (Below.refl _ _) (hJ.out.fam.base (B' := w.heap.size) (by have := hJ.out.lo; omega)) hJ.out.sep 0)
      clear hJ
      go_wp2_with fail
      try rw [Exit.noGoto_ret]
      refine bodyPost_ret (results_box2_tmp rfl _ _ (w.heap.size + 1) _ _ _ rfl FIN.out.1 t2 (by kernel_rfl)) rfl ?_
      exact FIN.out.2
end Go.Proofs.Ytggebkcmokpcmaa.Pl
end
section
namespace Go.Proofs.Ytggebkcmokpcmaa.Pl
open Go.RowKit
set_option linter.unusedVariables false
set_option maxRecDepth 100000

theorem _root_.Go.Proofs.Ytggebkcmokpcmaa.okPl.small {k : Int} {X : Nat → List Int} {m : Nat} (h : okPl k X m) (i : Nat) (hi : i < m) : (X i).length ≤ 4 ∧ ∀ z ∈ X i, 0 ≤ z ∧ z ≤ 40 := by
  obtain ⟨a, b, _⟩ := h.rows i hi
  refine ⟨by have := h.1; omega, fun z hz => ?_⟩
  obtain ⟨j, hj, rfl⟩ := List.getElem_of_mem hz
  have := (isX_iff.1 b).1 j hj
  unfold gOf at this
  rw [List.getElem?_eq_getElem hj] at this
  exact this
theorem _root_.Go.Proofs.Ytggebkcmokpcmaa.okPl.asc {k : Int} {X : Nat → List Int} {m : Nat} (h : okPl k X m) : Asc (rowsL X m) := asc_rows X m h.2.1.2.2
theorem rows_small {k : Int} {X : Nat → List Int} {m : Nat} (h : okPl k X m) (f : List Int → List Int) (hf : ∀ t, (f t).length = t.length) (L : List (List Int)) (hL : ∀ t ∈ L, t ∈ rowsL X m) : ∀ t ∈ L.map f, t.length = k.toNat := fun t ht => by
  obtain ⟨x, hx, rfl⟩ := List.mem_map.1 ht
  rw [hf]
  exact h.len x (hL x hx)

set_option maxHeartbeats 1000000 in
theorem KamekoUp_both (c0 : Int) (m : Nat) (X : Nat → List Int) :
    ∃ (C : Int) (L : List (List Int)) (cd : Int), L.length ≤ 4000 ∧ (∀ i, (rowsOf L i).length ≤ 20) ∧
      (∀ va VA Ba w, Fam w Ba va m VA X → Calls Try.prog 40 #[.agg #[.int .i64 c0, va]] w (ResY C L cd w)) ∧
      (∀ va w, RdSS w va m X → Calls Try.prog 41 #[.agg #[.int .i64 c0, va]] w (ResY C L cd w)) := by
  by_cases h0 : okPl c0 X m
  · obtain ⟨s0, i0⟩ := isP_yes c0 X m h0
    have hx := dgP_bnd h0
    have hk := h0.1
    by_cases hov : 40 < 2 * dgP X m + c0
    · have hm : 0 < m := by
        apply Nat.pos_of_ne_zero; intro e
        have : dgP X m = 0 := if_pos e
        omega
      refine ⟨0, [], 3, Nat.zero_le _, rows0, ?_, ?_⟩
      · intro va VA Ba w ha
        obtain ⟨b0, o0, v0, q0, rfl, e0, d0⟩ := headP h0 hm ha.rdss
        exact specKamUp_over (dgP X m) c0 b0 o0 v0 m q0 w hm hx hk hov e0 (by rw [show dgP X m = sumL (X 0) from if_neg (by omega)]; exact d0) (Lib.hid fun wx hb => s0 _ wx (ha.rdss.below hb))
      · intro va w ha
        obtain ⟨a0, q0, rfl⟩ := ha.head
        exact implKamUp_over (dgP X m) c0 a0 m q0 w hx hk hov (Lib.hid fun wx hb => i0 _ wx (ha.below hb)) (Lib.hid (degP_any h0 a0 q0 w ha))
    · refine ⟨c0, (rowsL X m).map upL, 0, by rw [List.length_map, rowsL_len]; have := h0.few; omega, rows4 (rows_small h0 upL upL_len _ fun t ht => ht) (by omega), ?_, ?_⟩
      · intro va VA Ba w ha
        obtain ⟨a0, q0, rfl⟩ := ha.rdss.head
        refine specKamUp_ok c0 a0 m q0 X w hk h0.few ha.rdss h0.small h0.asc ?_ (Lib.hid fun wx hb => s0 _ wx (ha.rdss.below hb))
        by_cases hm : m = 0
        · exact .inl hm
        · obtain ⟨b0, o0, v0, q0', e0, c0', d0⟩ := headP h0 (by omega) ha.rdss
          cases e0
          exact .inr ⟨by omega, b0, o0, v0, dgP X m, rfl, c0', by rw [show dgP X m = sumL (X 0) from if_neg hm]; exact d0, hx, by omega⟩
      · intro va w ha
        obtain ⟨a0, q0, rfl⟩ := ha.head
        exact implKamUp_ok (dgP X m) c0 a0 m q0 X w hx hk (by omega) h0.few ha h0.small (Lib.hid fun wx hb => i0 _ wx (ha.below hb)) (Lib.hid (degP_any h0 a0 q0 w ha))
  · obtain ⟨s0, i0⟩ := isP_no c0 X m h0
    refine ⟨0, [], 1, Nat.zero_le _, rows0, ?_, ?_⟩
    · intro va VA Ba w ha
      obtain ⟨a0, q0, rfl⟩ := ha.rdss.head
      exact specKamUp_bad c0 a0 m q0 w (Lib.hid fun wx hb => s0 _ wx (ha.rdss.below hb))
    · intro va w ha
      obtain ⟨a0, q0, rfl⟩ := ha.head
      exact implKamUp_bad c0 a0 m q0 w (Lib.hid fun wx hb => i0 _ wx (ha.below hb))

set_option maxHeartbeats 1000000 in
theorem KamekoDown_both (c0 : Int) (m : Nat) (X : Nat → List Int) :
    ∃ (C : Int) (L : List (List Int)) (cd : Int), L.length ≤ 4000 ∧ (∀ i, (rowsOf L i).length ≤ 20) ∧
      (∀ va VA Ba w, Fam w Ba va m VA X → Calls Try.prog 38 #[.agg #[.int .i64 c0, va]] w (ResY C L cd w)) ∧
      (∀ va w, RdSS w va m X → Calls Try.prog 39 #[.agg #[.int .i64 c0, va]] w (ResY C L cd w)) := by
  by_cases h0 : okPl c0 X m
  · obtain ⟨s0, i0⟩ := isP_yes c0 X m h0
    have hk := h0.1
    refine ⟨c0, dnS (rowsL X m), 0, by have := dnS_len (rowsL X m); rw [rowsL_len] at this; have := h0.few; omega, rows4 (rows_small h0 dnL dnL_len _ fun t ht => (List.mem_filter.1 ht).1) (by omega), ?_, ?_⟩
    · intro va VA Ba w ha
      obtain ⟨a0, q0, rfl⟩ := ha.rdss.head
      exact specKamDown_ok c0 a0 m q0 X w h0.few ha.rdss h0.small h0.asc (Lib.hid fun wx hb => s0 _ wx (ha.rdss.below hb))
    · intro va w ha
      obtain ⟨a0, q0, rfl⟩ := ha.head
      exact implKamDown_ok c0 a0 m q0 X w h0.few ha h0.small (Lib.hid fun wx hb => i0 _ wx (ha.below hb))
  · obtain ⟨s0, i0⟩ := isP_no c0 X m h0
    refine ⟨0, [], 1, Nat.zero_le _, rows0, ?_, ?_⟩
    · intro va VA Ba w ha
      obtain ⟨a0, q0, rfl⟩ := ha.rdss.head
      exact specKamDown_bad c0 a0 m q0 w (Lib.hid fun wx hb => s0 _ wx (ha.rdss.below hb))
    · intro va w ha
      obtain ⟨a0, q0, rfl⟩ := ha.head
      exact implKamDown_bad c0 a0 m q0 w (Lib.hid fun wx hb => i0 _ wx (ha.below hb))
end Go.Proofs.Ytggebkcmokpcmaa.Pl
end
