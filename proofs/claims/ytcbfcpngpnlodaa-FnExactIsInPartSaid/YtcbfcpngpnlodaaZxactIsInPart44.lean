/-
  Joined: QInI.
-/
import Derived.Test.YtcbfcpngpnlodaaZxactIsInPart43
import Derived.Deep.RegionHeld3
section
namespace Go.Proofs.Ytcbfcpngpnlodaa
open Go Go.RowKit Go.Maps
set_option linter.unusedVariables false
set_option maxRecDepth 100000

theorem implIP_bad (a : Option Addr) (m cap : Nat) (v : Value) (w : World) (A : Hid (∀ wx, Below w.heap.size w wx → Calls Try.prog 70 #[.agg #[.slice a m cap]] wx (SaysB false wx))) :
    Calls Try.prog 35 #[.agg #[.slice a m cap], v] w (SaysV (.tuple #[.bool false, .int .i64 1]) w) := by
  have t2 := Try.underlying40
  have B0 : Hid (Below w.heap.size w (w.alloc (.cells #[.slice a m cap] 40))) := Lib.hid ((Below.refl w.heap.size w).alloc (Nat.le_refl _) _)
  go_enter Try.func35, Try.ntmps35
  go_wp2_with fail
  refine (A.out _ B0.out).mono ?_
  rintro e w' ⟨rfl, b2⟩
  have B2 := Lib.hid (B0.out.step1 b2)
  clear b2
  go_wp2_with fail
  go_ret2
  exact ⟨rfl, B2.out⟩
theorem implIP_no (a : Option Addr) (m cap n : Nat) (H : Nat → Int) (v : Value) (w : World) (hv : RdI w v n H) (h2 : ¬ okPr H n) (A : Hid (∀ wx, Below w.heap.size w wx → Calls Try.prog 70 #[.agg #[.slice a m cap]] wx (SaysB true wx))) :
    Calls Try.prog 35 #[.agg #[.slice a m cap], v] w (SaysV (.tuple #[.bool false, .int .i64 1]) w) := by
  have t2 := Try.underlying40
  have B0 : Hid (Below w.heap.size w (w.alloc (.cells #[.slice a m cap] 40))) := Lib.hid ((Below.refl w.heap.size w).alloc (Nat.le_refl _) _)
  have C := Lib.hid (fun (wx : World) (hb : Below w.heap.size w wx) => implIsPr_no v n H wx (hv.below hb) h2)
  clear hv h2
  go_enter Try.func35, Try.ntmps35
  go_wp2_with fail
  refine (A.out _ B0.out).mono ?_
  rintro e w' ⟨rfl, b2⟩
  have B2 := Lib.hid (B0.out.step1 b2)
  clear b2
  go_wp2_with fail
  refine (C.out _ B2.out).mono ?_
  rintro e w3 ⟨rfl, rfl⟩
  go_wp2_with fail
  go_ret2
  exact ⟨rfl, B2.out⟩

set_option maxHeartbeats 4000000 in
theorem implIP_some (a : Option Addr) (m cap n : Nat) (r : Bool) (X : Nat → List Int) (H : Nat → Int) (v : Value) (w : World) (h : RdSS w (.slice a m cap) m X) (hok : okMl X m) (hv : RdI w v n H) (h2 : okPr H n)
    (hr : r = true ↔ ∀ i, i < m → stepT X n H i) (A : Hid (∀ wx, Below w.heap.size w wx → Calls Try.prog 70 #[.agg #[.slice a m cap]] wx (SaysB true wx))) :
    Calls Try.prog 35 #[.agg #[.slice a m cap], v] w (SaysV (.tuple #[.bool r, .int .i64 0]) w) := by
  have t2 := Try.underlying40
  have tq := Try.underlying56
  have B0 : Hid (Below w.heap.size w (w.alloc (.cells #[.slice a m cap] 40))) := Lib.hid ((Below.refl w.heap.size w).alloc (Nat.le_refl _) _)
  have BX : Hid (Box1 (w.alloc (.cells #[.slice a m cap] 40)) w.heap.size 40 (.slice a m cap)) := Lib.hid (Box1.new _ _ _)
  have C := Lib.hid (fun (wx : World) (hb : Below w.heap.size w wx) => implIsPr_yes v n H wx (hv.below hb) h2)
  have PF := Lib.hid (fun (wx : World) (hb : Below w.heap.size w wx) => profileOf_any v n H wx (hv.below hb) h2.1)
  have hm2 : m ≤ 2000 := hok.1.1
  have HX : Hid (∀ i, i < m → okX (X i)) := Lib.hid (fun i hi => okX_of (hok.2 i hi).1)
  have LL := Lib.hid (fun (wx : World) (hb : Below w.heap.size w wx) => lists_rows (h.below hb) (by omega) HX.out)
  have HP := Lib.hid h2
  have HR := Lib.hid hr
  clear h hok hv h2 hr
  unfold SaysA at PF
  go_enter Try.func35, Try.ntmps35
  go_wp2_with fail
  refine (A.out _ B0.out).mono ?_
  rintro e w2 ⟨rfl, b2⟩
  have B2 := Lib.hid (B0.out.step1 b2)
  have c1 := (BX.out.up b2).c
  clear b2 B0 BX
  go_wp2_with fail
  refine (C.out _ B2.out).mono ?_
  rintro e w3 ⟨rfl, rfl⟩
  go_wp2_with fail
  obtain ⟨VS, L1⟩ := LL.out _ B2.out
  refine L1.mono ?_
  rintro e wm ⟨rfl, b3, k, D, SV, hk, M⟩
  generalize hg : w2.heap.size = g at *
  have BM : Hid (Below w.heap.size w wm) := Lib.hid (by rw [← hg] at b3; exact B2.out.step1 b3)
  have OWN := Lib.hid M.own
  have ST : Hid (∀ w0, wm.grownBy w0 none → w0.ranges Try.prog 56 RawQ g wm.heap.size k D (Maps.has D) (Maps.size D) → RgJ w m g wm.heap.size k D X (stepT X n H) (Maps.has D) (Maps.size D) w0) := Lib.hid fun w0 hg0 hr0 => RgJ.start BM.out M hg0 hr0
  clear b3 M L1 LL hk hg c1
  go_wp2_with (at_range; refine wpList_range_own _ rfl _ 69 rfl 56 35 keyedQ Try.underlying69 RawQ g k D rfl OWN.out ?_; intro w0 hrg0 hg0 hs0)
  have J0 := Lib.hid (ST.out w0 hg0 hrg0)
  clear hrg0 hg0 hs0 ST OWN
  generalize wm.heap.size = it at *
  go_wp2_with fail
  go_frame
  go_loopw [6] (fun _ wz => ∃ (left : Lit → Bool) (cnt : Nat), Hid (RgJ w m g it k D X (stepT X n H) left cnt wz)) (fun _ wz => wz.rangeLeft g it)
  case atStart => exact ⟨_, _, J0⟩
  case round =>
    clear J0
    obtain ⟨left, cnt, hJ⟩ := hrel
    have hrg := hJ.out.rg
    go_wp2_with (at_next; refine wpList_next_ranges _ rfl _ rfl 56 keyedQ RawQ (fun x : PKey => .agg x.1) id (fun key kl hk => by obtain ⟨k, e, hk'⟩ := keyQ_inv hk; exact ⟨⟨k, hk'⟩, e⟩) (fun v _ _ => ⟨v, rfl⟩) g it k D left cnt rfl hrg ?_ ?_)
    · intro hc0 hl0
      obtain rfl : r = true := HR.out.2 (hJ.out.all HX.out hl0)
      have BE := Lib.hid hJ.out.bel
      clear hrg hc0 hl0 hJ
      go_wp2_with fail
      go_ret2
      exact ⟨rfl, BE.out⟩
    · intro K hK c kl y1 y2 w4 cnt4 hkey hlk hR hat hrg4 hlt4 hg4 hs4 hen
      have hhas : Maps.has D kl = true := has_true_of_atKey hat
      obtain ⟨i0, hi0, ek⟩ := hJ.out.has_ K kl hkey hhas
      have ek2 : K = arK (lnX (X i0)) := ek.symm
      have hLq := hJ.out.rg.left_eq
      have DEC := Lib.hid (lnX_in (HX.out i0 hi0) HP.out)
      have J4 : Hid (stepT X n H i0 → RgJ w m g it k D X (stepT X n H) (fun z => left z && !z.sameKey kl) cnt4 w4) := Lib.hid (fun hs => hJ.out.turn hkey hg4 hrg4 (fun i hi e => (in_same (HX.out i hi) (HX.out i0 hi0) HP.out (by rw [e, ek])).2 hs))
      have B4 : Hid (Below w.heap.size w w4) := Lib.hid (hJ.out.bel.grown hg4 hJ.out.bel.size (fun q hq => by cases hq; exact hJ.out.ge))
      have II := Lib.hid (fun wx => isIn_any (lnX (X i0)) (padF n H) wx)
      have z1 : (Try.prog.info? 56).map (·.size) = some (arK (lnX (X i0))).toList.length := by rw [Array.length_toList]; exact sizeAr _
      have tl1 : (arK (lnX (X i0))).toList.toArray = arK (lnX (X i0)) := Array.toArray_toList
      have S5 := Lib.hid (arK_size (lnX (X i0)))
      have S1 := Lib.hid (arK_one (lnX (X i0)))
      have RN := Lib.hid (loadNewQ w4 _ S5.out)
      have DST : Hid (stepT X n H i0 ↔ sameA (meetF (lnX (X i0)) (padF n H)) (lnX (X i0)) = true) := Lib.hid DEC.out.symm
      clear DEC hhas ek hkey hlk hR hat hrg4 hg4 hs4 hrg hJ
      subst ek2
      unfold SaysV at II
      generalize arK (lnX (X i0)) = KF at *
      generalize arK (padF n H) = KP at *
      cases hb : sameA (meetF (lnX (X i0)) (padF n H)) (lnX (X i0)) with
      | true =>
        rw [hb] at II DST
        have J5 := Lib.hid (J4.out (DST.out.2 rfl))
        clear J4 hb
        go_wp2_with (refine stKQ w4 rfl _ _ rfl rfl KF rfl S5.out S1.out ?_)
        have J6 := Lib.hid (J5.out.up ((Below.refl _ w4).alloc (Nat.le_refl _) (.cells KF 56)))
        have BS : Hid (Below w.heap.size w (w4.alloc (.cells KF 56))) := Lib.hid (B4.out.step1 ((Below.refl _ w4).alloc (Nat.le_refl _) _))
        have HB : Hid (w4.heap.size < (w4.alloc (.cells KF 56)).heap.size) := Lib.hid (by simp)
        generalize (w4.alloc (.cells KF 56)) = ws at *
        generalize w4.heap.size = bk at *
        have R1 : Hid (∀ wx, Below ws.heap.size ws wx → wx.rangeAt bk 0 KF.toList) := Lib.hid (fun wx hb j x hx => (hb.cell (p := ⟨bk, 0 + j, none⟩) HB.out).trans (RN.out j x hx))
        have y0 : Below ws.heap.size ws ws.drew := (Below.refl _ _).drew
        refine wp_region_noPanic ?_
        refine wp_region_held_drew (S := fun wx => wx.rangeAt bk 0 KF.toList ∧ Below ws.heap.size ws wx) (by kernel_rfl) ⟨R1.out _ y0, y0⟩ (fun hHeld => ?_)
        refine wpAnyH_take (i := 0) (v := _) rfl (by kernel_rfl) (by kernel_rfl) (by kernel_rfl) (fun _ _ _ h => h) (yieldsIf_load_mid (by rfl) _ _ rfl _ _ rfl KF.toList _ (fun wx hw => hw.1) tq rfl z1) hHeld ?_
        simp only [List.getElem_toArray, List.getElem_cons_zero, Act.put, List.setIfInBounds_toArray, List.set_cons_zero, List.set_cons_succ]
        refine wpAnyH_take (i := 1) (v := ?_) rfl (by kernel_rfl) (by kernel_rfl) (by kernel_rfl) (fun _ _ _ h => h) (Or.inl ⟨by rfl, ?_⟩) hHeld ?_
        rotate_left
        · intro wx hw
          go_simp
          try with_reducible rfl
        simp only [List.getElem_toArray, List.getElem_cons_zero, List.getElem_cons_succ, Act.put, List.setIfInBounds_toArray, List.set_cons_zero, List.set_cons_succ]
        refine wpAnyH_ready (rs := [2]) (by kernel_rfl) (by simp) ?_
        refine AllReadyH.cons rfl (fun K hK => ?_) AllReadyH.nil
        go_simp
        go_at_call 55
        refine (PF.out _ (BS.out.step1 y0)).mono ?_
        rintro e wa ⟨rfl, ba⟩
        have y1 : Below ws.heap.size ws wa := below_one y0 ba
        refine hK.out _ _ ⟨R1.out _ y1, y1⟩ (fun hHeld => ?_)
        clear hK K
        refine wpAnyH_ready (rs := [3]) (by kernel_rfl) (by simp) ?_
        refine AllReadyH.cons rfl (fun K hK => ?_) AllReadyH.nil
        go_simp
        go_at_call 65
        refine (II.out _).mono ?_
        rintro e wb ⟨rfl, bb⟩
        have y2 : Below ws.heap.size ws wb := below_one y1 bb
        refine hK.out _ _ ⟨R1.out _ y2, y2⟩ (fun hHeld => ?_)
        clear hK K
        refine wpAnyH_take (i := 4) (v := ?_) rfl (by kernel_rfl) (by kernel_rfl) (by kernel_rfl) (fun _ _ _ h => h) (Or.inl ⟨by rfl, ?_⟩) hHeld ?_
        rotate_left
        · intro wx hw
          go_simp
          try with_reducible rfl
        simp only [List.getElem_toArray, List.getElem_cons_zero, List.getElem_cons_succ, Act.put, List.setIfInBounds_toArray, List.set_cons_zero, List.set_cons_succ]
        refine wpAnyH_done (by kernel_rfl) (NoPanic.normal ?_) _
        have J7 := Lib.hid (J6.out.up y2)
        go_wp2_with fail
        go_roundw
        case rel => exact ⟨_, cnt4, J7⟩
        case measure => rw [J7.out.rg.left_eq, hLq]; exact hlt4
      | false =>
        rw [hb] at II DST
        have hno : ¬ stepT X n H i0 := fun hs => by have := DST.out.1 hs; cases this
        obtain rfl : r = false := by
          cases r with
          | false => rfl
          | true => exact absurd (HR.out.1 rfl i0 hi0) hno
        clear J4 hb hno DST HR
        go_wp2_with (refine stKQ w4 rfl _ _ rfl rfl KF rfl S5.out S1.out ?_)
        have BS : Hid (Below w.heap.size w (w4.alloc (.cells KF 56))) := Lib.hid (B4.out.step1 ((Below.refl _ w4).alloc (Nat.le_refl _) _))
        have HB : Hid (w4.heap.size < (w4.alloc (.cells KF 56)).heap.size) := Lib.hid (by simp)
        generalize (w4.alloc (.cells KF 56)) = ws at *
        generalize w4.heap.size = bk at *
        have R1 : Hid (∀ wx, Below ws.heap.size ws wx → wx.rangeAt bk 0 KF.toList) := Lib.hid (fun wx hb j x hx => (hb.cell (p := ⟨bk, 0 + j, none⟩) HB.out).trans (RN.out j x hx))
        have y0 : Below ws.heap.size ws ws.drew := (Below.refl _ _).drew
        refine wp_region_noPanic ?_
        refine wp_region_held_drew (S := fun wx => wx.rangeAt bk 0 KF.toList ∧ Below ws.heap.size ws wx) (by kernel_rfl) ⟨R1.out _ y0, y0⟩ (fun hHeld => ?_)
        refine wpAnyH_take (i := 0) (v := _) rfl (by kernel_rfl) (by kernel_rfl) (by kernel_rfl) (fun _ _ _ h => h) (yieldsIf_load_mid (by rfl) _ _ rfl _ _ rfl KF.toList _ (fun wx hw => hw.1) tq rfl z1) hHeld ?_
        simp only [List.getElem_toArray, List.getElem_cons_zero, Act.put, List.setIfInBounds_toArray, List.set_cons_zero, List.set_cons_succ]
        refine wpAnyH_take (i := 1) (v := ?_) rfl (by kernel_rfl) (by kernel_rfl) (by kernel_rfl) (fun _ _ _ h => h) (Or.inl ⟨by rfl, ?_⟩) hHeld ?_
        rotate_left
        · intro wx hw
          go_simp
          try with_reducible rfl
        simp only [List.getElem_toArray, List.getElem_cons_zero, List.getElem_cons_succ, Act.put, List.setIfInBounds_toArray, List.set_cons_zero, List.set_cons_succ]
        refine wpAnyH_ready (rs := [2]) (by kernel_rfl) (by simp) ?_
        refine AllReadyH.cons rfl (fun K hK => ?_) AllReadyH.nil
        go_simp
        go_at_call 55
        refine (PF.out _ (BS.out.step1 y0)).mono ?_
        rintro e wa ⟨rfl, ba⟩
        have y1 : Below ws.heap.size ws wa := below_one y0 ba
        refine hK.out _ _ ⟨R1.out _ y1, y1⟩ (fun hHeld => ?_)
        clear hK K
        refine wpAnyH_ready (rs := [3]) (by kernel_rfl) (by simp) ?_
        refine AllReadyH.cons rfl (fun K hK => ?_) AllReadyH.nil
        go_simp
        go_at_call 65
        refine (II.out _).mono ?_
        rintro e wb ⟨rfl, bb⟩
        have y2 : Below ws.heap.size ws wb := below_one y1 bb
        refine hK.out _ _ ⟨R1.out _ y2, y2⟩ (fun hHeld => ?_)
        clear hK K
        refine wpAnyH_take (i := 4) (v := ?_) rfl (by kernel_rfl) (by kernel_rfl) (by kernel_rfl) (fun _ _ _ h => h) (Or.inl ⟨by rfl, ?_⟩) hHeld ?_
        rotate_left
        · intro wx hw
          go_simp
          try with_reducible rfl
        simp only [List.getElem_toArray, List.getElem_cons_zero, List.getElem_cons_succ, Act.put, List.setIfInBounds_toArray, List.set_cons_zero, List.set_cons_succ]
        refine wpAnyH_done (by kernel_rfl) (NoPanic.normal ?_) _
        have F7 := Lib.hid (BS.out.step1 y2)
        go_wp2_with fail
        go_ret2
        exact ⟨rfl, F7.out⟩
end Go.Proofs.Ytcbfcpngpnlodaa
end
