/-
  Joined: NIsI.
-/
import Derived.Test.YtcbfcpngpnlodaaZsisOfProfile28
section
namespace Go.Proofs.Ytcbfcpngpnlodaa
open Go.RowKit
set_option linter.unusedVariables false
set_option maxRecDepth 100000

theorem implIsM_wild (V : Value) (m : Nat) (X : Nat → List Int) (w : World) (h : RdSS w V m X) (hok : ¬ okTerms X m) :
    Calls Try.prog 70 #[.agg #[V]] w (SaysB false w) := by
  obtain ⟨a, cap, rfl⟩ := h.head
  have t2 := Try.underlying40
  have B0 : Hid (Below w.heap.size w (w.alloc (.cells #[.slice a m cap] 40))) := Lib.hid ((Below.refl w.heap.size w).alloc (Nat.le_refl _) _)
  have A := Lib.hid (implTerm_no _ m X _ (h.below B0.out) hok)
  clear h hok
  go_enter Try.func70, Try.ntmps70
  go_wp2_with fail
  refine A.out.mono ?_
  rintro e w' ⟨rfl, rfl⟩
  go_wp2_with fail
  go_ret
  exact ⟨rfl, B0.out⟩

theorem implIsM_go (V : Value) (m z : Nat) (r : Bool) (X : Nat → List Int) (w : World) (h : RdSS w V m X) (hok : okTerms X m) (hz : z ≤ m) (hgood : ∀ i, i < z → stepM X i)
    (hend : (z = m ∧ r = true) ∨ (z < m ∧ ¬ stepM X z ∧ r = false)) :
    Calls Try.prog 70 #[.agg #[V]] w (SaysB r w) := by
  have h' := h
  have hm : m ≤ 2000 := hok.1
  obtain ⟨⟨a, cap, rfl⟩, hsm, VS, hc, hr⟩ := h
  have t2 := Try.underlying40
  have B0 : Hid (Below w.heap.size w (w.alloc (.cells #[.slice a m cap] 40))) := Lib.hid ((Below.refl w.heap.size w).alloc (Nat.le_refl _) _)
  have BX : Hid (Box1 (w.alloc (.cells #[.slice a m cap] 40)) w.heap.size 40 (.slice a m cap)) := Lib.hid (Box1.new _ _ _)
  have A := Lib.hid (implTerm_yes _ m X _ (h'.below B0.out) hok)
  have HR := Lib.hid (fun i hi => (hr i hi).below B0.out)
  have HO := Lib.hid hgood
  have HE := Lib.hid hend
  clear h' hok hr hgood hend
  by_cases h0 : m = 0
  · subst h0
    obtain ⟨_, rfl⟩ := HE.out.resolve_right (fun h => by omega)
    clear hc HR HO HE BX
    go_enter Try.func70, Try.ntmps70
    go_wp2_with fail
    refine A.out.mono ?_
    rintro e w' ⟨rfl, rfl⟩
    go_wp2_with fail
    refine wp_loop_rounds 1 ?_
    rw [rounds_succ]
    go_wp2
    go_ret
    exact ⟨rfl, B0.out⟩
  · obtain ⟨b, off, ⟨cap', e⟩, hc'⟩ := hc.resolve_left h0
    cases e
    have hb : b < w.heap.size := World.block_lt_of_cell? w ⟨b, off + 0, none⟩ (hc' 0 (by omega))
    have HC : Hid (∀ i, i < m → (w.alloc (.cells #[.slice (some ⟨b, off, none⟩) m cap] 40)).cell? ⟨b, off + i, none⟩ = some (VS i)) := Lib.hid (fun i hi => (B0.out.cell (p := ⟨b, off + i, none⟩) hb).trans (hc' i hi))
    have HB1 : Hid (b < (w.alloc (.cells #[.slice (some ⟨b, off, none⟩) m cap] 40)).heap.size) := Lib.hid (by simp; omega)
    clear hc hc' hb
    go_enter Try.func70, Try.ntmps70
    go_wp2_with fail
    refine A.out.mono ?_
    rintro e w' ⟨rfl, rfl⟩
    clear A
    generalize (w.alloc (.cells #[.slice (some ⟨b, off, none⟩) m cap] 40)) = w1 at *
    have d0 := BX.out.c
    go_wp2_with fail
    clear d0
    go_loopw [4, 5, 6, 14] (fun _ _ _ c wr => ∃ k : Nat, k ≤ z ∧ c = .int .i64 k ∧ Hid (Below w1.heap.size w1 wr)) (fun _ _ _ c _ => m - (intOf c).toNat)
    case atStart => exact ⟨0, by omega, rfl, Lib.hid (Below.refl _ _)⟩
    case round =>
      obtain ⟨k, hk, rfl, hw⟩ := hrel
      have d0 : wr.cell? ⟨w.heap.size, 0, none⟩ = some (.slice (some ⟨b, off, none⟩) m cap) := (BX.out.up hw.out).c
      by_cases hkm : k < m
      · have hlt' : (k : Int) < (m : Int) := by omega
        have hpm : (0 : Int) < (m : Int) := by omega
        obtain ⟨v1, hv1⟩ : ∃ v, v = VS k := ⟨_, rfl⟩
        obtain ⟨v2, hv2⟩ : ∃ v, v = VS 0 := ⟨_, rfl⟩
        have c1 : wr.cell? ⟨b, off + k, none⟩ = some v1 := by rw [hv1]; exact (hw.out.cell (p := ⟨b, off + k, none⟩) HB1.out).trans (HC.out k hkm)
        have c2 : Hid (wr.cell? ⟨b, off, none⟩ = some v2) := Lib.hid (by rw [hv2]; exact (hw.out.cell (p := ⟨b, off, none⟩) HB1.out).trans (HC.out 0 (by omega)))
        have R1 : Hid (RdI wr v1 (X k).length (fun j => (X k)[j]?.getD 0)) := Lib.hid (by rw [hv1]; exact (HR.out k hkm).below hw.out)
        have R2 : Hid (RdI wr v2 (X 0).length (fun j => (X 0)[j]?.getD 0)) := Lib.hid (by rw [hv2]; exact (HR.out 0 (by omega)).below hw.out)
        clear hv1 hv2
        by_cases hwd : isE (X k)
        · have p1 := degreeOf_is (degE_list R1.out hwd)
          have hw0 : isE (X 0) := by
            by_cases e : k = 0
            · subst e; exact hwd
            · exact (HO.out 0 (by omega)).1.1
          have p2 : Hid (DegE wr v2 (dgL (X 0))) := Lib.hid (degE_list R2.out hw0)
          by_cases h40 : dgL (X k) ≤ 40
          · rw [dgV_small h40, dgC_small h40] at p1
            have P1 := Lib.hid p1
            clear p1
            have h00 : dgL (X 0) ≤ 40 := by
              by_cases e : k = 0
              · subst e; exact h40
              · exact (HO.out 0 (by omega)).1.2
            have E3 : Hid (∀ wx, Below wr.heap.size wr wx → Calls Try.prog 97 #[.agg #[.slice (some ⟨b, off, none⟩) m cap]] wx fun e w' => e = .returned (.int .i64 (dgL (X 0))) ∧ Below wx.heap.size wx w') :=
              Lib.hid (fun wx hb => degreeM_any _ m cap _ wx (fun h => by omega) h00 (fun _ => ⟨b, off, v2, rfl, (hb.cell (p := ⟨b, off, none⟩) (World.block_lt_of_cell? wr _ c2.out)).trans c2.out, p2.out.below hb⟩))
            by_cases hlt : k < z
            · have hx := (HO.out k hlt).2
              rw [hx] at P1 h40
              generalize dgL (X 0) = x at P1 E3 h40
              clear R1 R2 hwd hw0 hx h00 p2
              go_wp2_with fail
              refine P1.out.mono ?_
              rintro e wq ⟨rfl, rfl⟩
              go_wp2_with fail
              refine (E3.out _ (Below.refl _ _)).mono ?_
              rintro e w9 ⟨rfl, z9⟩
              focus
                have H9 := Lib.hid (hw.out.step1 z9)
                go_wp2_with fail
                go_roundw
                case rel => exact ⟨k + 1, by omega, by go_num, H9⟩
                case measure => simp [intOf]; omega
            · obtain rfl : k = z := by omega
              obtain ⟨_, hbad, rfl⟩ := HE.out.resolve_left (fun h => by omega)
              have hx : (dgL (X k) != dgL (X 0)) = true := by
                rw [bne_iff_ne]
                exact fun e => hbad ⟨⟨hwd, h40⟩, e⟩
              generalize dgL (X 0) = x at E3 hx
              generalize dgL (X k) = y at P1 hx h40
              clear R1 R2 hwd hw0 hbad p2 h00
              go_wp2_with fail
              refine P1.out.mono ?_
              rintro e wq ⟨rfl, rfl⟩
              go_wp2_with fail
              refine (E3.out _ (Below.refl _ _)).mono ?_
              rintro e w9 ⟨rfl, z9⟩
              focus
                have H9 := Lib.hid (B0.out.trans ((hw.out.step1 z9).mono B0.out.size))
                go_wp2_with fail
                go_ret
                exact ⟨rfl, H9.out⟩
          · obtain rfl : k = z := by
              apply Decidable.byContradiction
              intro e
              exact h40 (HO.out k (by omega)).1.2
            obtain ⟨_, _, rfl⟩ := HE.out.resolve_left (fun h => by omega)
            have H9 := Lib.hid (B0.out.trans (hw.out.mono B0.out.size))
            clear R1 R2 hwd hw0 p2 c2
            by_cases hbig : 1000000000000 < dgL (X k)
            · have e1 : dgV (dgL (X k)) = 0 := by unfold dgV; rw [if_pos hbig]
              have e2 : dgC (dgL (X k)) = 3 := by unfold dgC; rw [if_pos hbig]
              rw [e1, e2] at p1
              have P1 := Lib.hid p1
              clear p1 e1 e2
              go_wp2_with fail
              refine P1.out.mono ?_
              rintro e wq ⟨rfl, rfl⟩
              go_wp2_with fail
              go_ret
              exact ⟨rfl, H9.out⟩
            · have e1 : dgV (dgL (X k)) = dgL (X k) := by unfold dgV; rw [if_neg hbig]
              have e2 : dgC (dgL (X k)) = 0 := by unfold dgC; rw [if_neg hbig]
              rw [e1, e2] at p1
              have P1 := Lib.hid p1
              clear p1 e1 e2
              have h40' : 40 < dgL (X k) := by omega
              generalize dgL (X k) = y at P1 h40 h40' hbig
              clear h40 hbig
              go_wp2_with fail
              refine P1.out.mono ?_
              rintro e wq ⟨rfl, rfl⟩
              go_wp2_with fail
              go_ret
              exact ⟨rfl, H9.out⟩
        · obtain rfl : k = z := by
            apply Decidable.byContradiction
            intro e
            exact hwd (HO.out k (by omega)).1.1
          obtain ⟨_, _, rfl⟩ := HE.out.resolve_left (fun h => by omega)
          have P1 := Lib.hid (implDegree_bad v1 _ _ _ R1.out hwd)
          have H9 := Lib.hid (B0.out.trans (hw.out.mono B0.out.size))
          clear R1 R2 hwd c2
          go_wp2_with fail
          refine P1.out.mono ?_
          rintro e wq ⟨rfl, rfl⟩
          go_wp2_with fail
          go_ret
          exact ⟨rfl, H9.out⟩
      · obtain rfl : k = m := by omega
        obtain rfl : r = true := by
          rcases HE.out with ⟨_, h⟩ | ⟨h, _⟩
          · exact h
          · omega
        have H9 := Lib.hid (B0.out.trans (hw.out.mono B0.out.size))
        go_wp2_with fail
        go_ret
        exact ⟨rfl, H9.out⟩

theorem isE_short {xs : List Int} (h : isE xs) : xs.length ≤ 20 := by have := h.1; omega

/-- Both answer the same: whether it is an element. -/
theorem isM_yes (X : Nat → List Int) (m : Nat) (hok : okMl X m) :
    (∀ V w, RdSS w V m X → Calls Try.prog 67 #[.agg #[V]] w (SaysB true w)) ∧
    (∀ V w, RdSS w V m X → Calls Try.prog 70 #[.agg #[V]] w (SaysB true w)) :=
  ⟨fun V w h => l04Is_go V m m true X w h hok.1.1 hok.1.2.2 (Nat.le_refl _) hok.2 (.inl ⟨rfl, rfl⟩),
    fun V w h => implIsM_go V m m true X w h hok.1 (Nat.le_refl _) hok.2 (.inl ⟨rfl, rfl⟩)⟩
theorem isM_no (X : Nat → List Int) (m : Nat) (hok : ¬ okMl X m) :
    (∀ V w, RdSS w V m X → Calls Try.prog 67 #[.agg #[V]] w (SaysB false w)) ∧
    (∀ V w, RdSS w V m X → Calls Try.prog 70 #[.agg #[V]] w (SaysB false w)) := by
  refine ⟨fun V w h => ?_, fun V w h => ?_⟩
  · by_cases hm : m ≤ 2000
    · by_cases hasc : ∀ i, i < m → stepOk X i
      · by_cases hs : ∀ i, i < m → stepM X i
        · exact absurd ⟨⟨hm, fun i hi => isE_short (hs i hi).1.1, hasc⟩, hs⟩ hok
        · obtain ⟨z, hz, hbad, hgood⟩ := first_bad (stepM X) m hs
          exact l04Is_go V m z false X w h hm hasc (by omega) hgood (.inr ⟨hz, hbad, rfl⟩)
      · exact l04Is_wild V m X w h hm hasc
    · exact l04Is_long V m X w h (by omega)
  · by_cases ht : okTerms X m
    · obtain ⟨z, hz, hbad, hgood⟩ := first_bad (stepM X) m (fun hs => hok ⟨ht, hs⟩)
      exact implIsM_go V m z false X w h ht (by omega) hgood (.inr ⟨hz, hbad, rfl⟩)
    · exact implIsM_wild V m X w h ht
theorem isM_both (X : Nat → List Int) (m : Nat) : ∃ r : Bool,
    (∀ V w, RdSS w V m X → Calls Try.prog 67 #[.agg #[V]] w (SaysB r w)) ∧
    (∀ V w, RdSS w V m X → Calls Try.prog 70 #[.agg #[V]] w (SaysB r w)) := by
  by_cases hok : okMl X m
  · exact ⟨true, isM_yes X m hok⟩
  · exact ⟨false, isM_no X m hok⟩
end Go.Proofs.Ytcbfcpngpnlodaa
end
