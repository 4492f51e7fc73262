/-
  Joined: YIsC.
-/
import Derived.Test.YtggebkcmokpcmaaZBHit11
section
namespace Go.Proofs.Ytggebkcmokpcmaa
open Go.RowKit
set_option linter.unusedVariables false
set_option maxRecDepth 100000

set_option maxHeartbeats 2000000 in
theorem implIsP_go (k : Int) (V : Value) (m z : Nat) (r : Bool) (X : Nat → List Int) (w : World) (h : RdSS w V m X) (hk : 1 ≤ k ∧ k ≤ 4) (hok : okTerms X m) (hz : z ≤ m) (hgood : ∀ i, i < z → stepY k X i)
    (hend : (z = m ∧ r = true) ∨ (z < m ∧ ¬ stepY k X z ∧ r = false)) :
    Calls Try.prog 57 #[.agg #[.int .i64 k, V]] w (SaysB r w) := by
  have h' := h
  have hm : m ≤ 2000 := hok.1
  obtain ⟨⟨a, cap, rfl⟩, hsm, VS, hc, hr⟩ := h
  have t2 := Try.underlying31
  have B0 : Hid (Below w.heap.size w (w.alloc (.cells #[.int .i64 k, .slice a m cap] 31))) := Lib.hid ((Below.refl w.heap.size w).alloc (Nat.le_refl _) _)
  have BX : Hid (Box (w.alloc (.cells #[.int .i64 k, .slice a m cap] 31)) w.heap.size 31 (.int .i64 k) (.slice a m cap)) := Lib.hid (Box.new _ _ _ _)
  have A := Lib.hid (implTerm_yes _ m X _ (h'.below B0.out) hok)
  have HR := Lib.hid (fun i hi => (hr i hi).below B0.out)
  have HO := Lib.hid hgood
  have HE := Lib.hid hend
  have HK := Lib.hid hk
  have k1 : ¬ k < 1 := by omega
  have k4 : ¬ 4 < k := by omega
  clear h' hok hr hgood hend hk
  by_cases h0 : m = 0
  · subst h0
    obtain ⟨_, rfl⟩ := HE.out.resolve_right (fun h => by omega)
    clear hc HR HO HE HK
    have d1 := BX.out.c1
    go_enter Try.func57, Try.ntmps57
    go_wp2_with fail
    refine A.out.mono ?_
    rintro e w' ⟨rfl, rfl⟩
    go_wp2_with fail
    refine wp_loop_rounds 1 ?_
    rw [rounds_succ]
    go_wp2
    go_ret
    exact ⟨rfl, B0.out⟩
  · obtain ⟨b, off, ⟨cap', e⟩, hc'⟩ := hc.resolve_left h0
    cases e
    have hb : b < w.heap.size := World.block_lt_of_cell? w ⟨b, off + 0, none⟩ (hc' 0 (by omega))
    have HC : Hid (∀ i, i < m → (w.alloc (.cells #[.int .i64 k, .slice (some ⟨b, off, none⟩) m cap] 31)).cell? ⟨b, off + i, none⟩ = some (VS i)) := Lib.hid (fun i hi => (B0.out.cell (p := ⟨b, off + i, none⟩) hb).trans (hc' i hi))
    have HB1 : Hid (b < (w.alloc (.cells #[.int .i64 k, .slice (some ⟨b, off, none⟩) m cap] 31)).heap.size) := Lib.hid (by simp; omega)
    clear hc hc' hb
    go_enter Try.func57, Try.ntmps57
    go_wp2_with fail
    refine A.out.mono ?_
    rintro e w' ⟨rfl, rfl⟩
    clear A
    generalize (w.alloc (.cells #[.int .i64 k, .slice (some ⟨b, off, none⟩) m cap] 31)) = w1 at *
    have d1 := BX.out.c1
    go_wp2_with fail
    clear d1
    go_loopw [4, 22] (fun _ c wr => ∃ i : Nat, i ≤ z ∧ c = .int .i64 i ∧ Hid (Below w1.heap.size w1 wr)) (fun _ c _ => m - (intOf c).toNat)
    case atStart => exact ⟨0, by omega, rfl, Lib.hid (Below.refl _ _)⟩
    case round =>
      obtain ⟨i, hi, rfl, hw⟩ := hrel
      have d0 : wr.cell? ⟨w.heap.size, 0, none⟩ = some (.int .i64 k) := (BX.out.up hw.out).c0
      have d1 : wr.cell? ⟨w.heap.size, 1, none⟩ = some (.slice (some ⟨b, off, none⟩) m cap) := (BX.out.up hw.out).c1
      by_cases him : i < m
      · have hlt' : (i : Int) < (m : Int) := by omega
        have hpm : (0 : Int) < (m : Int) := by omega
        obtain ⟨v1, hv1⟩ : ∃ v, v = VS i := ⟨_, rfl⟩
        obtain ⟨v2, hv2⟩ : ∃ v, v = VS 0 := ⟨_, rfl⟩
        have c1 : wr.cell? ⟨b, off + i, none⟩ = some v1 := by rw [hv1]; exact (hw.out.cell (p := ⟨b, off + i, none⟩) HB1.out).trans (HC.out i him)
        have c2 : Hid (wr.cell? ⟨b, off, none⟩ = some v2) := Lib.hid (by rw [hv2]; exact (hw.out.cell (p := ⟨b, off, none⟩) HB1.out).trans (HC.out 0 (by omega)))
        have r1 : RdI wr v1 (X i).length (fun j => (X i)[j]?.getD 0) := by rw [hv1]; exact (HR.out i him).below hw.out
        have R1 := Lib.hid r1
        have R2 : Hid (RdI wr v2 (X 0).length (fun j => (X 0)[j]?.getD 0)) := Lib.hid (by rw [hv2]; exact (HR.out 0 (by omega)).below hw.out)
        obtain ⟨a1, q1, rfl, hm1, hc1⟩ := r1
        clear hv1 hv2 hc1
        have KEEP : Hid (∀ wx, Below wr.heap.size wr wx → (wx.cell? ⟨w.heap.size, 0, none⟩ = some (.int .i64 k) ∧ wx.cell? ⟨w.heap.size, 1, none⟩ = some (.slice (some ⟨b, off, none⟩) m cap) ∧ Below wr.heap.size wr wx)) :=
          Lib.hid (fun wx hb => ⟨(BX.out.up (hw.out.step1 hb)).c0, (BX.out.up (hw.out.step1 hb)).c1, hb⟩)
        have z0 : Below wr.heap.size wr wr.drew := (Below.refl _ _).drew
        by_cases hl : ((X i).length : Int) = k
        · have hlb : (((X i).length : Int) != k) = false := by rw [hl]; exact bne_self_eq_false _
          have hn4 : (X i).length ≤ 4 := by have := HK.out.2; omega
          have hn0 : 0 < (X i).length := by have := HK.out.1; omega
          by_cases hwd : isX (X i)
          · have E1 : Hid (∀ wx, Below wr.heap.size wr wx → Calls Try.prog 65 #[.slice a1 (X i).length q1] wx fun e w' => e = .returned (.bool true) ∧ wx = w') :=
              Lib.hid (fun wx hb => areExp_yes wx (R1.out.below hb) hn0 hn4 hwd)
            have p1 : Hid (DegIs wr (.slice a1 (X i).length q1) (sumL (X i))) := Lib.hid (degIs_exp R1.out hn4 (isX_iff.1 hwd).1)
            have p2 : Hid (DegIs wr v2 (sumL (X 0))) := Lib.hid (by
              by_cases e : i = 0
              · subst e
                exact degIs_exp R2.out hn4 (isX_iff.1 hwd).1
              · have s0 := HO.out 0 (by omega)
                exact degIs_exp R2.out (by have := s0.1; have := HK.out.2; omega) (isX_iff.1 s0.2.1).1)
            obtain ⟨n1, hn1⟩ : ∃ n1, n1 = (X i).length := ⟨_, rfl⟩
            have HL : Hid (((X i).length : Int) = k) := Lib.hid hl
            rw [← hn1] at hlb c1 E1 p1
            by_cases hlt : i < z
            · have hx := (HO.out i hlt).2.2
              rw [hx] at p1
              generalize sumL (X 0) = x at p1 p2
              clear R1 R2 hwd hx hl hn1 hn4 hn0
              have E3 : Hid (∀ wx, Below wr.heap.size wr wx → Calls Try.prog 58 #[.agg #[.int .i64 k, .slice (some ⟨b, off, none⟩) m cap]] wx fun e w' => e = .returned (.int .i64 x) ∧ Below wx.heap.size wx w') :=
                Lib.hid (fun wx hb => degreeP_any k _ m cap x wx (fun h => by omega) (fun _ => ⟨b, off, v2, rfl, (hb.cell (p := ⟨b, off, none⟩) (World.block_lt_of_cell? wr _ c2.out)).trans c2.out, p2.out.below hb⟩))
              go_wp2_with fail
              go_region_held3 (fun wx => wx.cell? ⟨w.heap.size, 0, none⟩ = some (.int .i64 k) ∧ wx.cell? ⟨w.heap.size, 1, none⟩ = some (.slice (some ⟨b, off, none⟩) m cap) ∧ Below wr.heap.size wr wx)
                (first | exact KEEP.out _ (Below.refl _ _).drew | exact KEEP.out _ (by assumption))
                (first | (go_at_call 65; refine (E1.out _ (by assumption)).mono ?_; rintro e wq ⟨rfl, rfl⟩) | (go_at_call 82; refine (degreeOfWord_is (p1.out.below (by assumption))).mono ?_; rintro e wq ⟨rfl, rfl⟩) | (go_at_call 58; refine (E3.out _ (by assumption)).mono ?_; rintro e w9 ⟨rfl, b9⟩; have z9 := z0.step1 b9))
              all_goals
                have H9 := Lib.hid (hw.out.step1 z9)
                go_wp2_with fail
                go_roundw
                case rel => exact ⟨i + 1, by omega, by go_num, H9⟩
                case measure => simp [intOf]; omega
            · obtain rfl : i = z := by omega
              obtain ⟨_, hbad, rfl⟩ := HE.out.resolve_left (fun h => by omega)
              have hx : (sumL (X i) != sumL (X 0)) = true := by
                rw [bne_iff_ne]
                exact fun e => hbad ⟨hl, hwd, e⟩
              generalize sumL (X 0) = x at p2 hx
              generalize sumL (X i) = y at p1 hx
              clear R1 R2 hwd hbad hl hn1 hn4 hn0
              have E3 : Hid (∀ wx, Below wr.heap.size wr wx → Calls Try.prog 58 #[.agg #[.int .i64 k, .slice (some ⟨b, off, none⟩) m cap]] wx fun e w' => e = .returned (.int .i64 x) ∧ Below wx.heap.size wx w') :=
                Lib.hid (fun wx hb => degreeP_any k _ m cap x wx (fun h => by omega) (fun _ => ⟨b, off, v2, rfl, (hb.cell (p := ⟨b, off, none⟩) (World.block_lt_of_cell? wr _ c2.out)).trans c2.out, p2.out.below hb⟩))
              go_wp2_with fail
              go_region_held3 (fun wx => wx.cell? ⟨w.heap.size, 0, none⟩ = some (.int .i64 k) ∧ wx.cell? ⟨w.heap.size, 1, none⟩ = some (.slice (some ⟨b, off, none⟩) m cap) ∧ Below wr.heap.size wr wx)
                (first | exact KEEP.out _ (Below.refl _ _).drew | exact KEEP.out _ (by assumption))
                (first | (go_at_call 65; refine (E1.out _ (by assumption)).mono ?_; rintro e wq ⟨rfl, rfl⟩) | (go_at_call 82; refine (degreeOfWord_is (p1.out.below (by assumption))).mono ?_; rintro e wq ⟨rfl, rfl⟩) | (go_at_call 58; refine (E3.out _ (by assumption)).mono ?_; rintro e w9 ⟨rfl, b9⟩; have z9 := z0.step1 b9))
              all_goals
                have H9 := Lib.hid (B0.out.trans ((hw.out.step1 z9).mono B0.out.size))
                go_wp2_with fail
                go_ret
                exact ⟨rfl, H9.out⟩
          · obtain rfl : i = z := by
              apply Decidable.byContradiction
              intro e
              exact hwd (HO.out i (by omega)).2.1
            obtain ⟨_, _, rfl⟩ := HE.out.resolve_left (fun h => by omega)
            have E1 : Hid (∀ n, Calls Try.prog 65 #[.slice a1 (X i).length q1] (wr.drewN n) fun e w' => e = .returned (.bool false) ∧ ∃ p, w' = (wr.drewN n).drewN p) :=
              Lib.hid (fun n => (areExp_no _ (R1.out.drewN n) hn0 hn4 hwd).mono fun e w' ⟨he, hw⟩ => ⟨he, 0, hw.symm⟩)
            have H9 := Lib.hid (B0.out.trans (hw.out.mono B0.out.size))
            obtain ⟨n1, hn1⟩ : ∃ n1, n1 = (X i).length := ⟨_, rfl⟩
            rw [← hn1] at hlb c1 E1
            clear R1 R2 hwd KEEP z0 hl hn1 hn4 hn0
            go_wp2_with fail
            go_quiet ((go_at_call 65; exact Calls.quiet_of (E1.out _)))
            go_wp2_with fail
            go_ret
            exact ⟨rfl, below_drewN H9.out _⟩
        · obtain rfl : i = z := by
            apply Decidable.byContradiction
            intro e
            exact hl (HO.out i (by omega)).1
          obtain ⟨_, _, rfl⟩ := HE.out.resolve_left (fun h => by omega)
          have hlb : (((X i).length : Int) != k) = true := by rw [bne_iff_ne]; exact hl
          have H9 := Lib.hid (B0.out.trans (hw.out.mono B0.out.size))
          generalize (X i).length = n1 at hlb c1
          clear hl R1 R2 KEEP z0
          go_wp2_with fail
          go_quiet (fail)
          go_wp2_with fail
          go_ret
          exact ⟨rfl, below_drewN H9.out _⟩
      · obtain rfl : i = m := by omega
        obtain rfl : r = true := by
          rcases HE.out with ⟨_, h⟩ | ⟨h, _⟩
          · exact h
          · omega
        have H9 := Lib.hid (B0.out.trans (hw.out.mono B0.out.size))
        go_wp2_with fail
        go_ret
        exact ⟨rfl, H9.out⟩

/-- Both answer the same: whether it is a polynomial. -/
theorem isP_yes (k : Int) (X : Nat → List Int) (m : Nat) (hok : okPl k X m) :
    (∀ V w, RdSS w V m X → Calls Try.prog 67 #[.agg #[.int .i64 k, V]] w (SaysB true w)) ∧
    (∀ V w, RdSS w V m X → Calls Try.prog 57 #[.agg #[.int .i64 k, V]] w (SaysB true w)) :=
  ⟨fun V w h => l08Is_go k V m m true X w h hok.1 hok.2.1.1 hok.2.1.2.2 (Nat.le_refl _) hok.2.2 (.inl ⟨rfl, rfl⟩),
    fun V w h => implIsP_go k V m m true X w h hok.1 hok.2.1 (Nat.le_refl _) hok.2.2 (.inl ⟨rfl, rfl⟩)⟩
theorem isP_no (k : Int) (X : Nat → List Int) (m : Nat) (hok : ¬ okPl k X m) :
    (∀ V w, RdSS w V m X → Calls Try.prog 67 #[.agg #[.int .i64 k, V]] w (SaysB false w)) ∧
    (∀ V w, RdSS w V m X → Calls Try.prog 57 #[.agg #[.int .i64 k, V]] w (SaysB false w)) := by
  by_cases hk : 1 ≤ k ∧ k ≤ 4
  · refine ⟨fun V w h => ?_, fun V w h => ?_⟩
    · by_cases hm : m ≤ 2000
      · by_cases hasc : ∀ i, i < m → stepOk X i
        · by_cases hs : ∀ i, i < m → stepY k X i
          · exact absurd ⟨hk, ⟨hm, fun i hi => by have := (hs i hi).1; have := hk.2; omega, hasc⟩, hs⟩ hok
          · obtain ⟨z, hz, hbad, hgood⟩ := first_bad0 (stepY k X) m hs
            exact l08Is_go k V m z false X w h hk hm hasc (by omega) hgood (.inr ⟨hz, hbad, rfl⟩)
        · exact l08Is_wild k V m X w h hk hm hasc
      · obtain ⟨a, cap, rfl⟩ := h.head
        exact l08Is_long k a m cap w hk (by omega)
    · by_cases ht : okTerms X m
      · obtain ⟨z, hz, hbad, hgood⟩ := first_bad0 (stepY k X) m (fun hs => hok ⟨hk, ht, hs⟩)
        exact implIsP_go k V m z false X w h hk ht (by omega) hgood (.inr ⟨hz, hbad, rfl⟩)
      · exact implIsP_wild k V m X w h hk ht
  · refine ⟨fun V w h => ?_, fun V w h => ?_⟩
    · obtain ⟨a, cap, rfl⟩ := h.head
      exact l08Is_k k a m cap w (by omega)
    · obtain ⟨a, cap, rfl⟩ := h.head
      exact implIsP_k k a m cap w (by omega)
theorem isP_both (k : Int) (X : Nat → List Int) (m : Nat) : ∃ r : Bool,
    (∀ V w, RdSS w V m X → Calls Try.prog 67 #[.agg #[.int .i64 k, V]] w (SaysB r w)) ∧
    (∀ V w, RdSS w V m X → Calls Try.prog 57 #[.agg #[.int .i64 k, V]] w (SaysB r w)) := by
  by_cases hok : okPl k X m
  · exact ⟨true, isP_yes k X m hok⟩
  · exact ⟨false, isP_no k X m hok⟩
end Go.Proofs.Ytggebkcmokpcmaa
end
