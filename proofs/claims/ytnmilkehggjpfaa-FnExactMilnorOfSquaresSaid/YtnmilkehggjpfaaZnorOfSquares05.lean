/-
  Joined: SIsI.
-/
import Derived.Test.YtnmilkehggjpfaaZnorOfSquares04
section
namespace Go.Proofs.Ytnmilkehggjpfaa
open Go.RowKit
set_option linter.unusedVariables false
set_option maxRecDepth 100000

theorem implIsS_wild (V : Value) (m : Nat) (X : Nat → List Int) (w : World) (h : RdSS w V m X) (hok : ¬ okTerms X m) :
    Calls Try.prog 81 #[.agg #[V]] w (SaysB false w) := by
  obtain ⟨a, cap, rfl⟩ := h.head
  have t2 := Try.underlying60
  have B0 : Hid (Below w.heap.size w (w.alloc (.cells #[.slice a m cap] 60))) := Lib.hid ((Below.refl w.heap.size w).alloc (Nat.le_refl _) _)
  have A := Lib.hid (implTerm_no _ m X _ (h.below B0.out) hok)
  clear h hok
  go_enter Try.func81, Try.ntmps81
  go_wp2_with fail
  refine A.out.mono ?_
  rintro e w' ⟨rfl, rfl⟩
  go_wp2_with fail
  go_ret
  exact ⟨rfl, B0.out⟩

theorem implIsS_go (V : Value) (m z : Nat) (r : Bool) (X : Nat → List Int) (w : World) (h : RdSS w V m X) (hok : okTerms X m) (hz : z ≤ m) (hgood : ∀ i, i < z → stepS X i)
    (hend : (z = m ∧ r = true) ∨ (z < m ∧ ¬ stepS X z ∧ r = false)) :
    Calls Try.prog 81 #[.agg #[V]] w (SaysB r w) := by
  have h' := h
  have hm : m ≤ 2000 := hok.1
  obtain ⟨⟨a, cap, rfl⟩, hsm, VS, hc, hr⟩ := h
  have t2 := Try.underlying60
  have B0 : Hid (Below w.heap.size w (w.alloc (.cells #[.slice a m cap] 60))) := Lib.hid ((Below.refl w.heap.size w).alloc (Nat.le_refl _) _)
  have BX : Hid (Box1 (w.alloc (.cells #[.slice a m cap] 60)) w.heap.size 60 (.slice a m cap)) := Lib.hid (Box1.new _ _ _)
  have A := Lib.hid (implTerm_yes _ m X _ (h'.below B0.out) hok)
  have HR := Lib.hid (fun i hi => (hr i hi).below B0.out)
  have HO := Lib.hid hgood
  have HE := Lib.hid hend
  clear h' hok hr hgood hend
  by_cases h0 : m = 0
  · subst h0
    obtain ⟨_, rfl⟩ := HE.out.resolve_right (fun h => by omega)
    clear hc HR HO HE BX
    go_enter Try.func81, Try.ntmps81
    go_wp2_with fail
    refine A.out.mono ?_
    rintro e w' ⟨rfl, rfl⟩
    go_wp2_with fail
    refine wp_loop_rounds 1 ?_
    rw [rounds_succ]
    go_wp2
    go_ret
    exact ⟨rfl, B0.out⟩
  · obtain ⟨b, off, ⟨cap', e⟩, hc'⟩ := hc.resolve_left h0
    cases e
    have hb : b < w.heap.size := World.block_lt_of_cell? w ⟨b, off + 0, none⟩ (hc' 0 (by omega))
    have HC : Hid (∀ i, i < m → (w.alloc (.cells #[.slice (some ⟨b, off, none⟩) m cap] 60)).cell? ⟨b, off + i, none⟩ = some (VS i)) := Lib.hid (fun i hi => (B0.out.cell (p := ⟨b, off + i, none⟩) hb).trans (hc' i hi))
    have HB1 : Hid (b < (w.alloc (.cells #[.slice (some ⟨b, off, none⟩) m cap] 60)).heap.size) := Lib.hid (by simp; omega)
    clear hc hc' hb
    go_enter Try.func81, Try.ntmps81
    go_wp2_with fail
    refine A.out.mono ?_
    rintro e w' ⟨rfl, rfl⟩
    clear A
    generalize (w.alloc (.cells #[.slice (some ⟨b, off, none⟩) m cap] 60)) = w1 at *
    have d0 := BX.out.c
    go_wp2_with fail
    clear d0
    go_loopw [4, 12] (fun _ c wr => ∃ k : Nat, k ≤ z ∧ c = .int .i64 k ∧ Hid (Below w1.heap.size w1 wr)) (fun _ c _ => m - (intOf c).toNat)
    case atStart => exact ⟨0, by omega, rfl, Lib.hid (Below.refl _ _)⟩
    case round =>
      obtain ⟨k, hk, rfl, hw⟩ := hrel
      have d0 : wr.cell? ⟨w.heap.size, 0, none⟩ = some (.slice (some ⟨b, off, none⟩) m cap) := (BX.out.up hw.out).c
      by_cases hkm : k < m
      · have hlt' : (k : Int) < (m : Int) := by omega
        have hpm : (0 : Int) < (m : Int) := by omega
        obtain ⟨v1, hv1⟩ : ∃ v, v = VS k := ⟨_, rfl⟩
        obtain ⟨v2, hv2⟩ : ∃ v, v = VS 0 := ⟨_, rfl⟩
        have c1 : wr.cell? ⟨b, off + k, none⟩ = some v1 := by rw [hv1]; exact (hw.out.cell (p := ⟨b, off + k, none⟩) HB1.out).trans (HC.out k hkm)
        have c2 : Hid (wr.cell? ⟨b, off, none⟩ = some v2) := Lib.hid (by rw [hv2]; exact (hw.out.cell (p := ⟨b, off, none⟩) HB1.out).trans (HC.out 0 (by omega)))
        have R1 : Hid (RdI wr v1 (X k).length (fun j => (X k)[j]?.getD 0)) := Lib.hid (by rw [hv1]; exact (HR.out k hkm).below hw.out)
        have R2 : Hid (RdI wr v2 (X 0).length (fun j => (X 0)[j]?.getD 0)) := Lib.hid (by rw [hv2]; exact (HR.out 0 (by omega)).below hw.out)
        clear hv1 hv2
        have KEEP : Hid (∀ wx, Below wr.heap.size wr wx → (wx.cell? ⟨w.heap.size, 0, none⟩ = some (.slice (some ⟨b, off, none⟩) m cap) ∧ Below wr.heap.size wr wx)) :=
          Lib.hid (fun wx hb => ⟨(BX.out.up (hw.out.step1 hb)).c, hb⟩)
        have z0 : Below wr.heap.size wr wr.drew := (Below.refl _ _).drew
        by_cases hwd : isW (X k)
        · have hw0 : isW (X 0) := by
            by_cases e : k = 0
            · subst e; exact hwd
            · exact (HO.out 0 (by omega)).1
          have E1 : Hid (∀ wx, Below wr.heap.size wr wx → Calls Try.prog 86 #[v1] wx fun e w' => e = .returned (.bool true) ∧ wx = w') :=
            Lib.hid (fun wx hb => isWord_yes v1 _ _ _ (R1.out.below hb) hwd)
          have p1 : Hid (DegIs wr v1 (sumL (X k))) := Lib.hid (degIs_word R1.out hwd)
          have p2 : Hid (DegIs wr v2 (sumL (X 0))) := Lib.hid (degIs_word R2.out hw0)
          by_cases hlt : k < z
          · have hx := (HO.out k hlt).2
            rw [hx] at p1
            generalize sumL (X 0) = x at p1 p2
            clear R1 R2 hwd hw0 hx
            have E3 : Hid (∀ wx, Below wr.heap.size wr wx → Calls Try.prog 114 #[.agg #[.slice (some ⟨b, off, none⟩) m cap]] wx fun e w' => e = .returned (.int .i64 x) ∧ Below wx.heap.size wx w') :=
              Lib.hid (fun wx hb => degree_any _ m cap x wx (fun h => by omega) (fun _ => ⟨b, off, v2, rfl, (hb.cell (p := ⟨b, off, none⟩) (World.block_lt_of_cell? wr _ c2.out)).trans c2.out, p2.out.below hb⟩))
            go_wp2_with fail
            go_region_held3 (fun wx => wx.cell? ⟨w.heap.size, 0, none⟩ = some (.slice (some ⟨b, off, none⟩) m cap) ∧ Below wr.heap.size wr wx)
              (first | exact KEEP.out _ (Below.refl _ _).drew | exact KEEP.out _ (by assumption))
              (first | (go_at_call 86; refine (E1.out _ (by assumption)).mono ?_; rintro e wq ⟨rfl, rfl⟩) | (go_at_call 113; refine (degreeOfWord_is (p1.out.below (by assumption))).mono ?_; rintro e wq ⟨rfl, rfl⟩) | (go_at_call 114; refine (E3.out _ (by assumption)).mono ?_; rintro e w9 ⟨rfl, b9⟩; have z9 := z0.step1 b9))
            all_goals
              have H9 := Lib.hid (hw.out.step1 z9)
              go_wp2_with fail
              go_roundw
              case rel => exact ⟨k + 1, by omega, by go_num, H9⟩
              case measure => simp [intOf]; omega
          · obtain rfl : k = z := by omega
            obtain ⟨_, hbad, rfl⟩ := HE.out.resolve_left (fun h => by omega)
            have hx : (sumL (X k) != sumL (X 0)) = true := by
              rw [bne_iff_ne]
              exact fun e => hbad ⟨hwd, e⟩
            generalize sumL (X 0) = x at p2 hx
            generalize sumL (X k) = y at p1 hx
            clear R1 R2 hwd hw0 hbad
            have E3 : Hid (∀ wx, Below wr.heap.size wr wx → Calls Try.prog 114 #[.agg #[.slice (some ⟨b, off, none⟩) m cap]] wx fun e w' => e = .returned (.int .i64 x) ∧ Below wx.heap.size wx w') :=
              Lib.hid (fun wx hb => degree_any _ m cap x wx (fun h => by omega) (fun _ => ⟨b, off, v2, rfl, (hb.cell (p := ⟨b, off, none⟩) (World.block_lt_of_cell? wr _ c2.out)).trans c2.out, p2.out.below hb⟩))
            go_wp2_with fail
            go_region_held3 (fun wx => wx.cell? ⟨w.heap.size, 0, none⟩ = some (.slice (some ⟨b, off, none⟩) m cap) ∧ Below wr.heap.size wr wx)
              (first | exact KEEP.out _ (Below.refl _ _).drew | exact KEEP.out _ (by assumption))
              (first | (go_at_call 86; refine (E1.out _ (by assumption)).mono ?_; rintro e wq ⟨rfl, rfl⟩) | (go_at_call 113; refine (degreeOfWord_is (p1.out.below (by assumption))).mono ?_; rintro e wq ⟨rfl, rfl⟩) | (go_at_call 114; refine (E3.out _ (by assumption)).mono ?_; rintro e w9 ⟨rfl, b9⟩; have z9 := z0.step1 b9))
            all_goals
              have H9 := Lib.hid (B0.out.trans ((hw.out.step1 z9).mono B0.out.size))
              go_wp2_with fail
              go_ret
              exact ⟨rfl, H9.out⟩
        · obtain rfl : k = z := by
            apply Decidable.byContradiction
            intro e
            exact hwd (HO.out k (by omega)).1
          obtain ⟨_, _, rfl⟩ := HE.out.resolve_left (fun h => by omega)
          have E1 : Hid (∀ n, Calls Try.prog 86 #[v1] (wr.drewN n) fun e w' => e = .returned (.bool false) ∧ ∃ p, w' = (wr.drewN n).drewN p) :=
            Lib.hid (fun n => (isWord_no v1 _ _ _ (R1.out.drewN n) hwd).mono fun e w' ⟨he, hw⟩ => ⟨he, 0, hw.symm⟩)
          have H9 := Lib.hid (B0.out.trans (hw.out.mono B0.out.size))
          clear R1 R2 hwd KEEP z0
          go_wp2_with fail
          go_quiet ((go_at_call 86; exact Calls.quiet_of (E1.out _)))
          go_wp2_with fail
          go_ret
          exact ⟨rfl, below_drewN H9.out _⟩
      · obtain rfl : k = m := by omega
        obtain rfl : r = true := by
          rcases HE.out with ⟨_, h⟩ | ⟨h, _⟩
          · exact h
          · omega
        have H9 := Lib.hid (B0.out.trans (hw.out.mono B0.out.size))
        go_wp2_with fail
        go_ret
        exact ⟨rfl, H9.out⟩

theorem isW_short {xs : List Int} (h : isW xs) : xs.length ≤ 20 := h.1

/-- Both answer the same: whether it is a sum of squares. -/
theorem isS_yes (X : Nat → List Int) (m : Nat) (hok : okSq X m) :
    (∀ V w, RdSS w V m X → Calls Try.prog 79 #[.agg #[V]] w (SaysB true w)) ∧
    (∀ V w, RdSS w V m X → Calls Try.prog 81 #[.agg #[V]] w (SaysB true w)) :=
  ⟨fun V w h => l03Is_go V m m true X w h hok.1.1 hok.1.2.2 (Nat.le_refl _) hok.2 (.inl ⟨rfl, rfl⟩),
    fun V w h => implIsS_go V m m true X w h hok.1 (Nat.le_refl _) hok.2 (.inl ⟨rfl, rfl⟩)⟩
theorem isS_no (X : Nat → List Int) (m : Nat) (hok : ¬ okSq X m) :
    (∀ V w, RdSS w V m X → Calls Try.prog 79 #[.agg #[V]] w (SaysB false w)) ∧
    (∀ V w, RdSS w V m X → Calls Try.prog 81 #[.agg #[V]] w (SaysB false w)) := by
  refine ⟨fun V w h => ?_, fun V w h => ?_⟩
  · by_cases hm : m ≤ 2000
    · by_cases hasc : ∀ i, i < m → stepOk X i
      · by_cases hs : ∀ i, i < m → stepS X i
        · exact absurd ⟨⟨hm, fun i hi => isW_short (hs i hi).1, hasc⟩, hs⟩ hok
        · obtain ⟨z, hz, hbad, hgood⟩ := first_bad0 (stepS X) m hs
          exact l03Is_go V m z false X w h hm hasc (by omega) hgood (.inr ⟨hz, hbad, rfl⟩)
      · exact l03Is_wild V m X w h hm hasc
    · exact l03Is_long V m X w h (by omega)
  · by_cases ht : okTerms X m
    · obtain ⟨z, hz, hbad, hgood⟩ := first_bad0 (stepS X) m (fun hs => hok ⟨ht, hs⟩)
      exact implIsS_go V m z false X w h ht (by omega) hgood (.inr ⟨hz, hbad, rfl⟩)
    · exact implIsS_wild V m X w h ht
theorem isS_both (X : Nat → List Int) (m : Nat) : ∃ r : Bool,
    (∀ V w, RdSS w V m X → Calls Try.prog 79 #[.agg #[V]] w (SaysB r w)) ∧
    (∀ V w, RdSS w V m X → Calls Try.prog 81 #[.agg #[V]] w (SaysB r w)) := by
  by_cases hok : okSq X m
  · exact ⟨true, isS_yes X m hok⟩
  · exact ⟨false, isS_no X m hok⟩
end Go.Proofs.Ytnmilkehggjpfaa
end
