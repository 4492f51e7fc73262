/-
  Joined: NIsI, KMark, SBoxR, NRes.
-/
import Derived.Test.YtnmilkehggjpfaaZBMil11
import Derived.Test.YtnmilkehggjpfaaZBMil06
import Derived.Test.YtnmilkehggjpfaaZBMil03
import Derived.Test.YtnmilkehggjpfaaZBMil07
import Derived.Test.YtnmilkehggjpfaaZBMil08
section
namespace Go.Proofs.Ytnmilkehggjpfaa
open Go.RowKit
set_option linter.unusedVariables false
set_option maxRecDepth 100000

theorem implIsM_wild (V : Value) (m : Nat) (X : Nat → List Int) (w : World) (h : RdSS w V m X) (hok : ¬ okTerms X m) :
    Calls Try.prog 53 #[.agg #[V]] w (SaysB false w) := by
  obtain ⟨a, cap, rfl⟩ := h.head
  have t2 := Try.underlying45
  have B0 : Hid (Below w.heap.size w (w.alloc (.cells #[.slice a m cap] 45))) := Lib.hid ((Below.refl w.heap.size w).alloc (Nat.le_refl _) _)
  have A := Lib.hid (implTerm_no _ m X _ (h.below B0.out) hok)
  clear h hok
  go_enter Try.func53, Try.ntmps53
  go_wp2_with fail
  refine A.out.mono ?_
  rintro e w' ⟨rfl, rfl⟩
  go_wp2_with fail
  go_ret
  exact ⟨rfl, B0.out⟩

theorem implIsM_go (V : Value) (m z : Nat) (r : Bool) (X : Nat → List Int) (w : World) (h : RdSS w V m X) (hok : okTerms X m) (hz : z ≤ m) (hgood : ∀ i, i < z → stepM X i)
    (hend : (z = m ∧ r = true) ∨ (z < m ∧ ¬ stepM X z ∧ r = false)) :
    Calls Try.prog 53 #[.agg #[V]] w (SaysB r w) := by
  have h' := h
  have hm : m ≤ 2000 := hok.1
  obtain ⟨⟨a, cap, rfl⟩, hsm, VS, hc, hr⟩ := h
  have t2 := Try.underlying45
  have B0 : Hid (Below w.heap.size w (w.alloc (.cells #[.slice a m cap] 45))) := Lib.hid ((Below.refl w.heap.size w).alloc (Nat.le_refl _) _)
  have BX : Hid (Box1 (w.alloc (.cells #[.slice a m cap] 45)) w.heap.size 45 (.slice a m cap)) := Lib.hid (Box1.new _ _ _)
  have A := Lib.hid (implTerm_yes _ m X _ (h'.below B0.out) hok)
  have HR := Lib.hid (fun i hi => (hr i hi).below B0.out)
  have HO := Lib.hid hgood
  have HE := Lib.hid hend
  clear h' hok hr hgood hend
  by_cases h0 : m = 0
  · subst h0
    obtain ⟨_, rfl⟩ := HE.out.resolve_right (fun h => by omega)
    clear hc HR HO HE BX
    go_enter Try.func53, Try.ntmps53
    go_wp2_with fail
    refine A.out.mono ?_
    rintro e w' ⟨rfl, rfl⟩
    go_wp2_with fail
    refine wp_loop_rounds 1 ?_
    rw [rounds_succ]
    go_wp2
    go_ret
    exact ⟨rfl, B0.out⟩
  · obtain ⟨b, off, ⟨cap', e⟩, hc'⟩ := hc.resolve_left h0
    cases e
    have hb : b < w.heap.size := World.block_lt_of_cell? w ⟨b, off + 0, none⟩ (hc' 0 (by omega))
    have HC : Hid (∀ i, i < m → (w.alloc (.cells #[.slice (some ⟨b, off, none⟩) m cap] 45)).cell? ⟨b, off + i, none⟩ = some (VS i)) := Lib.hid (fun i hi => (B0.out.cell (p := ⟨b, off + i, none⟩) hb).trans (hc' i hi))
    have HB1 : Hid (b < (w.alloc (.cells #[.slice (some ⟨b, off, none⟩) m cap] 45)).heap.size) := Lib.hid (by simp; omega)
    clear hc hc' hb
    go_enter Try.func53, Try.ntmps53
    go_wp2_with fail
    refine A.out.mono ?_
    rintro e w' ⟨rfl, rfl⟩
    clear A
    generalize (w.alloc (.cells #[.slice (some ⟨b, off, none⟩) m cap] 45)) = w1 at *
    have d0 := BX.out.c
    go_wp2_with fail
    clear d0
    go_loopw [4, 5, 6, 14] (fun _ _ _ c wr => ∃ k : Nat, k ≤ z ∧ c = .int .i64 k ∧ Hid (Below w1.heap.size w1 wr)) (fun _ _ _ c _ => m - (intOf c).toNat)
    case atStart => exact ⟨0, by omega, rfl, Lib.hid (Below.refl _ _)⟩
    case round =>
      obtain ⟨k, hk, rfl, hw⟩ := hrel
      have d0 : wr.cell? ⟨w.heap.size, 0, none⟩ = some (.slice (some ⟨b, off, none⟩) m cap) := (BX.out.up hw.out).c
      by_cases hkm : k < m
      · have hlt' : (k : Int) < (m : Int) := by omega
        have hpm : (0 : Int) < (m : Int) := by omega
        obtain ⟨v1, hv1⟩ : ∃ v, v = VS k := ⟨_, rfl⟩
        obtain ⟨v2, hv2⟩ : ∃ v, v = VS 0 := ⟨_, rfl⟩
        have c1 : wr.cell? ⟨b, off + k, none⟩ = some v1 := by rw [hv1]; exact (hw.out.cell (p := ⟨b, off + k, none⟩) HB1.out).trans (HC.out k hkm)
        have c2 : Hid (wr.cell? ⟨b, off, none⟩ = some v2) := Lib.hid (by rw [hv2]; exact (hw.out.cell (p := ⟨b, off, none⟩) HB1.out).trans (HC.out 0 (by omega)))
        have R1 : Hid (RdI wr v1 (X k).length (fun j => (X k)[j]?.getD 0)) := Lib.hid (by rw [hv1]; exact (HR.out k hkm).below hw.out)
        have R2 : Hid (RdI wr v2 (X 0).length (fun j => (X 0)[j]?.getD 0)) := Lib.hid (by rw [hv2]; exact (HR.out 0 (by omega)).below hw.out)
        clear hv1 hv2
        by_cases hwd : isE (X k)
        · have p1 := degreeOf_is (degE_list R1.out hwd)
          have hw0 : isE (X 0) := by
            by_cases e : k = 0
            · subst e; exact hwd
            · exact (HO.out 0 (by omega)).1.1
          have p2 : Hid (DegE wr v2 (dgL (X 0))) := Lib.hid (degE_list R2.out hw0)
          by_cases h40 : dgL (X k) ≤ 40
          · rw [dgV_small h40, dgC_small h40] at p1
            have P1 := Lib.hid p1
            clear p1
            have h00 : dgL (X 0) ≤ 40 := by
              by_cases e : k = 0
              · subst e; exact h40
              · exact (HO.out 0 (by omega)).1.2
            have E3 : Hid (∀ wx, Below wr.heap.size wr wx → Calls Try.prog 75 #[.agg #[.slice (some ⟨b, off, none⟩) m cap]] wx fun e w' => e = .returned (.int .i64 (dgL (X 0))) ∧ Below wx.heap.size wx w') :=
              Lib.hid (fun wx hb => degreeM_any _ m cap _ wx (fun h => by omega) h00 (fun _ => ⟨b, off, v2, rfl, (hb.cell (p := ⟨b, off, none⟩) (World.block_lt_of_cell? wr _ c2.out)).trans c2.out, p2.out.below hb⟩))
            by_cases hlt : k < z
            · have hx := (HO.out k hlt).2
              rw [hx] at P1 h40
              generalize dgL (X 0) = x at P1 E3 h40
              clear R1 R2 hwd hw0 hx h00 p2
              go_wp2_with fail
              refine P1.out.mono ?_
              rintro e wq ⟨rfl, rfl⟩
              go_wp2_with fail
              refine (E3.out _ (Below.refl _ _)).mono ?_
              rintro e w9 ⟨rfl, z9⟩
              focus
                have H9 := Lib.hid (hw.out.step1 z9)
                go_wp2_with fail
                go_roundw
                case rel => exact ⟨k + 1, by omega, by go_num, H9⟩
                case measure => simp [intOf]; omega
            · obtain rfl : k = z := by omega
              obtain ⟨_, hbad, rfl⟩ := HE.out.resolve_left (fun h => by omega)
              have hx : (dgL (X k) != dgL (X 0)) = true := by
                rw [bne_iff_ne]
                exact fun e => hbad ⟨⟨hwd, h40⟩, e⟩
              generalize dgL (X 0) = x at E3 hx
              generalize dgL (X k) = y at P1 hx h40
              clear R1 R2 hwd hw0 hbad p2 h00
              go_wp2_with fail
              refine P1.out.mono ?_
              rintro e wq ⟨rfl, rfl⟩
              go_wp2_with fail
              refine (E3.out _ (Below.refl _ _)).mono ?_
              rintro e w9 ⟨rfl, z9⟩
              focus
                have H9 := Lib.hid (B0.out.trans ((hw.out.step1 z9).mono B0.out.size))
                go_wp2_with fail
                go_ret
                exact ⟨rfl, H9.out⟩
          · obtain rfl : k = z := by
              apply Decidable.byContradiction
              intro e
              exact h40 (HO.out k (by omega)).1.2
            obtain ⟨_, _, rfl⟩ := HE.out.resolve_left (fun h => by omega)
            have H9 := Lib.hid (B0.out.trans (hw.out.mono B0.out.size))
            clear R1 R2 hwd hw0 p2 c2
            by_cases hbig : 1000000000000 < dgL (X k)
            · have e1 : dgV (dgL (X k)) = 0 := by unfold dgV; rw [if_pos hbig]
              have e2 : dgC (dgL (X k)) = 3 := by unfold dgC; rw [if_pos hbig]
              rw [e1, e2] at p1
              have P1 := Lib.hid p1
              clear p1 e1 e2
              go_wp2_with fail
              refine P1.out.mono ?_
              rintro e wq ⟨rfl, rfl⟩
              go_wp2_with fail
              go_ret
              exact ⟨rfl, H9.out⟩
            · have e1 : dgV (dgL (X k)) = dgL (X k) := by unfold dgV; rw [if_neg hbig]
              have e2 : dgC (dgL (X k)) = 0 := by unfold dgC; rw [if_neg hbig]
              rw [e1, e2] at p1
              have P1 := Lib.hid p1
              clear p1 e1 e2
              have h40' : 40 < dgL (X k) := by omega
              generalize dgL (X k) = y at P1 h40 h40' hbig
              clear h40 hbig
              go_wp2_with fail
              refine P1.out.mono ?_
              rintro e wq ⟨rfl, rfl⟩
              go_wp2_with fail
              go_ret
              exact ⟨rfl, H9.out⟩
        · obtain rfl : k = z := by
            apply Decidable.byContradiction
            intro e
            exact hwd (HO.out k (by omega)).1.1
          obtain ⟨_, _, rfl⟩ := HE.out.resolve_left (fun h => by omega)
          have P1 := Lib.hid (implDegree_bad v1 _ _ _ R1.out hwd)
          have H9 := Lib.hid (B0.out.trans (hw.out.mono B0.out.size))
          clear R1 R2 hwd c2
          go_wp2_with fail
          refine P1.out.mono ?_
          rintro e wq ⟨rfl, rfl⟩
          go_wp2_with fail
          go_ret
          exact ⟨rfl, H9.out⟩
      · obtain rfl : k = m := by omega
        obtain rfl : r = true := by
          rcases HE.out with ⟨_, h⟩ | ⟨h, _⟩
          · exact h
          · omega
        have H9 := Lib.hid (B0.out.trans (hw.out.mono B0.out.size))
        go_wp2_with fail
        go_ret
        exact ⟨rfl, H9.out⟩

theorem isE_short {xs : List Int} (h : isE xs) : xs.length ≤ 20 := by have := h.1; omega

/-- Both answer the same: whether it is an element. -/
theorem isM_yes (X : Nat → List Int) (m : Nat) (hok : okMl X m) :
    (∀ V w, RdSS w V m X → Calls Try.prog 65 #[.agg #[V]] w (SaysB true w)) ∧
    (∀ V w, RdSS w V m X → Calls Try.prog 53 #[.agg #[V]] w (SaysB true w)) :=
  ⟨fun V w h => l04Is_go V m m true X w h hok.1.1 hok.1.2.2 (Nat.le_refl _) hok.2 (.inl ⟨rfl, rfl⟩),
    fun V w h => implIsM_go V m m true X w h hok.1 (Nat.le_refl _) hok.2 (.inl ⟨rfl, rfl⟩)⟩
theorem isM_no (X : Nat → List Int) (m : Nat) (hok : ¬ okMl X m) :
    (∀ V w, RdSS w V m X → Calls Try.prog 65 #[.agg #[V]] w (SaysB false w)) ∧
    (∀ V w, RdSS w V m X → Calls Try.prog 53 #[.agg #[V]] w (SaysB false w)) := by
  refine ⟨fun V w h => ?_, fun V w h => ?_⟩
  · by_cases hm : m ≤ 2000
    · by_cases hasc : ∀ i, i < m → stepOk X i
      · by_cases hs : ∀ i, i < m → stepM X i
        · exact absurd ⟨⟨hm, fun i hi => isE_short (hs i hi).1.1, hasc⟩, hs⟩ hok
        · obtain ⟨z, hz, hbad, hgood⟩ := first_bad (stepM X) m hs
          exact l04Is_go V m z false X w h hm hasc (by omega) hgood (.inr ⟨hz, hbad, rfl⟩)
      · exact l04Is_wild V m X w h hm hasc
    · exact l04Is_long V m X w h (by omega)
  · by_cases ht : okTerms X m
    · obtain ⟨z, hz, hbad, hgood⟩ := first_bad (stepM X) m (fun hs => hok ⟨ht, hs⟩)
      exact implIsM_go V m z false X w h ht (by omega) hgood (.inr ⟨hz, hbad, rfl⟩)
    · exact implIsM_wild V m X w h ht
theorem isM_both (X : Nat → List Int) (m : Nat) : ∃ r : Bool,
    (∀ V w, RdSS w V m X → Calls Try.prog 65 #[.agg #[V]] w (SaysB r w)) ∧
    (∀ V w, RdSS w V m X → Calls Try.prog 53 #[.agg #[V]] w (SaysB r w)) := by
  by_cases hok : okMl X m
  · exact ⟨true, isM_yes X m hok⟩
  · exact ⟨false, isM_no X m hok⟩
end Go.Proofs.Ytnmilkehggjpfaa
end
section
namespace Go.Proofs.Ytnmilkehggjpfaa
open Go.RowKit
set_option linter.unusedVariables false
set_option maxRecDepth 100000

/-- All blocks are as they were but those of the rows VS. -/
def MRestK (m : Nat) (VS : Nat → Value) (w w' : World) : Prop := w.heap.size ≤ w'.heap.size ∧ ∀ b, b < w.heap.size → (∀ i, i < m → (VS i).ownBlock ≠ some b) → w'.heap[b]? = w.heap[b]?
theorem MRestK.refl (m : Nat) (VS : Nat → Value) (w : World) : MRestK m VS w w := ⟨Nat.le_refl _, fun _ _ _ => rfl⟩
theorem MRestK.grown {m : Nat} {VS : Nat → Value} {w wr w2 : World} (h : MRestK m VS w wr) {j : Nat} {vj : Value} (hj : j < m) (e : VS j = vj) (k : wr.grownBy w2 vj.ownBlock) : MRestK m VS w w2 :=
  ⟨Nat.le_trans h.1 k.size, fun b hb hn => (k.block b (Nat.lt_of_lt_of_le hb h.1) (fun e2 => hn j hj (by rw [e]; exact e2.symm))).trans (h.2 b hb hn)⟩

set_option maxHeartbeats 1000000 in
theorem markSS_from (k0 : Int) (hk0 : 0 ≤ k0) (V : Value) (m : Nat) (B : Nat) (VS : Nat → Value) (Y : Nat → List Int) (w : World) (h : Fam w B V m VS Y) (hs : Sep m VS)
    (hk : off k0 (fun i => (Y i).length) m ≤ 1152921504606846976) :
    Calls Try.prog 60 #[V, .int .i64 k0] w fun e w' => e = .returned (.int .i64 (off k0 (fun i => (Y i).length) m)) ∧ Fam w' B V m VS (mkd k0 Y m) ∧ Below B w w' ∧ MRestK m VS w w' := by
  obtain ⟨a, cap, hV, hm, hc⟩ := h.head
  unfold maxLen at hm
  by_cases h0 : m = 0
  · subst h0
    subst hV
    clear hc
    have H := Lib.hid h
    go_enter Try.func60, Try.ntmps60
    go_wp2
    refine wp_loop_rounds 1 ?_
    rw [rounds_succ]
    go_wp2
    go_ret
    exact ⟨rfl, ⟨H.out.out, fun i hi => absurd hi (by omega)⟩, Below.refl _ _, MRestK.refl _ _ _⟩
  · obtain ⟨b, rfl, hc'⟩ := hc.resolve_left h0
    have hB0 : B ≤ b := by
      have := h.out.lt b (by rw [hV]; rfl)
      exact this.1
    have HK := Lib.hid hk
    have HS := Lib.hid hs
    have H := Lib.hid h
    have HV := Lib.hid hV
    generalize hL : (fun i => (Y i).length) = L at hk ⊢
    have HL := Lib.hid hL
    clear hL hc hc' h0 hs h
    rw [HV.out]
    clear hV
    go_enter Try.func60, Try.ntmps60
    go_wp2
    go_loopw [1, 5] (fun c i wr => ∃ j : Nat, j ≤ m ∧ i = .int .i64 j ∧ c = .int .i64 (off k0 L j) ∧ Hid (Fam wr B V m VS (mkd k0 Y j)) ∧ Hid (Below B w wr) ∧ Hid (MRestK m VS w wr)) (fun _ i _ => m - (intOf i).toNat)
    case atStart => exact ⟨0, by omega, rfl, rfl, Lib.hid ⟨H.out.out, fun i hi => by rw [show mkd k0 Y 0 i = Y i by unfold mkd; rw [if_neg (by omega)]]; exact H.out.inn i hi⟩, Lib.hid (Below.refl _ _), Lib.hid (MRestK.refl _ _ _)⟩
    case round =>
      obtain ⟨j, hj, rfl, rfl, hF, hB, hR⟩ := hrel
      by_cases hlt : j < m
      · have hlt' : (j : Int) < (m : Int) := by omega
        have c1 : wr.cell? ⟨b, j, none⟩ = some (VS j) := by
          obtain ⟨a', cap', hV', _, hc'⟩ := hF.out.head
          rw [HV.out] at hV'
          cases hV'
          obtain ⟨b', e, hc''⟩ := hc'.resolve_left (by omega)
          cases e
          exact hc'' j hlt
        have hlow := off_low k0 L j
        have hup := off_le k0 L (j + 1) m (by omega)
        have hsm : off k0 L m ≤ 1152921504606846976 := by rw [← HL.out]; exact HK.out
        have hnx : off k0 L (j + 1) = off k0 L j + (L j : Int) := rfl
        have hY : mkd k0 Y j j = Y j := by unfold mkd; rw [if_neg (by omega)]
        have hLj : (Y j).length = L j := by rw [← HL.out]
        have hin := hF.out.inn j hlt
        rw [hY, hLj] at hin
        have M := Lib.hid (markInt64S_own (VS j) (L j) _ (off k0 L j) B wr (by omega) (by omega) (by omega) hin)
        have NX : Hid (off k0 L (j + 1) = off k0 L j + (L j : Int)) := Lib.hid hnx
        clear hin hY hLj hnx hup hlow hsm hk
        generalize hvj : VS j = vj at c1 M
        have HVJ := Lib.hid hvj
        clear hvj
        go_wp2_with fail
        refine M.out.mono ?_
        rintro e w2 ⟨rfl, ho2, hg2, hs2⟩
        have F2 : Hid (Fam w2 B V m VS (mkd k0 Y (j + 1))) := by
          refine Lib.hid ⟨?_, fun i hi => ?_⟩
          · refine hF.out.out.kept hg2 ?_
            rw [← HVJ.out]
            exact own_types hF.out.out (hF.out.inn j hlt) (by decide)
          · by_cases e : i = j
            · subst e
              have e2 : mkd k0 Y (i + 1) i = marks (off k0 L i) (L i) := by unfold mkd; rw [if_pos (by omega), HL.out, ← HL.out]
              rw [e2, marks_length, HVJ.out]
              exact ho2
            · have e2 : mkd k0 Y (j + 1) i = mkd k0 Y j i := by
                unfold mkd
                by_cases h1 : i < j
                · rw [if_pos h1, if_pos (by omega)]
                · rw [if_neg h1, if_neg (by omega)]
              rw [e2]
              refine (hF.out.inn i hi).kept hg2 ?_
              rw [← HVJ.out]
              exact HS.out i j hi hlt e
        have hsz : B ≤ wr.heap.size := by
          have h1 := (hF.out.out.lt b (by rw [HV.out]; rfl))
          omega
        have B2 : Hid (Below B w w2) := Lib.hid (hB.out.grown hg2 hsz (fun k hk2 => ((hF.out.inn j hlt).lt k (by rw [HVJ.out]; exact hk2.symm ▸ rfl)).1))
        have R2 : Hid (MRestK m VS w w2) := Lib.hid (hR.out.grown hlt HVJ.out hg2)
        clear hg2 ho2 hs2 hF hB hR M
        go_wp2
        go_roundw
        case rel => exact ⟨j + 1, by omega, by go_num, by rw [NX.out], F2, B2, R2⟩
        case measure => simp [intOf]; omega
      · obtain rfl : j = m := by omega
        go_wp2
        go_ret
        exact ⟨rfl, by rw [← HV.out]; exact hF.out, hB.out, hR.out⟩


theorem off_any (k : Int) (X : Nat → List Int) (m : Nat) : off k (fun i => (X i).length) m = k + (tot X m : Int) := by
  induction m with
  | zero => simp [off, tot]
  | succ m ih => rw [off, ih, tot]; omega
theorem tot_bound (X : Nat → List Int) (c m : Nat) (h : ∀ i, (X i).length ≤ c) : tot X m ≤ c * m := by
  induction m with
  | zero => exact Nat.zero_le _
  | succ m ih => rw [tot, Nat.mul_succ]; have := h m; omega

/-- The rows of two families lie apart. -/
def FApart (m : Nat) (VA : Nat → Value) (n : Nat) (VB : Nat → Value) : Prop := ∀ i j, i < m → j < n → (VA i).ownBlock = none ∨ (VA i).ownBlock ≠ (VB j).ownBlock
theorem fam_apart {w w' : World} {B : Nat} {V V' : Value} {m n : Nat} {VA VB : Nat → Value} {X Y : Nat → List Int} (h : Fam w B V m VA X) (k : Fam w' w.heap.size V' n VB Y) : FApart m VA n VB := fun i j hi hj => own_apart (h.inn i hi) (k.inn j hj)
theorem FApart.symm {m n : Nat} {VA VB : Nat → Value} (h : FApart m VA n VB) : FApart n VB m VA := fun i j hi hj => apart_swap (h j i hj hi)
theorem Fam.rest {w w' : World} {B B' : Nat} {V V' : Value} {m n : Nat} {VA VB : Nat → Value} {X Y : Nat → List Int} (h : Fam w B V m VA X) (k : Fam w B' V' n VB Y) (r : MRestK n VB w w') (ap : FApart m VA n VB) : Fam w' B V m VA X := by
  refine ⟨own_sameblock h.out fun g hg => r.2 g (h.out.lt g hg).2 fun i hi e => ?_, fun i hi => own_sameblock (h.inn i hi) fun g hg => r.2 g ((h.inn i hi).lt g hg).2 fun j hj e => ?_⟩
  · rcases own_types h.out (k.inn i hi) (by decide) with h1 | h1
    · rw [h1] at hg; cases hg
    · exact h1 (hg.trans e.symm)
  · rcases ap i j hi hj with h1 | h1
    · rw [h1] at hg; cases hg
    · exact h1 (hg.trans e.symm)
end Go.Proofs.Ytnmilkehggjpfaa
end
section
namespace Go.Proofs.Ytnmilkehggjpfaa
open Go.RowKit
set_option linter.unusedVariables false
set_option maxRecDepth 100000

/-- A struct of one cell and a number as results. -/
theorem results_box1_tmp {fn : Func} {p u : Tmp} {t : TypeId} (h : fn.results = #[.cell p t, .tmp u]) (tmps : Array Value) (w : World) (g : Nat) (x : Value) (fs : Array Field)
    (hp : tmps.getD p undef = .pointer (some ⟨g, 0, none⟩)) (hg : Box1 w g t x)
    (hu : Try.prog.underlying t = some (.struct fs)) (hi : (Try.prog.info? t).map (·.size) = some 1) :
    (results fn tmps).run Try.prog w = .ok (.tuple #[.agg #[x], tmps.getD u undef]) w := by
  rw [results_cell_tmp h, hp]
  have := run_loadVar_row (P := Try.prog) w g t t #[x] (0, 0) (.struct fs) hg hu rfl hi
  show ((loadVar t ⟨g, 0, none⟩).run Try.prog w).andThen _ = _
  rw [this]
  rfl

theorem MRestK.box {m : Nat} {VS : Nat → Value} {w w' : World} {o : Obj} (h : MRestK m VS (w.alloc o) w') : MRestK m VS w w' := by
  refine ⟨Nat.le_trans (by simp) h.1, fun b hb hn => (h.2 b (by simp; omega) hn).trans (heap_alloc_old w o hb)⟩

/-- What returns a struct of lists and a code. -/
def ResS (L : List (List Int)) (cd : Int) (w : World) (e : Ending) (w' : World) : Prop :=
  ∃ V VS, e = .returned (.tuple #[.agg #[V], .int .i64 cd]) ∧ FamL w' w.heap.size V VS L ∧ Sep L.length VS ∧ Below w.heap.size w w'

theorem famNil (w : World) (g : Nat) : FamL w g (.slice none 0 0) (fun _ => undef) [] := ⟨World.ownsRow_nil _ _ _ _, fun i hi => absurd hi (Nat.not_lt_zero _)⟩
theorem sepNil : Sep ([] : List (List Int)).length (fun _ => undef) := fun i j hi => absurd hi (Nat.not_lt_zero _)

theorem resS_nil (w : World) (cd : Int) {t : TypeId} : ResS [] cd w (.returned (.tuple #[.agg #[.slice none 0 0], .int .i64 cd])) (w.alloc (.cells #[.slice none 0 0] t)) :=
  ⟨_, fun _ => undef, rfl, ⟨World.ownsRow_nil _ _ _ _, fun i hi => absurd hi (Nat.not_lt_zero _)⟩, fun i j hi => absurd hi (Nat.not_lt_zero _), (Below.refl _ w).alloc (Nat.le_refl _) _⟩

theorem belD1 {w w' : World} (k : Below (w.drewN 1).heap.size (w.drewN 1) w') : Below w.heap.size w w' := (Below.refl _ w).drew.trans k

section
variable {w w' : World} {g : Nat} {m : Nat} {VS : Nat → Value}
/-- A box's block is no row's. -/
theorem Box1.ne_own {t : TypeId} {x v : Value} {B n : Nat} {e : TypeId} {xs : List Value} (h : Box1 w g t x) (o : w.ownsRow B e 1 v n xs) (he : e ≠ t) : ∀ q, v.ownBlock = some q → q ≠ g := by
  intro q hq eq
  subst eq
  rcases o.2 with ⟨rfl, _⟩ | ⟨q', cap', cur, rfl, _, hG, _⟩
  · cases hq
  · simp only [Value.ownBlock, Option.some.injEq] at hq
    subst hq
    unfold Box1 at h
    rw [hG] at h
    simp only [Option.some.injEq, Obj.cells.injEq] at h
    exact he h.2.1
theorem Box1.restK {t : TypeId} {x : Value} {n B B' : Nat} {V' : Value} {VB : Nat → Value} {Y : Nat → List Int} (h : Box1 w g t x) (ht : 2 ≠ t) (k : Fam w B V' n VB Y) (r : MRestK n VB w w') : Box1 w' g t x :=
  (r.2 g h.lt fun i hi e => h.ne_own (k.inn i hi) ht g e rfl).trans h
end
end Go.Proofs.Ytnmilkehggjpfaa
end
section
namespace Go.Proofs.Ytnmilkehggjpfaa
open Go.RowKit
set_option linter.unusedVariables false
set_option maxRecDepth 100000

theorem markMilnor_from (k0 : Int) (hk0 : 0 ≤ k0) (U : Value) (m : Nat) (B : Nat) (VS : Nat → Value) (Y : Nat → List Int) (w : World) (h : Fam w B U m VS Y) (hs : Sep m VS) (hB : B ≤ w.heap.size)
    (hk : off k0 (fun i => (Y i).length) m ≤ 1152921504606846976) :
    Calls Try.prog 35 #[.agg #[U], .int .i64 k0] w fun e w' => e = .returned (.int .i64 (off k0 (fun i => (Y i).length) m)) ∧ Fam w' B U m VS (mkd k0 Y m) ∧ Below B w w' ∧ MRestK m VS w w' := by
  have t2 := Try.underlying45
  have b0 : Below w.heap.size w (w.alloc (.cells #[U] 45)) := (Below.refl _ w).alloc (Nat.le_refl _) _
  have M := Lib.hid (markSS_from k0 hk0 U m B VS Y _ (h.below b0) hs hk)
  have B0 : Hid (Below B w (w.alloc (.cells #[U] 45))) := Lib.hid (b0.mono hB)
  generalize off k0 (fun i => (Y i).length) m = kk at M ⊢
  clear h hs b0 hk
  go_enter Try.func35, Try.ntmps35
  go_wp2_with fail
  refine M.out.mono ?_
  rintro e w' ⟨rfl, hF, hb, hr⟩
  have HF := Lib.hid hF
  have HB := Lib.hid (B0.out.trans hb)
  have HR := Lib.hid hr.box
  clear hF hb hr
  go_wp2_with fail
  go_ret
  exact ⟨rfl, HF.out, HB.out, HR.out⟩

theorem heldMilnor_own (U : Value) (m : Nat) (B : Nat) (VS : Nat → Value) (Y : Nat → List Int) (w : World) (h : Fam w B U m VS (mkd 1 Y m))
    (hk : off 1 (fun i => (Y i).length) m ≤ 1152921504606846976) :
    Calls Try.prog 44 #[.agg #[U], .int .i64 1] w fun e w' => e = .returned (.int .i64 (off 1 (fun i => (Y i).length) m)) ∧ Below w.heap.size w w' := by
  have t2 := Try.underlying45
  have b0 : Below w.heap.size w (w.alloc (.cells #[U] 45)) := (Below.refl _ w).alloc (Nat.le_refl _) _
  have M := Lib.hid (heldInt64SS_own U m B VS Y _ (h.below b0) hk)
  have B0 := Lib.hid b0
  have hge : ¬ off 1 (fun i => (Y i).length) m < 0 := by rw [off_any]; omega
  generalize off 1 (fun i => (Y i).length) m = kk at M hge ⊢
  clear h b0 hk
  go_enter Try.func44, Try.ntmps44
  go_wp2_with fail
  refine M.out.mono ?_
  rintro e w' ⟨rfl, rfl⟩
  go_wp2_with fail
  go_ret
  exact ⟨rfl, B0.out⟩

end Go.Proofs.Ytnmilkehggjpfaa
end
