/-
  impl.DualText; both texts are the same.
-/
import Derived.Test.YtcfgjbfgdlmilaaDoorEDtI
namespace Go.Proofs.YtcfgjbfgdlmilaaDoor.Dl
open Go.RowKit Go.Proofs.YtcfgjbfgdlmilaaDoor.Ml
set_option linter.unusedVariables false
set_option maxRecDepth 100000

theorem implDText_no (V : Value) (m : Nat) (X : Nat → List Int) (w : World) (h : RdSS w V m X) (hok : ¬ okMl X m) :
    Calls Tryd.prog 7 #[.agg #[V]] w (TextIsD [] 1 w) := by
  obtain ⟨a, cap, rfl⟩ := h.head
  have t2 := Tryd.underlying28
  have B0 : Hid (Below w.heap.size w (w.alloc (.cells #[.slice a m cap] 28))) := Lib.hid ((Below.refl w.heap.size w).alloc (Nat.le_refl _) _)
  have A := Lib.hid ((isD_no X m hok).2 _ _ (h.below B0.out))
  clear h hok
  go_enter Tryd.func7, Tryd.ntmps7
  go_wp2_with fail
  refine A.out.mono ?_
  rintro e w2 ⟨rfl, b2⟩
  have B2 := Lib.hid (B0.out.step1 b2)
  clear b2
  go_wp2_with fail
  go_ret2
  exact ⟨rfl, B2.out⟩
theorem implDText_zero (V : Value) (X : Nat → List Int) (w : World) (h : RdSS w V 0 X) (hok : okMl X 0) :
    Calls Tryd.prog 7 #[.agg #[V]] w (TextIsD (delT X 0) 0 w) := by
  obtain ⟨a, cap, rfl⟩ := h.head
  have t2 := Tryd.underlying28
  have B0 : Hid (Below w.heap.size w (w.alloc (.cells #[.slice a 0 cap] 28))) := Lib.hid ((Below.refl w.heap.size w).alloc (Nat.le_refl _) _)
  have BX : Hid (Box1 (w.alloc (.cells #[.slice a 0 cap] 28)) w.heap.size 28 (.slice a 0 cap)) := Lib.hid (Box1.new _ _ _)
  have A := Lib.hid ((isD_yes X 0 hok).2 _ _ (h.below B0.out))
  clear h hok
  go_enter Tryd.func7, Tryd.ntmps7
  go_wp2_with fail
  refine A.out.mono ?_
  rintro e w2 ⟨rfl, b2⟩
  have B2 := Lib.hid (B0.out.step1 b2)
  have c2 := (BX.out.up b2).c
  clear b2 BX A
  go_wp2_with fail
  go_ret2
  exact ⟨rfl, B2.out⟩
set_option maxHeartbeats 2000000 in
theorem implDText_some (V : Value) (m : Nat) (X : Nat → List Int) (w : World) (h : RdSS w V m X) (h0 : 0 < m) (hok : okMl X m) :
    Calls Tryd.prog 7 #[.agg #[V]] w (TextIsD (delT X m) 0 w) := by
  obtain ⟨i0, hi, hz0, hz1, hz2⟩ := info_parts Tryd.infoStr
  have h' := h
  obtain ⟨⟨a, cap, rfl⟩, hsm, VS, hc, hr⟩ := h
  obtain ⟨b, off, ⟨cap', e⟩, hcell⟩ := hc.resolve_left (by omega)
  cases e
  have hm : m ≤ 2000 := hok.1.1
  have HX : Hid (∀ i, i < m → Small (X i)) := Lib.hid fun i hi => goodE_small (hok.2 i hi).1
  have t2 := Tryd.underlying28
  have B0 : Hid (Below w.heap.size w (w.alloc (.cells #[.slice (some ⟨b, off, none⟩) m cap] 28))) := Lib.hid ((Below.refl w.heap.size w).alloc (Nat.le_refl _) _)
  have BX : Hid (Box1 (w.alloc (.cells #[.slice (some ⟨b, off, none⟩) m cap] 28)) w.heap.size 28 (.slice (some ⟨b, off, none⟩) m cap)) := Lib.hid (Box1.new _ _ _)
  have A := Lib.hid ((isD_yes X m hok).2 _ _ (h'.below B0.out))
  have HC := Lib.hid hcell
  have HR := Lib.hid hr
  have hb : b < w.heap.size := World.block_lt_of_cell? w ⟨b, off + 0, none⟩ (hcell 0 h0)
  have ST : Hid (delT X m = Lib.join ((List.range m).map fun j => dtT (X j)) [43]) := Lib.hid (by unfold delT; rw [if_neg (by omega)]; rfl)
  have SL : Hid ((Lib.join ((List.range m).map fun j => dtT (X j)) [43]).length ≤ 282000) := Lib.hid (by have := dtsT_len X m m HX.out (Nat.le_refl _); have h3 : m * 141 ≤ 2000 * 141 := Nat.mul_le_mul_right _ hm; unfold dtsT at this; omega)
  obtain ⟨f, hf⟩ : ∃ f : Nat → List UInt8, (fun j => dtT (X j)) = f := ⟨_, rfl⟩
  have HF : Hid (∀ j, f j = dtT (X j)) := Lib.hid fun j => by rw [← hf]
  rw [hf] at ST SL
  have HG : Hid (∀ i, i < m → isE (X i)) := Lib.hid fun i hi => (hok.2 i hi).1.1
  have hz : ((m : Int) == 0) = false := by rw [beq_eq_false_iff_ne]; omega
  clear h' hok hc hcell hr hf
  go_enter Tryd.func7, Tryd.ntmps7
  go_wp2_with fail
  refine A.out.mono ?_
  rintro e w2 ⟨rfl, b2⟩
  have B2 := Lib.hid (B0.out.trans (b2.mono B0.out.size))
  have BX2 := Lib.hid (BX.out.up b2)
  have c2 := BX2.out.c
  have B3 := B2
  have BX3 := BX2
  have c3 := c2
  have hsz3 : w.heap.size < w2.heap.size := BX3.out.lt
  clear b2 BX A B0 BX2 B2 c2
  go_wp2_with (at_make; refine wpList_make_full _ rfl _ _ 36 rfl w2.heap.size 9 i0 (.string ⟨#[]⟩) 1 Tryd.underlying36 hi hz0 hz1 .i64 .i64 (m : Int) (m : Int) m rfl rfl rfl rfl (by rw [hz2]; omega) (by unfold maxLen; omega) (Nat.le_refl _) ?_; intro w4 hown hgrow; rw [made_strs, ← strs_zero f m] at hown; have c4 := (BX3.out.up ((Below.refl _ w2).grown hgrow (Nat.le_refl _) (by intro k hk; cases hk))).c; have H1 := Lib.hid hown; have G1 := Lib.hid hgrow; clear hown hgrow)
  have B4 : Below w2.heap.size w2 w4 := (Below.refl _ w2).grown G1.out (Nat.le_refl _) (by intro k hk; cases hk)
  clear G1
  go_loopw [5, 6, 21] (fun _ _ c wr => ∃ j : Nat, j ≤ m ∧ c = .int .i64 j ∧ Hid (wr.ownsRow w2.heap.size 9 1 (.slice (some ⟨w2.heap.size, 0, none⟩) m m) m (strs f m j)) ∧ Below w2.heap.size w2 wr) (fun _ _ c _ => m - (intOf c).toNat)
  case atStart => exact ⟨0, by omega, rfl, H1, B4⟩
  case round =>
    clear H1 B4 c4
    obtain ⟨j, hj, rfl, ho, hbw⟩ := hrel
    have BR := Lib.hid (B3.out.trans (hbw.mono B3.out.size))
    by_cases hlt : j < m
    · have hlt' : (j : Int) < (m : Int) := by omega
      obtain ⟨vj, hvj⟩ : ∃ v, VS j = v := ⟨_, rfl⟩
      have c1 : wr.cell? ⟨b, off + j, none⟩ = some vj := by rw [← hvj]; exact (BR.out.cell (p := ⟨b, off + j, none⟩) hb).trans (HC.out j hlt)
      have RJ := (HR.out j hlt).below BR.out
      rw [hvj] at RJ
      have D1 := Lib.hid (tom_any vj (X j) wr RJ (HX.out j hlt) (HG.out j hlt))
      have FJ : f j = dtT (X j) := HF.out j
      rw [← FJ] at D1
      clear FJ
      clear RJ hvj
      go_wp2_with fail
      refine D1.out.mono ?_
      rintro e w5 ⟨rfl, b5⟩
      have ho5 := own_below ho.out b5
      have f2 := ho5.frozenAt j
      have c2 : w5.cell? ⟨w2.heap.size, j, none⟩ = some (.string (S (if j < j then f j else []))) := by rw [ho5.cellAt j (by omega)]; exact strs_get f m j j hlt
      generalize S (if j < j then f j else []) = zz at c2
      have hst := ho5.stored j (.string (S (f j)))
      rw [strs_set] at hst
      have HS2 := Lib.hid hst
      have hb5 := hbw.trans (b5.mono hbw.size)
      clear hst ho ho5 b5
      go_wp2_with fail
      go_roundw
      case rel => exact ⟨j + 1, by omega, by go_num, Lib.hid HS2.out.1, hb5.setCell (Nat.le_refl _) _⟩
      case measure => simp [intOf]; omega
    · obtain rfl : j = m := by omega
      have JN := Lib.hid (join_row f 43 ho.out (by omega) (by have := SL.out; omega))
      go_wp2_with fail
      refine JN.out.mono ?_
      rintro e w6 ⟨rfl, b6⟩
      go_wp2_with fail
      go_ret2
      exact ⟨by rw [ST.out]; rfl, BR.out.trans (b6.mono BR.out.size)⟩


theorem dlText_both (X : Nat → List Int) (m : Nat) : ∃ (l : List UInt8) (cd : Int),
    (∀ V w, RdSS w V m X → Calls Tryd.prog 5 #[.agg #[V]] w (TextIsD l cd w)) ∧
    (∀ V w, RdSS w V m X → Calls Tryd.prog 7 #[.agg #[V]] w (TextIsD l cd w)) := by
  by_cases hok : okMl X m
  · refine ⟨delT X m, 0, fun V w h => specDText_yes V m X w h hok, fun V w h => ?_⟩
    by_cases h0 : m = 0
    · subst h0; exact implDText_zero V X w h hok
    · exact implDText_some V m X w h (by omega) hok
  · exact ⟨[], 1, fun V w h => specDText_no V m X w h hok, fun V w h => implDText_no V m X w h hok⟩
end Go.Proofs.YtcfgjbfgdlmilaaDoor.Dl
