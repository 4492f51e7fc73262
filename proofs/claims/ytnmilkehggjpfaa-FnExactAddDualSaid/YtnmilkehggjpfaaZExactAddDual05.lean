/-
  Joined: EAddB.
-/
import Derived.Test.YtnmilkehggjpfaaZExactAddDual04
section
namespace Go.Proofs.Ytnmilkehggjpfaa.Dl
open Go.RowKit Go.Proofs.Ytnmilkehggjpfaa.Ml
set_option linter.unusedVariables false
set_option maxRecDepth 100000

theorem AddDual_both (m n : Nat) (X Y : Nat → List Int) :
    ∃ (L : List (List Int)) (cd : Int), L.length ≤ 4000 ∧ (∀ i, (rowsOf L i).length ≤ 20) ∧
      (∀ va vb VA VB Ba Bb w, Fam w Ba va m VA X → Fam w Bb vb n VB Y → Calls Try.prog 16 #[.agg #[va], .agg #[vb]] w (ResS L cd w)) ∧
      (∀ va vb w, RdSS w va m X → RdSS w vb n Y → Calls Try.prog 17 #[.agg #[va], .agg #[vb]] w (ResS L cd w)) := by
  have hnil : ∀ i, (rowsOf [] i).length ≤ 20 := fun i => Nat.zero_le _
  by_cases hA : okMl X m
  · by_cases hB : okMl Y n
    · obtain ⟨m2, mX, wX, aX⟩ := mlRows hA
      obtain ⟨n2, nY, wY, aY⟩ := mlRows hB
      have hfew1 := okMl_few hA
      have hfew2 := okMl_few hB
      have SS : ∀ va vb VA VB Ba Bb w, Fam w Ba va m VA X → Fam w Bb vb n VB Y → Hid (∀ wx, Below w.heap.size w wx → Calls Try.prog 58 #[va, vb] wx fun e w' => ∃ V VS, e = .returned V ∧ FamL w' wx.heap.size V VS (mrg (rowsL X m) (rowsL Y n)) ∧ Sep (mrg (rowsL X m) (rowsL Y n)).length VS ∧ Below wx.heap.size wx w') :=
        fun va vb VA VB Ba Bb w ha hb => Lib.hid fun wx hx => l01Sum_any va vb m n X Y VA VB Ba Bb wx (ha.below hx) (hb.below hx) (by omega) (by omega) (fun i hi => by have := mX i hi; omega) (fun i hi => by have := nY i hi; omega)
      have SI : ∀ va vb w, RdSS w va m X → RdSS w vb n Y → Hid (∀ wx, Below w.heap.size w wx → Calls Try.prog 120 #[va, vb] wx fun e w' => ∃ V VS, e = .returned V ∧ FamL w' wx.heap.size V VS (mrg (rowsL X m) (rowsL Y n)) ∧ Sep (mrg (rowsL X m) (rowsL Y n)).length VS ∧ Below wx.heap.size wx w') :=
        fun va vb w ha hb => Lib.hid fun wx hx => sumOfTerms_any va vb m n X Y wx (ha.below hx) (hb.below hx) (by omega) (by omega) mX nY wX wY aX aY sort_any
      have hl : (mrg (rowsL X m) (rowsL Y n)).length ≤ 200 := by
        have := mrg_le (rowsL X m) (rowsL Y n)
        rw [rowsL_len, rowsL_len] at this
        omega
      have hs := mrg_short X Y m n mX nY
      have S1 : ∀ va w, RdSS w va m X → Hid (∀ wx, Below w.heap.size w wx → Calls Try.prog 51 #[.agg #[va]] wx (SaysB true wx)) := fun va w ha => Lib.hid fun wx hx => (isD_yes X m hA).1 va wx (ha.below hx)
      have S2 : ∀ vb w, RdSS w vb n Y → Hid (∀ wx, Below w.heap.size w wx → Calls Try.prog 51 #[.agg #[vb]] wx (SaysB true wx)) := fun vb w hb => Lib.hid fun wx hx => (isD_yes Y n hB).1 vb wx (hb.below hx)
      have I1 : ∀ va w, RdSS w va m X → Hid (∀ wx, Below w.heap.size w wx → Calls Try.prog 53 #[.agg #[va]] wx (SaysB true wx)) := fun va w ha => Lib.hid fun wx hx => (isM_yes X m hA).2 va wx (ha.below hx)
      have I2 : ∀ vb w, RdSS w vb n Y → Hid (∀ wx, Below w.heap.size w wx → Calls Try.prog 53 #[.agg #[vb]] wx (SaysB true wx)) := fun vb w hb => Lib.hid fun wx hx => (isM_yes Y n hB).2 vb wx (hb.below hx)
      by_cases hm : m = 0
      · refine ⟨_, 0, by omega, hs, ?_, ?_⟩
        · intro va vb VA VB Ba Bb w ha hb
          obtain ⟨aa, ca, rfl⟩ := ha.rdss.head
          obtain ⟨ab, cb, rfl⟩ := hb.rdss.head
          exact specAddD_ok aa ab m n ca cb w (Lib.hid fun wx hx => l06Two_ok aa ab m n ca cb 0 wx (S1 _ wx (ha.rdss.below hx)) (S2 _ wx (hb.rdss.below hx)) (.inl ⟨hm, rfl⟩)) _ hl hs (SS _ _ VA VB Ba Bb w ha hb)
        · intro va vb w ha hb
          obtain ⟨aa, ca, rfl⟩ := ha.head
          obtain ⟨ab, cb, rfl⟩ := hb.head
          exact implAddD_any aa ab m n ca cb w _ 0 (Lib.hid fun wx hx => implAdd_sum0 aa ab m n ca cb wx (I1 _ wx (ha.below hx)) (I2 _ wx (hb.below hx)) hm _ (SI _ _ wx (ha.below hx) (hb.below hx)))
      · by_cases hn : n = 0
        · refine ⟨_, 0, by omega, hs, ?_, ?_⟩
          · intro va vb VA VB Ba Bb w ha hb
            obtain ⟨aa, ca, rfl⟩ := ha.rdss.head
            obtain ⟨ab, cb, rfl⟩ := hb.rdss.head
            exact specAddD_ok aa ab m n ca cb w (Lib.hid fun wx hx => l06Two_ok aa ab m n ca cb 0 wx (S1 _ wx (ha.rdss.below hx)) (S2 _ wx (hb.rdss.below hx)) (.inr (.inl ⟨by omega, hn, rfl⟩))) _ hl hs (SS _ _ VA VB Ba Bb w ha hb)
          · intro va vb w ha hb
            obtain ⟨aa, ca, rfl⟩ := ha.head
            obtain ⟨ab, cb, rfl⟩ := hb.head
            exact implAddD_any aa ab m n ca cb w _ 0 (Lib.hid fun wx hx => implAdd_sum1 aa ab m n ca cb wx (I1 _ wx (ha.below hx)) (I2 _ wx (hb.below hx)) (by omega) hn _ (SI _ _ wx (ha.below hx) (hb.below hx)))
        · by_cases he : dgL (X 0) = dgL (Y 0)
          · refine ⟨_, 0, by omega, hs, ?_, ?_⟩
            · intro va vb VA VB Ba Bb w ha hb
              obtain ⟨b1, o1, v1, ca, rfl, c1, d1⟩ := headM hA (by omega) ha.rdss
              obtain ⟨b2, o2, v2, cb, rfl, c2, d2⟩ := headM hB (by omega) hb.rdss
              exact specAddD_ok _ _ m n ca cb w (Lib.hid fun wx hx => l06Two_ok _ _ m n ca cb 0 wx (S1 _ wx (ha.rdss.below hx)) (S2 _ wx (hb.rdss.below hx)) (.inr (.inr ⟨by omega, by omega, b1, o1, b2, o2, v1, v2, _, _, rfl, rfl, (hx.cell (p := ⟨b1, o1, none⟩) (World.block_lt_of_cell? w _ c1)).trans c1, (hx.cell (p := ⟨b2, o2, none⟩) (World.block_lt_of_cell? w _ c2)).trans c2, d1.below hx, d2.below hx, .inl ⟨he, rfl⟩⟩))) _ hl hs (SS _ _ VA VB Ba Bb w ha hb)
            · intro va vb w ha hb
              obtain ⟨b1, o1, v1, ca, rfl, c1, d1⟩ := headM hA (by omega) ha
              obtain ⟨b2, o2, v2, cb, rfl, c2, d2⟩ := headM hB (by omega) hb
              rw [← he] at d2
              exact implAddD_any _ _ m n ca cb w _ 0 (Lib.hid fun wx hx => implAdd_sum2 _ _ m n ca cb wx (I1 _ wx (ha.below hx)) (I2 _ wx (hb.below hx)) b1 o1 b2 o2 v1 v2 _ (Lib.hid (hA.2 0 (by omega)).1.2) rfl rfl ((hx.cell (p := ⟨b1, o1, none⟩) (World.block_lt_of_cell? w _ c1)).trans c1) ((hx.cell (p := ⟨b2, o2, none⟩) (World.block_lt_of_cell? w _ c2)).trans c2) (d1.below hx) (d2.below hx) (by omega) (by omega) _ (SI _ _ wx (ha.below hx) (hb.below hx)))
          · have hne : (dgL (X 0) != dgL (Y 0)) = true := by rw [bne_iff_ne]; exact he
            refine ⟨[], 2, Nat.zero_le _, hnil, ?_, ?_⟩
            · intro va vb VA VB Ba Bb w ha hb
              obtain ⟨b1, o1, v1, ca, rfl, c1, d1⟩ := headM hA (by omega) ha.rdss
              obtain ⟨b2, o2, v2, cb, rfl, c2, d2⟩ := headM hB (by omega) hb.rdss
              exact specAddD_no _ _ m n ca cb 2 w rfl (Lib.hid fun wx hx => l06Two_ok _ _ m n ca cb 2 wx (S1 _ wx (ha.rdss.below hx)) (S2 _ wx (hb.rdss.below hx)) (.inr (.inr ⟨by omega, by omega, b1, o1, b2, o2, v1, v2, _, _, rfl, rfl, (hx.cell (p := ⟨b1, o1, none⟩) (World.block_lt_of_cell? w _ c1)).trans c1, (hx.cell (p := ⟨b2, o2, none⟩) (World.block_lt_of_cell? w _ c2)).trans c2, d1.below hx, d2.below hx, .inr ⟨he, rfl⟩⟩)))
            · intro va vb w ha hb
              obtain ⟨b1, o1, v1, ca, rfl, c1, d1⟩ := headM hA (by omega) ha
              obtain ⟨b2, o2, v2, cb, rfl, c2, d2⟩ := headM hB (by omega) hb
              exact implAddD_any _ _ m n ca cb w _ 2 (Lib.hid fun wx hx => implAdd_range _ _ m n ca cb wx (I1 _ wx (ha.below hx)) (I2 _ wx (hb.below hx)) b1 o1 b2 o2 v1 v2 _ _ (Lib.hid (hA.2 0 (by omega)).1.2) (Lib.hid (hB.2 0 (by omega)).1.2) rfl rfl ((hx.cell (p := ⟨b1, o1, none⟩) (World.block_lt_of_cell? w _ c1)).trans c1) ((hx.cell (p := ⟨b2, o2, none⟩) (World.block_lt_of_cell? w _ c2)).trans c2) (d1.below hx) (d2.below hx) (by omega) (by omega) hne)
    · refine ⟨[], 1, Nat.zero_le _, hnil, ?_, ?_⟩
      · intro va vb VA VB Ba Bb w ha hb
        obtain ⟨aa, ca, rfl⟩ := ha.rdss.head
        obtain ⟨ab, cb, rfl⟩ := hb.rdss.head
        exact specAddD_no aa ab m n ca cb 1 w rfl (Lib.hid fun wx hx => l06Two_bad2 aa ab m n ca cb wx (Lib.hid fun wy hy => (isD_yes X m hA).1 _ wy ((ha.rdss.below hx).below hy)) (Lib.hid fun wy hy => (isD_no Y n hB).1 _ wy ((hb.rdss.below hx).below hy)))
      · intro va vb w ha hb
        obtain ⟨aa, ca, rfl⟩ := ha.head
        obtain ⟨ab, cb, rfl⟩ := hb.head
        exact implAddD_any aa ab m n ca cb w _ 1 (Lib.hid fun wx hx => implAdd_bad2 aa ab m n ca cb wx (Lib.hid fun wy hy => (isM_yes X m hA).2 _ wy ((ha.below hx).below hy)) (Lib.hid fun wy hy => (isM_no Y n hB).2 _ wy ((hb.below hx).below hy)))
  · refine ⟨[], 1, Nat.zero_le _, hnil, ?_, ?_⟩
    · intro va vb VA VB Ba Bb w ha hb
      obtain ⟨aa, ca, rfl⟩ := ha.rdss.head
      obtain ⟨ab, cb, rfl⟩ := hb.rdss.head
      exact specAddD_no aa ab m n ca cb 1 w rfl (Lib.hid fun wx hx => l06Two_bad1 aa ab m n ca cb wx (Lib.hid fun wy hy => (isD_no X m hA).1 _ wy ((ha.rdss.below hx).below hy)))
    · intro va vb w ha hb
      obtain ⟨aa, ca, rfl⟩ := ha.head
      obtain ⟨ab, cb, rfl⟩ := hb.head
      exact implAddD_any aa ab m n ca cb w _ 1 (Lib.hid fun wx hx => implAdd_bad1 aa ab m n ca cb wx (Lib.hid fun wy hy => (isM_no X m hA).2 _ wy ((ha.below hx).below hy)))
end Go.Proofs.Ytnmilkehggjpfaa.Dl
end
