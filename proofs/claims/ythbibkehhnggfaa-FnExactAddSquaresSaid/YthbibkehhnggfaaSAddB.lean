/-
  spec.AddSquares and impl.AddSquares answer the same.
-/
import Derived.Test.YthbibkehhnggfaaSAddS
import Derived.Test.YthbibkehhnggfaaSAddI
import Derived.Test.YthbibkehhnggfaaSAddJ
namespace Go.Proofs.Ythbibkehhnggfaa
open Go.RowKit
set_option linter.unusedVariables false
set_option maxRecDepth 100000

/-- A list that fits, and the code. -/
def cutL (L : List (List Int)) : List (List Int) := if L.length ≤ 2000 then L else []
def cutC (L : List (List Int)) : Int := if L.length ≤ 2000 then 0 else 3
theorem cut_is (L : List (List Int)) : (L.length ≤ 2000 ∧ cutL L = L ∧ cutC L = 0) ∨ (¬ L.length ≤ 2000 ∧ cutL L = [] ∧ cutC L = 3) := by
  unfold cutL cutC
  by_cases h : L.length ≤ 2000
  · rw [if_pos h, if_pos h]; exact .inl ⟨h, rfl, rfl⟩
  · rw [if_neg h, if_neg h]; exact .inr ⟨h, rfl, rfl⟩
theorem cutL_len (L : List (List Int)) : (cutL L).length ≤ 2000 := by
  rcases cut_is L with ⟨h, e, _⟩ | ⟨_, e, _⟩
  · rw [e]; exact h
  · rw [e]; exact Nat.zero_le _
theorem cutL_short (L : List (List Int)) (h : ∀ i, (rowsOf L i).length ≤ 20) (i : Nat) : (rowsOf (cutL L) i).length ≤ 20 := by
  rcases cut_is L with ⟨_, e, _⟩ | ⟨_, e, _⟩
  · rw [e]; exact h i
  · rw [e]; exact Nat.zero_le _

theorem sqRows {X : Nat → List Int} {m : Nat} (h : okSq X m) : (m ≤ 2000) ∧ (∀ i, i < m → (X i).length ≤ 20) ∧ (∀ i, i < m → ∀ z ∈ X i, (Lit.int .i64 z).wf = true) ∧ Asc (rowsL X m) :=
  ⟨h.1.1, h.1.2.1, fun i hi => isW_wf (h.2 i hi).1, asc_rows X m h.1.2.2⟩

theorem AddSquares_both (m n : Nat) (X Y : Nat → List Int) :
    ∃ (L : List (List Int)) (cd : Int), L.length ≤ 2000 ∧ (∀ i, (rowsOf L i).length ≤ 20) ∧
      (∀ va vb VA VB Ba Bb w, Fam w Ba va m VA X → Fam w Bb vb n VB Y → Calls Try.prog 19 #[.agg #[va], .agg #[vb]] w (ResS L cd w)) ∧
      (∀ va vb w, RdSS w va m X → RdSS w vb n Y → Calls Try.prog 21 #[.agg #[va], .agg #[vb]] w (ResS L cd w)) := by
  have hnil : ∀ i, (rowsOf [] i).length ≤ 20 := fun i => Nat.zero_le _
  by_cases hA : okSq X m
  · by_cases hB : okSq Y n
    · obtain ⟨m2, mX, wX, aX⟩ := sqRows hA
      obtain ⟨n2, nY, wY, aY⟩ := sqRows hB
      have SS : ∀ va vb VA VB Ba Bb w, Fam w Ba va m VA X → Fam w Bb vb n VB Y → Hid (∀ wx, Below w.heap.size w wx → Calls Try.prog 24 #[va, vb] wx fun e w' => ∃ V VS, e = .returned V ∧ FamL w' wx.heap.size V VS (mrg (rowsL X m) (rowsL Y n)) ∧ Sep (mrg (rowsL X m) (rowsL Y n)).length VS ∧ Below wx.heap.size wx w') :=
        fun va vb VA VB Ba Bb w ha hb => Lib.hid fun wx hx => l01Sum_any va vb m n X Y VA VB Ba Bb wx (ha.below hx) (hb.below hx) (by omega) (by omega) (fun i hi => by have := mX i hi; omega) (fun i hi => by have := nY i hi; omega)
      have SI : ∀ va vb w, RdSS w va m X → RdSS w vb n Y → Hid (∀ wx, Below w.heap.size w wx → Calls Try.prog 27 #[va, vb] wx fun e w' => ∃ V VS, e = .returned V ∧ FamL w' wx.heap.size V VS (mrg (rowsL X m) (rowsL Y n)) ∧ Sep (mrg (rowsL X m) (rowsL Y n)).length VS ∧ Below wx.heap.size wx w') :=
        fun va vb w ha hb => Lib.hid fun wx hx => sumOfTerms_any va vb m n X Y wx (ha.below hx) (hb.below hx) (by omega) (by omega) mX nY wX wY aX aY sort_any
      have HR := Lib.hid (cut_is (mrg (rowsL X m) (rowsL Y n)))
      have hl := cutL_len (mrg (rowsL X m) (rowsL Y n))
      have hs := cutL_short (mrg (rowsL X m) (rowsL Y n)) (mrg_short X Y m n mX nY)
      have S1 : ∀ va w, RdSS w va m X → Hid (∀ wx, Below w.heap.size w wx → Calls Try.prog 35 #[.agg #[va]] wx (SaysB true wx)) := fun va w ha => Lib.hid fun wx hx => (isS_yes X m hA).1 va wx (ha.below hx)
      have S2 : ∀ vb w, RdSS w vb n Y → Hid (∀ wx, Below w.heap.size w wx → Calls Try.prog 35 #[.agg #[vb]] wx (SaysB true wx)) := fun vb w hb => Lib.hid fun wx hx => (isS_yes Y n hB).1 vb wx (hb.below hx)
      have I1 : ∀ va w, RdSS w va m X → Hid (∀ wx, Below w.heap.size w wx → Calls Try.prog 38 #[.agg #[va]] wx (SaysB true wx)) := fun va w ha => Lib.hid fun wx hx => (isS_yes X m hA).2 va wx (ha.below hx)
      have I2 : ∀ vb w, RdSS w vb n Y → Hid (∀ wx, Below w.heap.size w wx → Calls Try.prog 38 #[.agg #[vb]] wx (SaysB true wx)) := fun vb w hb => Lib.hid fun wx hx => (isS_yes Y n hB).2 vb wx (hb.below hx)
      have head : ∀ va w, ∀ (m : Nat) (X : Nat → List Int), okSq X m → 0 < m → RdSS w va m X → ∃ b o v cap, va = .slice (some ⟨b, o, none⟩) m cap ∧ w.cell? ⟨b, o, none⟩ = some v ∧ DegIs w v (sumL (X 0)) := by
        intro va w m X hok hm h
        obtain ⟨_, _, VS, hc, hr⟩ := h
        obtain ⟨b, o, ⟨cap, e⟩, hc⟩ := hc.resolve_left (by omega)
        have := hc 0 hm
        rw [Nat.add_zero] at this
        exact ⟨b, o, VS 0, cap, e, this, degIs_word (hr 0 hm) (hok.2 0 hm).1⟩
      by_cases hm : m = 0
      · refine ⟨_, cutC (mrg (rowsL X m) (rowsL Y n)), hl, hs, ?_, ?_⟩
        · intro va vb VA VB Ba Bb w ha hb
          obtain ⟨aa, ca, rfl⟩ := ha.rdss.head
          obtain ⟨ab, cb, rfl⟩ := hb.rdss.head
          exact specAdd_sum0 aa ab m n ca cb w (S1 _ w ha.rdss) (S2 _ w hb.rdss) hm _ _ _ (SS _ _ VA VB Ba Bb w ha hb) HR
        · intro va vb w ha hb
          obtain ⟨aa, ca, rfl⟩ := ha.head
          obtain ⟨ab, cb, rfl⟩ := hb.head
          exact implAdd_sum0 aa ab m n ca cb w (I1 _ w ha) (I2 _ w hb) hm _ _ _ (SI _ _ w ha hb) HR
      · by_cases hn : n = 0
        · refine ⟨_, cutC (mrg (rowsL X m) (rowsL Y n)), hl, hs, ?_, ?_⟩
          · intro va vb VA VB Ba Bb w ha hb
            obtain ⟨aa, ca, rfl⟩ := ha.rdss.head
            obtain ⟨ab, cb, rfl⟩ := hb.rdss.head
            exact specAdd_sum1 aa ab m n ca cb w (S1 _ w ha.rdss) (S2 _ w hb.rdss) (by omega) hn _ _ _ (SS _ _ VA VB Ba Bb w ha hb) HR
          · intro va vb w ha hb
            obtain ⟨aa, ca, rfl⟩ := ha.head
            obtain ⟨ab, cb, rfl⟩ := hb.head
            exact implAdd_sum1 aa ab m n ca cb w (I1 _ w ha) (I2 _ w hb) (by omega) hn _ _ _ (SI _ _ w ha hb) HR
        · by_cases he : sumL (X 0) = sumL (Y 0)
          · refine ⟨_, cutC (mrg (rowsL X m) (rowsL Y n)), hl, hs, ?_, ?_⟩
            · intro va vb VA VB Ba Bb w ha hb
              obtain ⟨b1, o1, v1, ca, rfl, c1, d1⟩ := head va w m X hA (by omega) ha.rdss
              obtain ⟨b2, o2, v2, cb, rfl, c2, d2⟩ := head vb w n Y hB (by omega) hb.rdss
              rw [← he] at d2
              exact specAdd_sum2 _ _ m n ca cb w (S1 _ w ha.rdss) (S2 _ w hb.rdss) b1 o1 b2 o2 v1 v2 _ rfl rfl c1 c2 d1 d2 (by omega) (by omega) _ _ _ (SS _ _ VA VB Ba Bb w ha hb) HR
            · intro va vb w ha hb
              obtain ⟨b1, o1, v1, ca, rfl, c1, d1⟩ := head va w m X hA (by omega) ha
              obtain ⟨b2, o2, v2, cb, rfl, c2, d2⟩ := head vb w n Y hB (by omega) hb
              rw [← he] at d2
              exact implAdd_sum2 _ _ m n ca cb w (I1 _ w ha) (I2 _ w hb) b1 o1 b2 o2 v1 v2 _ rfl rfl c1 c2 d1 d2 (by omega) (by omega) _ _ _ (SI _ _ w ha hb) HR
          · have hne : (sumL (X 0) != sumL (Y 0)) = true := by rw [bne_iff_ne]; exact he
            refine ⟨[], 2, Nat.zero_le _, hnil, ?_, ?_⟩
            · intro va vb VA VB Ba Bb w ha hb
              obtain ⟨b1, o1, v1, ca, rfl, c1, d1⟩ := head va w m X hA (by omega) ha.rdss
              obtain ⟨b2, o2, v2, cb, rfl, c2, d2⟩ := head vb w n Y hB (by omega) hb.rdss
              exact specAdd_range _ _ m n ca cb w (S1 _ w ha.rdss) (S2 _ w hb.rdss) b1 o1 b2 o2 v1 v2 _ _ rfl rfl c1 c2 d1 d2 (by omega) (by omega) hne
            · intro va vb w ha hb
              obtain ⟨b1, o1, v1, ca, rfl, c1, d1⟩ := head va w m X hA (by omega) ha
              obtain ⟨b2, o2, v2, cb, rfl, c2, d2⟩ := head vb w n Y hB (by omega) hb
              exact implAdd_range _ _ m n ca cb w (I1 _ w ha) (I2 _ w hb) b1 o1 b2 o2 v1 v2 _ _ rfl rfl c1 c2 d1 d2 (by omega) (by omega) hne
    · refine ⟨[], 1, Nat.zero_le _, hnil, ?_, ?_⟩
      · intro va vb VA VB Ba Bb w ha hb
        obtain ⟨aa, ca, rfl⟩ := ha.rdss.head
        obtain ⟨ab, cb, rfl⟩ := hb.rdss.head
        exact specAdd_bad2 aa ab m n ca cb w (Lib.hid fun wx hx => (isS_yes X m hA).1 _ wx (ha.rdss.below hx)) (Lib.hid fun wx hx => (isS_no Y n hB).1 _ wx (hb.rdss.below hx))
      · intro va vb w ha hb
        obtain ⟨aa, ca, rfl⟩ := ha.head
        obtain ⟨ab, cb, rfl⟩ := hb.head
        exact implAdd_bad2 aa ab m n ca cb w (Lib.hid fun wx hx => (isS_yes X m hA).2 _ wx (ha.below hx)) (Lib.hid fun wx hx => (isS_no Y n hB).2 _ wx (hb.below hx))
  · refine ⟨[], 1, Nat.zero_le _, hnil, ?_, ?_⟩
    · intro va vb VA VB Ba Bb w ha hb
      obtain ⟨aa, ca, rfl⟩ := ha.rdss.head
      obtain ⟨ab, cb, rfl⟩ := hb.rdss.head
      exact specAdd_bad1 aa ab m n ca cb w (Lib.hid fun wx hx => (isS_no X m hA).1 _ wx (ha.rdss.below hx))
    · intro va vb w ha hb
      obtain ⟨aa, ca, rfl⟩ := ha.head
      obtain ⟨ab, cb, rfl⟩ := hb.head
      exact implAdd_bad1 aa ab m n ca cb w (Lib.hid fun wx hx => (isS_no X m hA).2 _ wx (ha.below hx))
end Go.Proofs.Ythbibkehhnggfaa
