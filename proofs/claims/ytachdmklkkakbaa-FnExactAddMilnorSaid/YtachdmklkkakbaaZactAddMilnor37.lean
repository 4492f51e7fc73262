/-
  Joined: KAsc, NAddB, NLaw2.
-/
import Derived.Test.YtachdmklkkakbaaZactAddMilnor31
import Derived.Test.YtachdmklkkakbaaZactAddMilnor28
import Derived.Test.YtachdmklkkakbaaZactAddMilnor12
import Derived.Test.YtachdmklkkakbaaZactAddMilnor17
import Derived.Test.YtachdmklkkakbaaZactAddMilnor33
import Derived.Test.YtachdmklkkakbaaZactAddMilnor34
import Derived.Test.YtachdmklkkakbaaZactAddMilnor36
import Derived.Test.YtachdmklkkakbaaZactAddMilnor15
import Derived.Test.YtachdmklkkakbaaZactAddMilnor14
import Derived.Deep.DeepCutAuto
import Derived.Deep.RegionWith
import Derived.Deep.RegionHeld3
import Derived.BigRegion
section
namespace Go.Proofs.Ytachdmklkkakbaa
open Go.RowKit
set_option maxRecDepth 100000
set_option linter.unusedVariables false

theorem step_lt (X : Nat → List Int) (m : Nat) (h : ∀ i, i < m → stepOk X i) : ∀ j, j < m → ∀ i, i < j → lexLt (X i) (X j) = true := by
  intro j
  induction j with
  | zero => intro _ i hi; exact absurd hi (Nat.not_lt_zero _)
  | succ j ih =>
    intro hj i hi
    have h1 : lexLt (X j) (X (j + 1)) = true := h (j + 1) hj (Nat.succ_pos _)
    by_cases e : i = j
    · subst e; exact h1
    · exact lexLt_trans _ _ _ (ih (by omega) i (by omega)) h1
theorem asc_rows (X : Nat → List Int) (m : Nat) (h : ∀ i, i < m → stepOk X i) : Asc (rowsL X m) := by
  refine List.pairwise_iff_getElem.2 fun i j hi hj hij => ?_
  rw [rowsL_len] at hi hj
  simp only [rowsL, List.getElem_map, List.getElem_range]
  exact step_lt X m h j hj i hij

theorem mrg_short (X Y : Nat → List Int) (m n : Nat) (hX : ∀ i, i < m → (X i).length ≤ 20) (hY : ∀ i, i < n → (Y i).length ≤ 20) (i : Nat) : (rowsOf (mrg (rowsL X m) (rowsL Y n)) i).length ≤ 20 := by
  unfold rowsOf
  by_cases h : i < (mrg (rowsL X m) (rowsL Y n)).length
  · rw [List.getElem?_eq_getElem h]
    rcases mrg_sub _ _ _ (List.getElem_mem h) with h1 | h1
    · obtain ⟨j, hj, e⟩ := mem_rowsL h1
      show (mrg (rowsL X m) (rowsL Y n))[i].length ≤ 20
      rw [e]; exact hX j hj
    · obtain ⟨j, hj, e⟩ := mem_rowsL h1
      show (mrg (rowsL X m) (rowsL Y n))[i].length ≤ 20
      rw [e]; exact hY j hj
  · rw [List.getElem?_eq_none (by omega)]
    exact Nat.zero_le _

end Go.Proofs.Ytachdmklkkakbaa
end
section
namespace Go.Proofs.Ytachdmklkkakbaa.Ml
open Go.RowKit
set_option linter.unusedVariables false
set_option maxRecDepth 100000

theorem mlRows {X : Nat → List Int} {m : Nat} (h : okMl X m) : (m ≤ 2000) ∧ (∀ i, i < m → (X i).length ≤ 20) ∧ (∀ i, i < m → ∀ z ∈ X i, (Lit.int .i64 z).wf = true) ∧ Asc (rowsL X m) :=
  ⟨h.1.1, h.1.2.1, fun i hi => isE_wf (h.2 i hi).1.1, asc_rows X m h.1.2.2⟩
theorem mrg_le : ∀ (xs ys : List (List Int)), (mrg xs ys).length ≤ xs.length + ys.length
  | [], ys => by rw [mrg]; simp
  | x :: xs, [] => by rw [mrg]; simp
  | x :: xs, y :: ys => by
    rw [mrg]
    split
    · have := mrg_le xs (y :: ys)
      simp only [List.length_cons] at this ⊢
      omega
    · split
      · have := mrg_le (x :: xs) ys
        simp only [List.length_cons] at this ⊢
        omega
      · have := mrg_le xs ys
        simp only [List.length_cons]
        omega
  termination_by xs ys => xs.length + ys.length
/-- The first term of an element other than 0. -/
theorem headM {va : Value} {w : World} {m : Nat} {X : Nat → List Int} (hok : okMl X m) (hm : 0 < m) (h : RdSS w va m X) :
    ∃ b o v cap, va = .slice (some ⟨b, o, none⟩) m cap ∧ w.cell? ⟨b, o, none⟩ = some v ∧ DegE w v (dgL (X 0)) := by
  obtain ⟨_, _, VS, hc, hr⟩ := h
  obtain ⟨b, o, ⟨cap, e⟩, hc⟩ := hc.resolve_left (by omega)
  have := hc 0 hm
  rw [Nat.add_zero] at this
  exact ⟨b, o, VS 0, cap, e, this, degE_list (hr 0 hm) (hok.2 0 hm).1.1⟩

theorem AddMilnor_both (m n : Nat) (X Y : Nat → List Int) :
    ∃ (L : List (List Int)) (cd : Int), L.length ≤ 4000 ∧ (∀ i, (rowsOf L i).length ≤ 20) ∧
      (∀ va vb VA VB Ba Bb w, Fam w Ba va m VA X → Fam w Bb vb n VB Y → Calls Try.prog 17 #[.agg #[va], .agg #[vb]] w (ResS L cd w)) ∧
      (∀ va vb w, RdSS w va m X → RdSS w vb n Y → Calls Try.prog 18 #[.agg #[va], .agg #[vb]] w (ResS L cd w)) := by
  have hnil : ∀ i, (rowsOf [] i).length ≤ 20 := fun i => Nat.zero_le _
  by_cases hA : okMl X m
  · by_cases hB : okMl Y n
    · obtain ⟨m2, mX, wX, aX⟩ := mlRows hA
      obtain ⟨n2, nY, wY, aY⟩ := mlRows hB
      have SS : ∀ va vb VA VB Ba Bb w, Fam w Ba va m VA X → Fam w Bb vb n VB Y → Hid (∀ wx, Below w.heap.size w wx → Calls Try.prog 59 #[va, vb] wx fun e w' => ∃ V VS, e = .returned V ∧ FamL w' wx.heap.size V VS (mrg (rowsL X m) (rowsL Y n)) ∧ Sep (mrg (rowsL X m) (rowsL Y n)).length VS ∧ Below wx.heap.size wx w') :=
        fun va vb VA VB Ba Bb w ha hb => Lib.hid fun wx hx => l01Sum_any va vb m n X Y VA VB Ba Bb wx (ha.below hx) (hb.below hx) (by omega) (by omega) (fun i hi => by have := mX i hi; omega) (fun i hi => by have := nY i hi; omega)
      have SI : ∀ va vb w, RdSS w va m X → RdSS w vb n Y → Hid (∀ wx, Below w.heap.size w wx → Calls Try.prog 73 #[va, vb] wx fun e w' => ∃ V VS, e = .returned V ∧ FamL w' wx.heap.size V VS (mrg (rowsL X m) (rowsL Y n)) ∧ Sep (mrg (rowsL X m) (rowsL Y n)).length VS ∧ Below wx.heap.size wx w') :=
        fun va vb w ha hb => Lib.hid fun wx hx => sumOfTerms_any va vb m n X Y wx (ha.below hx) (hb.below hx) (by omega) (by omega) mX nY wX wY aX aY sort_any
      have hl : (mrg (rowsL X m) (rowsL Y n)).length ≤ 4000 := by
        have := mrg_le (rowsL X m) (rowsL Y n)
        rw [rowsL_len, rowsL_len] at this
        omega
      have hs := mrg_short X Y m n mX nY
      have S1 : ∀ va w, RdSS w va m X → Hid (∀ wx, Below w.heap.size w wx → Calls Try.prog 43 #[.agg #[va]] wx (SaysB true wx)) := fun va w ha => Lib.hid fun wx hx => (isM_yes X m hA).1 va wx (ha.below hx)
      have S2 : ∀ vb w, RdSS w vb n Y → Hid (∀ wx, Below w.heap.size w wx → Calls Try.prog 43 #[.agg #[vb]] wx (SaysB true wx)) := fun vb w hb => Lib.hid fun wx hx => (isM_yes Y n hB).1 vb wx (hb.below hx)
      have I1 : ∀ va w, RdSS w va m X → Hid (∀ wx, Below w.heap.size w wx → Calls Try.prog 15 #[.agg #[va]] wx (SaysB true wx)) := fun va w ha => Lib.hid fun wx hx => (isM_yes X m hA).2 va wx (ha.below hx)
      have I2 : ∀ vb w, RdSS w vb n Y → Hid (∀ wx, Below w.heap.size w wx → Calls Try.prog 15 #[.agg #[vb]] wx (SaysB true wx)) := fun vb w hb => Lib.hid fun wx hx => (isM_yes Y n hB).2 vb wx (hb.below hx)
      by_cases hm : m = 0
      · refine ⟨_, 0, hl, hs, ?_, ?_⟩
        · intro va vb VA VB Ba Bb w ha hb
          obtain ⟨aa, ca, rfl⟩ := ha.rdss.head
          obtain ⟨ab, cb, rfl⟩ := hb.rdss.head
          exact specAdd_sum aa ab m n ca cb w (S1 _ w ha.rdss) (S2 _ w hb.rdss) true (Lib.hid fun wx _ => by subst hm; exact l04Same_0 aa ab n ca cb wx) rfl _ (SS _ _ VA VB Ba Bb w ha hb)
        · intro va vb w ha hb
          obtain ⟨aa, ca, rfl⟩ := ha.head
          obtain ⟨ab, cb, rfl⟩ := hb.head
          exact implAdd_sum0 aa ab m n ca cb w (I1 _ w ha) (I2 _ w hb) hm _ (SI _ _ w ha hb)
      · by_cases hn : n = 0
        · refine ⟨_, 0, hl, hs, ?_, ?_⟩
          · intro va vb VA VB Ba Bb w ha hb
            obtain ⟨aa, ca, rfl⟩ := ha.rdss.head
            obtain ⟨ab, cb, rfl⟩ := hb.rdss.head
            exact specAdd_sum aa ab m n ca cb w (S1 _ w ha.rdss) (S2 _ w hb.rdss) true (Lib.hid fun wx _ => by subst hn; exact l04Same_1 aa ab m ca cb wx (by omega)) rfl _ (SS _ _ VA VB Ba Bb w ha hb)
          · intro va vb w ha hb
            obtain ⟨aa, ca, rfl⟩ := ha.head
            obtain ⟨ab, cb, rfl⟩ := hb.head
            exact implAdd_sum1 aa ab m n ca cb w (I1 _ w ha) (I2 _ w hb) (by omega) hn _ (SI _ _ w ha hb)
        · by_cases he : dgL (X 0) = dgL (Y 0)
          · refine ⟨_, 0, hl, hs, ?_, ?_⟩
            · intro va vb VA VB Ba Bb w ha hb
              obtain ⟨b1, o1, v1, ca, rfl, c1, d1⟩ := headM hA (by omega) ha.rdss
              obtain ⟨b2, o2, v2, cb, rfl, c2, d2⟩ := headM hB (by omega) hb.rdss
              exact specAdd_sum _ _ m n ca cb w (S1 _ w ha.rdss) (S2 _ w hb.rdss) true (Lib.hid fun wx hx => l04Same_2 m n ca cb wx b1 o1 b2 o2 v1 v2 _ _ ((hx.cell (p := ⟨b1, o1, none⟩) (World.block_lt_of_cell? w _ c1)).trans c1) ((hx.cell (p := ⟨b2, o2, none⟩) (World.block_lt_of_cell? w _ c2)).trans c2) (d1.below hx) (d2.below hx) (by omega) (by omega) true (by rw [he]; exact beq_self_eq_true _)) rfl _ (SS _ _ VA VB Ba Bb w ha hb)
            · intro va vb w ha hb
              obtain ⟨b1, o1, v1, ca, rfl, c1, d1⟩ := headM hA (by omega) ha
              obtain ⟨b2, o2, v2, cb, rfl, c2, d2⟩ := headM hB (by omega) hb
              rw [← he] at d2
              exact implAdd_sum2 _ _ m n ca cb w (I1 _ w ha) (I2 _ w hb) b1 o1 b2 o2 v1 v2 _ (Lib.hid (hA.2 0 (by omega)).1.2) rfl rfl c1 c2 d1 d2 (by omega) (by omega) _ (SI _ _ w ha hb)
          · have hne : (dgL (X 0) != dgL (Y 0)) = true := by rw [bne_iff_ne]; exact he
            refine ⟨[], 2, Nat.zero_le _, hnil, ?_, ?_⟩
            · intro va vb VA VB Ba Bb w ha hb
              obtain ⟨b1, o1, v1, ca, rfl, c1, d1⟩ := headM hA (by omega) ha.rdss
              obtain ⟨b2, o2, v2, cb, rfl, c2, d2⟩ := headM hB (by omega) hb.rdss
              exact specAdd_range _ _ m n ca cb w (S1 _ w ha.rdss) (S2 _ w hb.rdss) false (Lib.hid fun wx hx => l04Same_2 m n ca cb wx b1 o1 b2 o2 v1 v2 _ _ ((hx.cell (p := ⟨b1, o1, none⟩) (World.block_lt_of_cell? w _ c1)).trans c1) ((hx.cell (p := ⟨b2, o2, none⟩) (World.block_lt_of_cell? w _ c2)).trans c2) (d1.below hx) (d2.below hx) (by omega) (by omega) false (by rw [beq_eq_false_iff_ne]; exact he)) rfl
            · intro va vb w ha hb
              obtain ⟨b1, o1, v1, ca, rfl, c1, d1⟩ := headM hA (by omega) ha
              obtain ⟨b2, o2, v2, cb, rfl, c2, d2⟩ := headM hB (by omega) hb
              exact implAdd_range _ _ m n ca cb w (I1 _ w ha) (I2 _ w hb) b1 o1 b2 o2 v1 v2 _ _ (Lib.hid (hA.2 0 (by omega)).1.2) (Lib.hid (hB.2 0 (by omega)).1.2) rfl rfl c1 c2 d1 d2 (by omega) (by omega) hne
    · refine ⟨[], 1, Nat.zero_le _, hnil, ?_, ?_⟩
      · intro va vb VA VB Ba Bb w ha hb
        obtain ⟨aa, ca, rfl⟩ := ha.rdss.head
        obtain ⟨ab, cb, rfl⟩ := hb.rdss.head
        exact specAdd_bad2 aa ab m n ca cb w (Lib.hid fun wx hx => (isM_yes X m hA).1 _ wx (ha.rdss.below hx)) (Lib.hid fun wx hx => (isM_no Y n hB).1 _ wx (hb.rdss.below hx))
      · intro va vb w ha hb
        obtain ⟨aa, ca, rfl⟩ := ha.head
        obtain ⟨ab, cb, rfl⟩ := hb.head
        exact implAdd_bad2 aa ab m n ca cb w (Lib.hid fun wx hx => (isM_yes X m hA).2 _ wx (ha.below hx)) (Lib.hid fun wx hx => (isM_no Y n hB).2 _ wx (hb.below hx))
  · refine ⟨[], 1, Nat.zero_le _, hnil, ?_, ?_⟩
    · intro va vb VA VB Ba Bb w ha hb
      obtain ⟨aa, ca, rfl⟩ := ha.rdss.head
      obtain ⟨ab, cb, rfl⟩ := hb.rdss.head
      exact specAdd_bad1 aa ab m n ca cb w (Lib.hid fun wx hx => (isM_no X m hA).1 _ wx (ha.rdss.below hx))
    · intro va vb w ha hb
      obtain ⟨aa, ca, rfl⟩ := ha.head
      obtain ⟨ab, cb, rfl⟩ := hb.head
      exact implAdd_bad1 aa ab m n ca cb w (Lib.hid fun wx hx => (isM_no X m hA).2 _ wx (ha.below hx))
end Go.Proofs.Ytachdmklkkakbaa.Ml
end
section
namespace Go.Proofs.Ytachdmklkkakbaa.Ml
open Go.RowKit
set_option linter.unusedVariables false
set_option maxRecDepth 100000

/-- The two arguments in their boxes. -/
structure Sq2 (w0 : World) (V0 V1 : Value) (w : World) : Prop where
  bel : Below w0.heap.size w0 w
  boxA : Box1 w w0.heap.size 24 V0
  boxB : Box1 w (w0.heap.size + 1) 24 V1
/-- A struct that the law holds: its box and the family. -/
structure OwnF (w0 : World) (g : Nat) (V : Value) (m : Nat) (VS : Nat → Value) (X : Nat → List Int) (w : World) : Prop where
  fam : Fam w w0.heap.size V m VS X
  sep : Sep m VS
  box : Box1 w g 27 V
  ge : w0.heap.size ≤ g

section
variable {w0 w w' : World} {V0 V1 V : Value} {g m : Nat} {VS : Nat → Value} {X : Nat → List Int}
theorem Sq2.start (w : World) (V0 V1 : Value) : Sq2 w V0 V1 ((w.alloc (.cells #[V0] 24)).alloc (.cells #[V1] 24)) := by
  refine ⟨((Below.refl w.heap.size w).alloc (Nat.le_refl _) _).alloc (by simp) _, (Box1.new w _ _).alloc _, ?_⟩
  have := Box1.new (w.alloc (.cells #[V0] 24)) 24 V1
  simpa using this
theorem Sq2.up (h : Sq2 w0 V0 V1 w) (k : Below w.heap.size w w') : Sq2 w0 V0 V1 w' := ⟨h.bel.step1 k, h.boxA.up k, h.boxB.up k⟩
theorem Sq2.alloc (h : Sq2 w0 V0 V1 w) (o : Obj) : Sq2 w0 V0 V1 (w.alloc o) := h.up ((Below.refl _ _).alloc (Nat.le_refl _) _)
theorem OwnF.up (h : OwnF w0 g V m VS X w) (k : Below w.heap.size w w') : OwnF w0 g V m VS X w' := ⟨h.fam.below k, h.sep, h.box.up k, h.ge⟩
theorem OwnF.alloc (h : OwnF w0 g V m VS X w) (o : Obj) : OwnF w0 g V m VS X (w.alloc o) := h.up ((Below.refl _ _).alloc (Nat.le_refl _) _)
theorem OwnF.start (hw : w0.heap.size ≤ w.heap.size) (h : Fam w w0.heap.size V m VS X) (hs : Sep m VS) : OwnF w0 w.heap.size V m VS X (w.alloc (.cells #[V] 27)) :=
  ⟨h.below ((Below.refl _ _).alloc (Nat.le_refl _) _), hs, Box1.new _ _ _, hw⟩
theorem OwnF.stored {x : Value} (h : Box1 w g 27 x) (o : Fam w w0.heap.size V m VS X) (hs : Sep m VS) (hg : w0.heap.size ≤ g) : OwnF w0 g V m VS X (w.setCell ⟨g, 0, none⟩ V) :=
  ⟨⟨own_sameblock o.out fun q hq => heap_setCell_other _ _ _ _ (h.ne_own o.out (by decide) q hq), fun i hi => own_sameblock (o.inn i hi) fun q hq => heap_setCell_other _ _ _ _ (h.ne_own (o.inn i hi) (by decide) q hq)⟩, hs, h.set V, hg⟩
theorem OwnF.rest {g' n : Nat} {V' : Value} {VB : Nat → Value} {Y : Nat → List Int} (h : OwnF w0 g V m VS X w) (k : OwnF w0 g' V' n VB Y w) (r : MRestK n VB w w') (ap : FApart m VS n VB) : OwnF w0 g V m VS X w' :=
  ⟨h.fam.rest k.fam r ap, h.sep, h.box.restK (B' := 0) (by decide) k.fam r, h.ge⟩
theorem Sq2.rest {g' n : Nat} {V' : Value} {VB : Nat → Value} {Y : Nat → List Int} (h : Sq2 w0 V0 V1 w) (k : OwnF w0 g' V' n VB Y w) (r : MRestK n VB w w') (b : Below w0.heap.size w w') : Sq2 w0 V0 V1 w' :=
  ⟨h.bel.trans b, h.boxA.restK (B' := 0) (by decide) k.fam r, h.boxB.restK (B' := 0) (by decide) k.fam r⟩

/-- What is kept of a struct that a region made: the block of its box, its lists, its code. -/
def MadeS (w0 wS : World) (cd : Int) (L : List (List Int)) (s6 s7 : Value) (wx : World) : Prop :=
  ∃ (g : Nat) (va : Option Addr) (vc : Nat) (VS : Nat → Value), s6 = .pointer (some ⟨g, 0, none⟩) ∧ s7 = .int .i64 cd ∧ Hid (OwnF w0 g (.slice va L.length vc) L.length VS (rowsOf L) wx) ∧ Hid (Below wS.heap.size wS wx)
end
end Go.Proofs.Ytachdmklkkakbaa.Ml
end
