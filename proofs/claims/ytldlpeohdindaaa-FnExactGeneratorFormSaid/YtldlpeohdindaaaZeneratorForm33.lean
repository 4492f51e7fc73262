/-
  Joined: SIsI, SLaw2, ROut.
-/
import Derived.Test.YtldlpeohdindaaaZeneratorForm32
import Derived.Test.YtldlpeohdindaaaZeneratorForm30
import Derived.Deep.DeepCutAuto
import Derived.Deep.RegionWith
import Derived.Deep.RegionHeld3
import Derived.BigRegion
import Derived.Test.YtldlpeohdindaaaZeneratorForm28
import Derived.Test.YtldlpeohdindaaaZeneratorForm05
import Derived.Test.YtldlpeohdindaaaZeneratorForm29
section
namespace Go.Proofs.Ytldlpeohdindaaa
open Go.RowKit
set_option linter.unusedVariables false
set_option maxRecDepth 100000

theorem implIsS_wild (V : Value) (m : Nat) (X : Nat → List Int) (w : World) (h : RdSS w V m X) (hok : ¬ okTerms X m) :
    Calls Try.prog 28 #[.agg #[V]] w (SaysB false w) := by
  obtain ⟨a, cap, rfl⟩ := h.head
  have t2 := Try.underlying24
  have B0 : Hid (Below w.heap.size w (w.alloc (.cells #[.slice a m cap] 24))) := Lib.hid ((Below.refl w.heap.size w).alloc (Nat.le_refl _) _)
  have A := Lib.hid (implTerm_no _ m X _ (h.below B0.out) hok)
  clear h hok
  go_enter Try.func28, Try.ntmps28
  go_wp2_with fail
  refine A.out.mono ?_
  rintro e w' ⟨rfl, rfl⟩
  go_wp2_with fail
  go_ret
  exact ⟨rfl, B0.out⟩

theorem implIsS_go (V : Value) (m z : Nat) (r : Bool) (X : Nat → List Int) (w : World) (h : RdSS w V m X) (hok : okTerms X m) (hz : z ≤ m) (hgood : ∀ i, i < z → stepS X i)
    (hend : (z = m ∧ r = true) ∨ (z < m ∧ ¬ stepS X z ∧ r = false)) :
    Calls Try.prog 28 #[.agg #[V]] w (SaysB r w) := by
  have h' := h
  have hm : m ≤ 2000 := hok.1
  obtain ⟨⟨a, cap, rfl⟩, hsm, VS, hc, hr⟩ := h
  have t2 := Try.underlying24
  have B0 : Hid (Below w.heap.size w (w.alloc (.cells #[.slice a m cap] 24))) := Lib.hid ((Below.refl w.heap.size w).alloc (Nat.le_refl _) _)
  have BX : Hid (Box1 (w.alloc (.cells #[.slice a m cap] 24)) w.heap.size 24 (.slice a m cap)) := Lib.hid (Box1.new _ _ _)
  have A := Lib.hid (implTerm_yes _ m X _ (h'.below B0.out) hok)
  have HR := Lib.hid (fun i hi => (hr i hi).below B0.out)
  have HO := Lib.hid hgood
  have HE := Lib.hid hend
  clear h' hok hr hgood hend
  by_cases h0 : m = 0
  · subst h0
    obtain ⟨_, rfl⟩ := HE.out.resolve_right (fun h => by omega)
    clear hc HR HO HE BX
    go_enter Try.func28, Try.ntmps28
    go_wp2_with fail
    refine A.out.mono ?_
    rintro e w' ⟨rfl, rfl⟩
    go_wp2_with fail
    refine wp_loop_rounds 1 ?_
    rw [rounds_succ]
    go_wp2
    go_ret
    exact ⟨rfl, B0.out⟩
  · obtain ⟨b, off, ⟨cap', e⟩, hc'⟩ := hc.resolve_left h0
    cases e
    have hb : b < w.heap.size := World.block_lt_of_cell? w ⟨b, off + 0, none⟩ (hc' 0 (by omega))
    have HC : Hid (∀ i, i < m → (w.alloc (.cells #[.slice (some ⟨b, off, none⟩) m cap] 24)).cell? ⟨b, off + i, none⟩ = some (VS i)) := Lib.hid (fun i hi => (B0.out.cell (p := ⟨b, off + i, none⟩) hb).trans (hc' i hi))
    have HB1 : Hid (b < (w.alloc (.cells #[.slice (some ⟨b, off, none⟩) m cap] 24)).heap.size) := Lib.hid (by simp; omega)
    clear hc hc' hb
    go_enter Try.func28, Try.ntmps28
    go_wp2_with fail
    refine A.out.mono ?_
    rintro e w' ⟨rfl, rfl⟩
    clear A
    generalize (w.alloc (.cells #[.slice (some ⟨b, off, none⟩) m cap] 24)) = w1 at *
    have d0 := BX.out.c
    go_wp2_with fail
    clear d0
    go_loopw [4, 12] (fun _ c wr => ∃ k : Nat, k ≤ z ∧ c = .int .i64 k ∧ Hid (Below w1.heap.size w1 wr)) (fun _ c _ => m - (intOf c).toNat)
    case atStart => exact ⟨0, by omega, rfl, Lib.hid (Below.refl _ _)⟩
    case round =>
      obtain ⟨k, hk, rfl, hw⟩ := hrel
      have d0 : wr.cell? ⟨w.heap.size, 0, none⟩ = some (.slice (some ⟨b, off, none⟩) m cap) := (BX.out.up hw.out).c
      by_cases hkm : k < m
      · have hlt' : (k : Int) < (m : Int) := by omega
        have hpm : (0 : Int) < (m : Int) := by omega
        obtain ⟨v1, hv1⟩ : ∃ v, v = VS k := ⟨_, rfl⟩
        obtain ⟨v2, hv2⟩ : ∃ v, v = VS 0 := ⟨_, rfl⟩
        have c1 : wr.cell? ⟨b, off + k, none⟩ = some v1 := by rw [hv1]; exact (hw.out.cell (p := ⟨b, off + k, none⟩) HB1.out).trans (HC.out k hkm)
        have c2 : Hid (wr.cell? ⟨b, off, none⟩ = some v2) := Lib.hid (by rw [hv2]; exact (hw.out.cell (p := ⟨b, off, none⟩) HB1.out).trans (HC.out 0 (by omega)))
        have R1 : Hid (RdI wr v1 (X k).length (fun j => (X k)[j]?.getD 0)) := Lib.hid (by rw [hv1]; exact (HR.out k hkm).below hw.out)
        have R2 : Hid (RdI wr v2 (X 0).length (fun j => (X 0)[j]?.getD 0)) := Lib.hid (by rw [hv2]; exact (HR.out 0 (by omega)).below hw.out)
        clear hv1 hv2
        have KEEP : Hid (∀ wx, Below wr.heap.size wr wx → (wx.cell? ⟨w.heap.size, 0, none⟩ = some (.slice (some ⟨b, off, none⟩) m cap) ∧ Below wr.heap.size wr wx)) :=
          Lib.hid (fun wx hb => ⟨(BX.out.up (hw.out.step1 hb)).c, hb⟩)
        have z0 : Below wr.heap.size wr wr.drew := (Below.refl _ _).drew
        by_cases hwd : isW (X k)
        · have hw0 : isW (X 0) := by
            by_cases e : k = 0
            · subst e; exact hwd
            · exact (HO.out 0 (by omega)).1
          have E1 : Hid (∀ wx, Below wr.heap.size wr wx → Calls Try.prog 49 #[v1] wx fun e w' => e = .returned (.bool true) ∧ wx = w') :=
            Lib.hid (fun wx hb => isWord_yes v1 _ _ _ (R1.out.below hb) hwd)
          have p1 : Hid (DegIs wr v1 (sumL (X k))) := Lib.hid (degIs_word R1.out hwd)
          have p2 : Hid (DegIs wr v2 (sumL (X 0))) := Lib.hid (degIs_word R2.out hw0)
          by_cases hlt : k < z
          · have hx := (HO.out k hlt).2
            rw [hx] at p1
            generalize sumL (X 0) = x at p1 p2
            clear R1 R2 hwd hw0 hx
            have E3 : Hid (∀ wx, Below wr.heap.size wr wx → Calls Try.prog 29 #[.agg #[.slice (some ⟨b, off, none⟩) m cap]] wx fun e w' => e = .returned (.int .i64 x) ∧ Below wx.heap.size wx w') :=
              Lib.hid (fun wx hb => degree_any _ m cap x wx (fun h => by omega) (fun _ => ⟨b, off, v2, rfl, (hb.cell (p := ⟨b, off, none⟩) (World.block_lt_of_cell? wr _ c2.out)).trans c2.out, p2.out.below hb⟩))
            go_wp2_with fail
            go_region_held3 (fun wx => wx.cell? ⟨w.heap.size, 0, none⟩ = some (.slice (some ⟨b, off, none⟩) m cap) ∧ Below wr.heap.size wr wx)
              (first | exact KEEP.out _ (Below.refl _ _).drew | exact KEEP.out _ (by assumption))
              (first | (go_at_call 49; refine (E1.out _ (by assumption)).mono ?_; rintro e wq ⟨rfl, rfl⟩) | (go_at_call 50; refine (degreeOfWord_is (p1.out.below (by assumption))).mono ?_; rintro e wq ⟨rfl, rfl⟩) | (go_at_call 29; refine (E3.out _ (by assumption)).mono ?_; rintro e w9 ⟨rfl, b9⟩; have z9 := z0.step1 b9))
            all_goals
              have H9 := Lib.hid (hw.out.step1 z9)
              go_wp2_with fail
              go_roundw
              case rel => exact ⟨k + 1, by omega, by go_num, H9⟩
              case measure => simp [intOf]; omega
          · obtain rfl : k = z := by omega
            obtain ⟨_, hbad, rfl⟩ := HE.out.resolve_left (fun h => by omega)
            have hx : (sumL (X k) != sumL (X 0)) = true := by
              rw [bne_iff_ne]
              exact fun e => hbad ⟨hwd, e⟩
            generalize sumL (X 0) = x at p2 hx
            generalize sumL (X k) = y at p1 hx
            clear R1 R2 hwd hw0 hbad
            have E3 : Hid (∀ wx, Below wr.heap.size wr wx → Calls Try.prog 29 #[.agg #[.slice (some ⟨b, off, none⟩) m cap]] wx fun e w' => e = .returned (.int .i64 x) ∧ Below wx.heap.size wx w') :=
              Lib.hid (fun wx hb => degree_any _ m cap x wx (fun h => by omega) (fun _ => ⟨b, off, v2, rfl, (hb.cell (p := ⟨b, off, none⟩) (World.block_lt_of_cell? wr _ c2.out)).trans c2.out, p2.out.below hb⟩))
            go_wp2_with fail
            go_region_held3 (fun wx => wx.cell? ⟨w.heap.size, 0, none⟩ = some (.slice (some ⟨b, off, none⟩) m cap) ∧ Below wr.heap.size wr wx)
              (first | exact KEEP.out _ (Below.refl _ _).drew | exact KEEP.out _ (by assumption))
              (first | (go_at_call 49; refine (E1.out _ (by assumption)).mono ?_; rintro e wq ⟨rfl, rfl⟩) | (go_at_call 50; refine (degreeOfWord_is (p1.out.below (by assumption))).mono ?_; rintro e wq ⟨rfl, rfl⟩) | (go_at_call 29; refine (E3.out _ (by assumption)).mono ?_; rintro e w9 ⟨rfl, b9⟩; have z9 := z0.step1 b9))
            all_goals
              have H9 := Lib.hid (B0.out.trans ((hw.out.step1 z9).mono B0.out.size))
              go_wp2_with fail
              go_ret
              exact ⟨rfl, H9.out⟩
        · obtain rfl : k = z := by
            apply Decidable.byContradiction
            intro e
            exact hwd (HO.out k (by omega)).1
          obtain ⟨_, _, rfl⟩ := HE.out.resolve_left (fun h => by omega)
          have E1 : Hid (∀ n, Calls Try.prog 49 #[v1] (wr.drewN n) fun e w' => e = .returned (.bool false) ∧ ∃ p, w' = (wr.drewN n).drewN p) :=
            Lib.hid (fun n => (isWord_no v1 _ _ _ (R1.out.drewN n) hwd).mono fun e w' ⟨he, hw⟩ => ⟨he, 0, hw.symm⟩)
          have H9 := Lib.hid (B0.out.trans (hw.out.mono B0.out.size))
          clear R1 R2 hwd KEEP z0
          go_wp2_with fail
          go_quiet ((go_at_call 49; exact Calls.quiet_of (E1.out _)))
          go_wp2_with fail
          go_ret
          exact ⟨rfl, below_drewN H9.out _⟩
      · obtain rfl : k = m := by omega
        obtain rfl : r = true := by
          rcases HE.out with ⟨_, h⟩ | ⟨h, _⟩
          · exact h
          · omega
        have H9 := Lib.hid (B0.out.trans (hw.out.mono B0.out.size))
        go_wp2_with fail
        go_ret
        exact ⟨rfl, H9.out⟩

theorem isW_short {xs : List Int} (h : isW xs) : xs.length ≤ 20 := h.1

/-- Both answer the same: whether it is a sum of squares. -/
theorem isS_yes (X : Nat → List Int) (m : Nat) (hok : okSq X m) :
    (∀ V w, RdSS w V m X → Calls Try.prog 23 #[.agg #[V]] w (SaysB true w)) ∧
    (∀ V w, RdSS w V m X → Calls Try.prog 28 #[.agg #[V]] w (SaysB true w)) :=
  ⟨fun V w h => l03Is_go V m m true X w h hok.1.1 hok.1.2.2 (Nat.le_refl _) hok.2 (.inl ⟨rfl, rfl⟩),
    fun V w h => implIsS_go V m m true X w h hok.1 (Nat.le_refl _) hok.2 (.inl ⟨rfl, rfl⟩)⟩
theorem isS_no (X : Nat → List Int) (m : Nat) (hok : ¬ okSq X m) :
    (∀ V w, RdSS w V m X → Calls Try.prog 23 #[.agg #[V]] w (SaysB false w)) ∧
    (∀ V w, RdSS w V m X → Calls Try.prog 28 #[.agg #[V]] w (SaysB false w)) := by
  refine ⟨fun V w h => ?_, fun V w h => ?_⟩
  · by_cases hm : m ≤ 2000
    · by_cases hasc : ∀ i, i < m → stepOk X i
      · by_cases hs : ∀ i, i < m → stepS X i
        · exact absurd ⟨⟨hm, fun i hi => isW_short (hs i hi).1, hasc⟩, hs⟩ hok
        · obtain ⟨z, hz, hbad, hgood⟩ := first_bad0 (stepS X) m hs
          exact l03Is_go V m z false X w h hm hasc (by omega) hgood (.inr ⟨hz, hbad, rfl⟩)
      · exact l03Is_wild V m X w h hm hasc
    · exact l03Is_long V m X w h (by omega)
  · by_cases ht : okTerms X m
    · obtain ⟨z, hz, hbad, hgood⟩ := first_bad0 (stepS X) m (fun hs => hok ⟨ht, hs⟩)
      exact implIsS_go V m z false X w h ht (by omega) hgood (.inr ⟨hz, hbad, rfl⟩)
    · exact implIsS_wild V m X w h ht
theorem isS_both (X : Nat → List Int) (m : Nat) : ∃ r : Bool,
    (∀ V w, RdSS w V m X → Calls Try.prog 23 #[.agg #[V]] w (SaysB r w)) ∧
    (∀ V w, RdSS w V m X → Calls Try.prog 28 #[.agg #[V]] w (SaysB r w)) := by
  by_cases hok : okSq X m
  · exact ⟨true, isS_yes X m hok⟩
  · exact ⟨false, isS_no X m hok⟩
end Go.Proofs.Ytldlpeohdindaaa
end
section
namespace Go.Proofs.Ytldlpeohdindaaa
open Go.RowKit
set_option linter.unusedVariables false
set_option maxRecDepth 100000

/-- The two arguments in their boxes. -/
structure Sq2 (w0 : World) (V0 V1 : Value) (w : World) : Prop where
  bel : Below w0.heap.size w0 w
  boxA : Box1 w w0.heap.size 30 V0
  boxB : Box1 w (w0.heap.size + 1) 30 V1
/-- A struct that the law holds: its box and the family. -/
structure OwnF (w0 : World) (g : Nat) (V : Value) (m : Nat) (VS : Nat → Value) (X : Nat → List Int) (w : World) : Prop where
  fam : Fam w w0.heap.size V m VS X
  sep : Sep m VS
  box : Box1 w g 24 V
  ge : w0.heap.size ≤ g

section
variable {w0 w w' : World} {V0 V1 V : Value} {g m : Nat} {VS : Nat → Value} {X : Nat → List Int}
theorem Sq2.start (w : World) (V0 V1 : Value) : Sq2 w V0 V1 ((w.alloc (.cells #[V0] 30)).alloc (.cells #[V1] 30)) := by
  refine ⟨((Below.refl w.heap.size w).alloc (Nat.le_refl _) _).alloc (by simp) _, (Box1.new w _ _).alloc _, ?_⟩
  have := Box1.new (w.alloc (.cells #[V0] 30)) 30 V1
  simpa using this
theorem Sq2.up (h : Sq2 w0 V0 V1 w) (k : Below w.heap.size w w') : Sq2 w0 V0 V1 w' := ⟨h.bel.step1 k, h.boxA.up k, h.boxB.up k⟩
theorem Sq2.alloc (h : Sq2 w0 V0 V1 w) (o : Obj) : Sq2 w0 V0 V1 (w.alloc o) := h.up ((Below.refl _ _).alloc (Nat.le_refl _) _)
theorem OwnF.up (h : OwnF w0 g V m VS X w) (k : Below w.heap.size w w') : OwnF w0 g V m VS X w' := ⟨h.fam.below k, h.sep, h.box.up k, h.ge⟩
theorem OwnF.alloc (h : OwnF w0 g V m VS X w) (o : Obj) : OwnF w0 g V m VS X (w.alloc o) := h.up ((Below.refl _ _).alloc (Nat.le_refl _) _)
theorem OwnF.start (hw : w0.heap.size ≤ w.heap.size) (h : Fam w w0.heap.size V m VS X) (hs : Sep m VS) : OwnF w0 w.heap.size V m VS X (w.alloc (.cells #[V] 24)) :=
  ⟨h.below ((Below.refl _ _).alloc (Nat.le_refl _) _), hs, Box1.new _ _ _, hw⟩
theorem OwnF.stored {x : Value} (h : Box1 w g 24 x) (o : Fam w w0.heap.size V m VS X) (hs : Sep m VS) (hg : w0.heap.size ≤ g) : OwnF w0 g V m VS X (w.setCell ⟨g, 0, none⟩ V) :=
  ⟨⟨own_sameblock o.out fun q hq => heap_setCell_other _ _ _ _ (h.ne_own o.out (by decide) q hq), fun i hi => own_sameblock (o.inn i hi) fun q hq => heap_setCell_other _ _ _ _ (h.ne_own (o.inn i hi) (by decide) q hq)⟩, hs, h.set V, hg⟩
theorem OwnF.rest {g' n : Nat} {V' : Value} {VB : Nat → Value} {Y : Nat → List Int} (h : OwnF w0 g V m VS X w) (k : OwnF w0 g' V' n VB Y w) (r : MRestK n VB w w') (ap : FApart m VS n VB) : OwnF w0 g V m VS X w' :=
  ⟨h.fam.rest k.fam r ap, h.sep, h.box.restK (B' := 0) (by decide) k.fam r, h.ge⟩
theorem Sq2.rest {g' n : Nat} {V' : Value} {VB : Nat → Value} {Y : Nat → List Int} (h : Sq2 w0 V0 V1 w) (k : OwnF w0 g' V' n VB Y w) (r : MRestK n VB w w') (b : Below w0.heap.size w w') : Sq2 w0 V0 V1 w' :=
  ⟨h.bel.trans b, h.boxA.restK (B' := 0) (by decide) k.fam r, h.boxB.restK (B' := 0) (by decide) k.fam r⟩

/-- What is kept of a struct that a region made: the block of its box, its lists, its code. -/
def MadeS (w0 wS : World) (cd : Int) (L : List (List Int)) (s6 s7 : Value) (wx : World) : Prop :=
  ∃ (g : Nat) (va : Option Addr) (vc : Nat) (VS : Nat → Value), s6 = .pointer (some ⟨g, 0, none⟩) ∧ s7 = .int .i64 cd ∧ Hid (OwnF w0 g (.slice va L.length vc) L.length VS (rowsOf L) wx) ∧ Hid (Below wS.heap.size wS wx)
end
end Go.Proofs.Ytldlpeohdindaaa
end
section
namespace Go.Proofs.Ytldlpeohdindaaa
open Go.RowKit Go.Maps
set_option linter.unusedVariables false
set_option maxRecDepth 100000

theorem packK_lit (x : List Int) (h : fits x) : ∃ y0 y1 y2 y3 y4 y5 y6 y7 : Int, packK x = #[.int .u8 y0, .int .u8 y1, .int .u8 y2, .int .u8 y3, .int .u8 y4, .int .u8 y5, .int .u8 y6, .int .u8 y7] := by
  have hs := (packK_ok x h).size
  obtain ⟨f, hf⟩ : ∃ f : Nat → Int, f = fun j => if j < x.length then x[j]?.getD 0 + 1 else 0 := ⟨_, rfl⟩
  refine ⟨f 0, f 1, f 2, f 3, f 4, f 5, f 6, f 7, Array.ext_getElem? fun i => ?_⟩
  by_cases hi : i < 8
  · have hc : (packK x)[i]? = some (.int .u8 (f i)) := by rw [packK_cell x i hi h.1, hf]
    rw [hc]
    clear hc hf
    rcases i with _ | _ | _ | _ | _ | _ | _ | _ | i
    all_goals first | rfl | omega
  · rw [Array.getElem?_eq_none (by omega), Array.getElem?_eq_none (by simp; omega)]

/-- All below wS's end stays, but for one box. -/
structure KpX (wS : World) (q : Nat) (W : World) : Prop where
  os : W.os = wS.os
  tape : W.tape = wS.tape
  output : W.output = wS.output
  size : wS.heap.size ≤ W.heap.size
  block : ∀ b, b < wS.heap.size → b ≠ q → W.heap[b]? = wS.heap[b]?
theorem KpX.refl (wS : World) (q : Nat) : KpX wS q wS := ⟨rfl, rfl, rfl, Nat.le_refl _, fun _ _ _ => rfl⟩
theorem KpX.below {wS W W' : World} {q B : Nat} (h : KpX wS q W) (k : Below B W W') (hB : wS.heap.size ≤ B) : KpX wS q W' :=
  ⟨k.os.trans h.os, k.tape.trans h.tape, k.output.trans h.output, Nat.le_trans h.size k.size, fun b hb hn => (k.block b (by omega)).trans (h.block b hb hn)⟩
theorem KpX.off {wS W W' : World} {q : Nat} (h : KpX wS q W) (k : OneOff q W W') : KpX wS q W' :=
  ⟨k.os.trans h.os, k.tape.trans h.tape, k.output.trans h.output, by rw [k.size]; exact h.size, fun b hb hn => (k.block b hn).trans (h.block b hb hn)⟩

/-- The words listed so far; their box. -/
structure OutS (wS : World) (BT : Nat) (V : Value) (VS : Nat → Value) (L : List (List Int)) (W : World) : Prop where
  fam : FamL W wS.heap.size V VS L
  sep : Sep L.length VS
  box : Box1 W BT 24 V
  kp : KpX wS BT W
theorem FamL.off {W W' : World} {B q : Nat} {V : Value} {VS : Nat → Value} {L : List (List Int)} (h : FamL W B V VS L) (k : OneOff q W W') (h1 : V.ownBlock ≠ some q) (h2 : ∀ i, i < L.length → (VS i).ownBlock ≠ some q) : FamL W' B V VS L :=
  ⟨own_sameblock h.out fun g hg => k.block g (fun e => h1 (e ▸ hg)), fun i hi => own_sameblock (h.inn i hi) fun g hg => k.block g (fun e => h2 i hi (e ▸ hg))⟩
theorem FamL.off_obj {W W' : World} {B q : Nat} {V : Value} {VS : Nat → Value} {L : List (List Int)} {o : Obj} (h : FamL W B V VS L) (k : OneOff q W W') (hq : W.heap[q]? = some o) (ho : o.isCells = false) : FamL W' B V VS L :=
  h.off k (own_ne_obj h.out hq ho) fun i hi => own_ne_obj (h.inn i hi) hq ho
theorem FamL.off_box {W W' : World} {B q : Nat} {V x : Value} {VS : Nat → Value} {L : List (List Int)} (h : FamL W B V VS L) (k : OneOff q W W') (hq : Box1 W q 24 x) : FamL W' B V VS L :=
  h.off k (own_ne_cells h.out hq (by decide)) fun i hi => own_ne_cells (h.inn i hi) hq (by decide)
section
variable {wS W W' : World} {BT : Nat} {V : Value} {VS : Nat → Value} {L : List (List Int)}
theorem OutS.up (h : OutS wS BT V VS L W) (k : Below W.heap.size W W') : OutS wS BT V VS L W' := ⟨h.fam.below k, h.sep, h.box.up k, h.kp.below k h.kp.size⟩
/-- Behind an append: the list's new row, before it is stored. -/
theorem OutS.put {w1 w3 : World} {n : Nat} {v V3 : Value} {x : List Int} (h : OutS wS BT V VS L W) (hv : w1.ownsRow W.heap.size 2 1 v n (x.map (Value.int .i64))) (hn : n = x.length) (hb : Below W.heap.size W w1) (o : Obj)
    (hV3 : w3.ownsRow wS.heap.size 46 1 V3 (L.length + 1) ((List.range L.length).map VS ++ [v])) (hg : (w1.alloc o).grownBy w3 V.ownBlock) :
    Box1 w3 BT 24 V ∧ OutS wS BT V3 (ext VS L.length v) (L ++ [x]) (w3.setCell ⟨BT, 0, none⟩ V3) := by
  obtain ⟨f, s, b⟩ := fam_put h.fam h.sep h.kp.size hv hn hb o hV3 hg
  have b1 : Box1 (w1.alloc o) BT 24 V := (h.box.up hb).alloc o
  have ow : (w1.alloc o).ownsRow wS.heap.size 46 1 V L.length ((List.range L.length).map VS) := own_below h.fam.out (hb.alloc hb.size o)
  have b3 : Box1 w3 BT 24 V := (hg.block BT b1.lt fun e => own_ne_cells ow b1 (by decide) e.symm).trans b1
  have o8 := OneOff.set w3 BT V3
  exact ⟨b3, f.off_box o8 b3, s, b3.set V3, (h.kp.below b (Nat.le_refl _)).off o8⟩
end

/-- The reducer stays where a box of another kind is written. -/
theorem RInv.offbox {R K gk gp q : Nat} {X : Nat → Prop} {W W' : World} {a : Option Addr} {n c : Nat} (h : RInv R K gk gp X W) (k : OneOff q W W') (hq : Box1 W q 24 (.slice a n c)) : RInv R K gk gp X W' := by
  obtain ⟨D1, n1, o1, e1⟩ := h.known
  obtain ⟨D2, n2, o2, e2⟩ := h.prods
  have up : ∀ {H : Type} {k0 : TypeId} {R0 : Value → Option (DataW H × List MemPlace)} {b n : Nat} {D : DataW H}, W.ownsMap Try.prog k0 R0 b n D → W'.ownsMap Try.prog k0 R0 b n D := fun o => by
    have hne := (isMapB_of o).ne_cells hq
    obtain ⟨es, clock, he, rest⟩ := o
    exact ⟨es, clock, (k.block _ (fun e => hne e.symm)).trans he, rest⟩
  have st : ∀ v, StV X W v → StV X W' v := fun v hv => hv.ext (by rw [k.size]; exact Nat.le_refl _) fun g hg => .inl hg
  have ne : ∀ {r : Nat} {cs : Array Value} {t : TypeId}, W.heap[r]? = some (.cells cs t (0, 0)) → t ≠ 24 → r ≠ q := fun hr ht e => by
    unfold Box1 at hq
    rw [e, hq] at hr
    simp only [Option.some.injEq, Obj.cells.injEq] at hr
    exact ht hr.2.1.symm
  refine ⟨(k.block R (ne h.obj (by decide))).trans h.obj, (k.block K (ne h.box (by decide))).trans h.box, ⟨D1, n1, up o1, e1.mono fun l v hp => ?_⟩, ⟨D2, n2, up o2, e2.mono fun l v hp => ?_⟩, h.ne, h.nx⟩
  · obtain ⟨⟨x, y, h1, h2, h3⟩, h4⟩ := hp
    refine ⟨⟨x, y, h1, h2, ?_⟩, st v h4⟩
    obtain ⟨a', cap, e, hm, hc⟩ := h3
    refine ⟨a', cap, e, hm, ?_⟩
    rcases hc with h0 | ⟨b, off, e, hc⟩
    · exact .inl h0
    · refine .inr ⟨b, off, e, fun i hi => ?_⟩
      have h5 := hc i hi
      refine (World.cell?_of_block (w := W) (a := ⟨b, off + i, none⟩) (k.block b ?_)).trans h5
      rintro rfl
      unfold Box1 at hq
      simp only [World.cell?, hq] at h5
      cases hoi : off + i with
      | zero => rw [hoi] at h5; simp at h5
      | succ z => rw [hoi] at h5; simp at h5
  · obtain ⟨⟨x, y, h1, h2, L, h3, h5, h6⟩, h4⟩ := hp
    exact ⟨⟨x, y, h1, h2, L, h3, h5, h6.off (res_ok h1 h5) k (.inr ⟨_, _, _, hq⟩)⟩, st v h4⟩
end Go.Proofs.Ytldlpeohdindaaa
end
