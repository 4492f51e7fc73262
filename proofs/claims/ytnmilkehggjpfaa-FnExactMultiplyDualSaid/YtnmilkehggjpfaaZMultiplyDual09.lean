/-
  Joined: EMulI, EMulB, ELaw2.
-/
import Derived.Test.YtnmilkehggjpfaaZMultiplyDual08
import Derived.Test.YtnmilkehggjpfaaZBMil37
import Derived.Test.YtnmilkehggjpfaaZMultiplyDual07
import Derived.Deep.DeepCutAuto
import Derived.Deep.RegionWith
import Derived.Deep.RegionHeld3
import Derived.BigRegion
section
namespace Go.Proofs.Ytnmilkehggjpfaa.Dl
open Go.RowKit Go.Maps Go.Proofs.Ytnmilkehggjpfaa.Ml
set_option linter.unusedVariables false
set_option maxRecDepth 100000

theorem implMulD_bad (aa ab : Option Addr) (m n capa capb : Nat) (w : World) (c : Int) (hc : (c != 0) = true) (A : Hid (∀ wx, Below w.heap.size w wx → Calls Try.prog 70 #[.agg #[.slice aa m capa], .agg #[.slice ab n capb]] wx (SaysI c wx))) :
    Calls Try.prog 31 #[.agg #[.slice aa m capa], .agg #[.slice ab n capb]] w (ResS [] c w) := by
  have t2 := Try.underlying27
  have t3 := Try.underlying45
  obtain ⟨w1, hw1⟩ : ∃ w1, w1 = (((w.alloc (.cells #[.slice aa m capa] 27)).alloc (.cells #[.slice ab n capb] 27)).alloc (.cells #[.slice none 0 0] 27)) := ⟨_, rfl⟩
  have T1 : Hid (Tri w (.slice aa m capa) (.slice ab n capb) w1) := Lib.hid (by rw [hw1]; exact Tri.start _ _ _)
  go_enter Try.func31, Try.ntmps31
  go_upto_region 1 with fail
  rw [← hw1]
  clear hw1
  have d0 := T1.out.bA.c
  have d1 := T1.out.bB.c
  go_wp2_with fail
  refine (A.out w1 T1.out.bel).mono ?_
  rintro e w2 ⟨rfl, b2⟩
  have T2 := Lib.hid (T1.out.up b2)
  clear b2 T1 d0 d1
  have dR := T2.out.bR.c
  have fR := T2.out.bR.fr 0
  go_wp2_with fail
  have FIN := finD (w := w) (famNil _ (w.heap.size + 1 + 1 + 1)) T2.out.bel (by omega) (by omega) T2.out.bR
  refine bodyPost_ret (results_box1_tmp rfl _ _ (w.heap.size + 1 + 1) _ _ rfl FIN.1 t2 (by kernel_rfl)) rfl ?_
  exact ⟨_, _, rfl, FIN.2.1, sepNil, FIN.2.2⟩

/-- The monomials of a sum of products. -/
structure Nice (A B ts : List (List Int)) : Prop where
  ok : ∀ x ∈ ts, Ok5 2000000 x
  few : ts.length ≤ 100000
  nd : ts.Nodup
  mem : ∀ x, x ∈ ts ↔ par (prodK A B) x
def PRes (A B : List (List Int)) (w : World) (e : Ending) (w' : World) : Prop := ∃ u ts, e = .returned u ∧ OwnM w' w.heap.size u (ts.map monK) ∧ Below w.heap.size w w' ∧ Nice A B ts
theorem rdM_own {w : World} {B : Nat} {v : Value} {zs : List (List Int)} (h : OwnM w B v (zs.map monK)) (hz : ∀ z ∈ zs, z.length = 5) : RdM w v (zs.map monK) :=
  rdK_of_own h fun k hk => by
    obtain ⟨z, hz2, rfl⟩ := List.mem_map.1 hk
    rw [monK_size, hz z hz2]
theorem prodP_any (va vb : Value) (xs ys : List (List Int)) (w : World) (B1 B2 : Nat) (ha : OwnM w B1 va (xs.map monK)) (hb : OwnM w B2 vb (ys.map monK)) (hx : ∀ x ∈ xs, Ok5 1000000 x) (hy : ∀ y ∈ ys, Ok5 1000000 y) (hl : xs.length ≤ 100) (hl2 : ys.length ≤ 100) :
    Calls Try.prog 72 #[va, vb] w (PRes xs ys w) := by
  refine (productOfSums_any va vb xs ys w (rdM_own ha fun z hz => (hx z hz).1) (rdM_own hb fun z hz => (hy z hz).1) hx hy (by omega) (by omega)).mono ?_
  rintro e w' ⟨u, rs, rfl, ho, hb, hn, hm⟩
  have OKP : ∀ z ∈ prodK xs ys, Ok5 2000000 z := fun z hz => by
    obtain ⟨x, hx2, hz⟩ := List.mem_flatMap.1 hz
    obtain ⟨y, hy2, rfl⟩ := List.mem_map.1 hz
    exact (hx x hx2).add (by omega) (by omega) (hy y hy2)
  obtain ⟨ts, rfl, nt, ok, lt, mt⟩ := mon_keys OKP rs hn hm
  have hp := prodK_len xs ys
  have : xs.length * ys.length ≤ 100 * 100 := Nat.mul_le_mul hl hl2
  exact ⟨u, ts, rfl, ho, hb, ⟨ok, by omega, nt, mt⟩⟩
theorem dualP_any (v : Value) (A B ts : List (List Int)) (w : World) (B1 : Nat) (h : OwnM w B1 v (ts.map monK)) (hN : Nice (A.map padL) (B.map padL) ts) :
    Calls Try.prog 71 #[v] w (ResT (oddL (joins A B)) w) := by
  refine (dualOf_any v ts w (rdM_own h fun z hz => (hN.ok z hz).1) hN.ok hN.few).mono ?_
  rintro e w' ⟨V, VS, L, rfl, f, s, b, ha, hm⟩
  obtain rfl : L = oddL (joins A B) := oddL_eq ha fun z => by
    rw [hm, ← joins_par]
    refine exists_congr fun k => and_congr_left fun _ => ?_
    rw [par_nodup _ hN.nd, hN.mem]
  exact ⟨V, VS, rfl, f, s, b⟩

/-- The end: the result's struct is written. -/
theorem finM {w w5 : World} {g : Nat} {va vb V : Value} {VS : Nat → Value} {L : List (List Int)} (T : Tri w va vb w5) (hF : FamL w5 g V VS L) (h1 : w.heap.size + 1 + 1 < g) :
    Box1 (w5.setCell ⟨w.heap.size + 1 + 1, 0, none⟩ V) (w.heap.size + 1 + 1) 27 V ∧ FamL (w5.setCell ⟨w.heap.size + 1 + 1, 0, none⟩ V) w.heap.size V VS L ∧ Below w.heap.size w (w5.setCell ⟨w.heap.size + 1 + 1, 0, none⟩ V) :=
  finD hF T.bel (by omega) h1 T.bR

set_option maxHeartbeats 4000000 in
theorem implMulD_ok (aa ab : Option Addr) (m n capa capb : Nat) (w : World) (X Y : Nat → List Int) (ha : RdSS w (.slice aa m capa) m X) (hb : RdSS w (.slice ab n capb) n Y) (hX : ∀ i, i < m → goodE (X i)) (hY : ∀ i, i < n → goodE (Y i)) (hm : m ≤ 100) (hn : n ≤ 100)
    (A : Hid (∀ wx, Below w.heap.size w wx → Calls Try.prog 70 #[.agg #[.slice aa m capa], .agg #[.slice ab n capb]] wx (SaysI 0 wx))) :
    Calls Try.prog 31 #[.agg #[.slice aa m capa], .agg #[.slice ab n capb]] w (ResS (oddL (joins (rowsL X m) (rowsL Y n))) 0 w) := by
  have t2 := Try.underlying27
  have t3 := Try.underlying45
  obtain ⟨w1, hw1⟩ : ∃ w1, w1 = (((w.alloc (.cells #[.slice aa m capa] 27)).alloc (.cells #[.slice ab n capb] 27)).alloc (.cells #[.slice none 0 0] 27)) := ⟨_, rfl⟩
  have T1 : Hid (Tri w (.slice aa m capa) (.slice ab n capb) w1) := Lib.hid (by rw [hw1]; exact Tri.start _ _ _)
  have key : ∀ (X : Nat → List Int) (m : Nat), (rowsL X m).map keyL = ((rowsL X m).map padL).map monK := fun X m => by rw [List.map_map]; rfl
  have okp : ∀ (X : Nat → List Int) (m : Nat), (∀ i, i < m → goodE (X i)) → ∀ x ∈ (rowsL X m).map padL, Ok5 1000000 x := fun X m h x hx => by
    obtain ⟨r, hr, rfl⟩ := List.mem_map.1 hx
    obtain ⟨i, hi, rfl⟩ := mem_rowsL hr
    exact ok5_pad (h i hi)
  have MA : Hid (∀ wx, Below w.heap.size w wx → Calls Try.prog 73 #[.agg #[.slice aa m capa]] wx fun e w' => ∃ u, e = .returned u ∧ OwnM w' wx.heap.size u (((rowsL X m).map padL).map monK) ∧ Below wx.heap.size wx w') := Lib.hid fun wx hx => by
    have := monomials_any _ m X wx (ha.below hx) (by omega) (fun i hi => good_len (hX i hi))
    rw [key] at this
    exact this
  have MB : Hid (∀ wx, Below w.heap.size w wx → Calls Try.prog 73 #[.agg #[.slice ab n capb]] wx fun e w' => ∃ u, e = .returned u ∧ OwnM w' wx.heap.size u (((rowsL Y n).map padL).map monK) ∧ Below wx.heap.size wx w') := Lib.hid fun wx hx => by
    have := monomials_any _ n Y wx (hb.below hx) (by omega) (fun i hi => good_len (hY i hi))
    rw [key] at this
    exact this
  have PR : Hid (∀ wx uA uB B1 B2, OwnM wx B1 uA (((rowsL X m).map padL).map monK) → OwnM wx B2 uB (((rowsL Y n).map padL).map monK) → Calls Try.prog 72 #[uA, uB] wx (PRes ((rowsL X m).map padL) ((rowsL Y n).map padL) wx)) := Lib.hid fun wx uA uB B1 B2 h1 h2 =>
    prodP_any uA uB _ _ wx B1 B2 h1 h2 (okp X m hX) (okp Y n hY) (by rw [List.length_map, rowsL_len]; exact hm) (by rw [List.length_map, rowsL_len]; exact hn)
  have DU : Hid (∀ wx v ts B1, OwnM wx B1 v (ts.map monK) → Nice ((rowsL X m).map padL) ((rowsL Y n).map padL) ts → Calls Try.prog 71 #[v] wx (ResT (oddL (joins (rowsL X m) (rowsL Y n))) wx)) := Lib.hid fun wx v ts B1 h1 h2 => dualP_any v _ _ ts wx B1 h1 h2
  clear ha hb hX hY hm hn key okp
  generalize ((rowsL X m).map padL).map monK = KA at *
  generalize ((rowsL Y n).map padL).map monK = KB at *
  generalize (rowsL X m).map padL = PA at *
  generalize (rowsL Y n).map padL = PB at *
  generalize oddL (joins (rowsL X m) (rowsL Y n)) = L at *
  go_enter Try.func31, Try.ntmps31
  go_upto_region 1 with fail
  rw [← hw1]
  clear hw1
  have d0 := T1.out.bA.c
  have d1 := T1.out.bB.c
  go_wp2_with fail
  refine (A.out w1 T1.out.bel).mono ?_
  rintro e w2 ⟨rfl, b2⟩
  have T2 := Lib.hid (T1.out.up b2)
  clear b2 T1 d0 d1
  have d0 := T2.out.bA.c
  have d1 := T2.out.bB.c
  have TD : Hid (Tri w (.slice aa m capa) (.slice ab n capb) w2.drew) := Lib.hid (T2.out.up (Below.refl _ _).drew)
  go_wp2_with fail
  go_region_law (first
    | (go_simp; go_at_call_of 73 (Value.agg #[Value.slice aa m capa]); refine (MA.out _ TD.out.bel).mono ?_; rintro e wA ⟨uA, rfl, oA, bA⟩; have TA := Lib.hid (TD.out.up bA); have dA := TA.out.bB.c)
    | (go_simp; go_at_call_of 73 (Value.agg #[Value.slice ab n capb]); refine (MB.out _ TA.out.bel).mono ?_; rintro e wB ⟨uB, rfl, oB, bB⟩; have TB := Lib.hid (TA.out.up bB); have oA2 := own_below oA bB)
    | (go_simp; go_at_call 72; refine (PR.out wB uA uB _ _ oA2 oB).mono ?_; rintro e wC ⟨uC, ts, rfl, oC, bC, nC⟩; have TC := Lib.hid (TB.out.up bC))
    | (go_simp; go_at_call 71; refine (DU.out wC uC ts _ oC nC).mono ?_; rintro e wE ⟨VE, UE, rfl, fE, sE, bE⟩; obtain ⟨av, cv, rfl, _, _⟩ := Fam.head fE; have TE := Lib.hid (TC.out.up bE); have dR := TE.out.bR.c; have fR := TE.out.bR.fr 0; have FIN := Lib.hid (finM TE.out fE TC.out.size)))
  all_goals
    clear dA oA bA oB bB oA2 oC bC nC fE bE
    go_wp2_with fail
    refine bodyPost_ret (results_box1_tmp rfl _ _ (w.heap.size + 1 + 1) _ _ rfl FIN.out.1 t2 (by kernel_rfl)) rfl ?_
    exact ⟨_, _, rfl, FIN.out.2.1, sE, FIN.out.2.2⟩
end Go.Proofs.Ytnmilkehggjpfaa.Dl
end
section
namespace Go.Proofs.Ytnmilkehggjpfaa.Dl
open Go.RowKit Go.Proofs.Ytnmilkehggjpfaa.Ml
set_option linter.unusedVariables false
set_option maxRecDepth 100000

theorem joins_good {X Y : Nat → List Int} {m n : Nat} (hA : okMl X m) (hB : okMl Y n) (hm : 0 < m) (hn : 0 < n) (hd : dgL (X 0) + dgL (Y 0) ≤ 40) : ∀ x ∈ oddL (joins (rowsL X m) (rowsL Y n)), goodE x ∧ dgL x = dgL (X 0) + dgL (Y 0) := fun x hx => by
  obtain ⟨r, hr, hx⟩ := List.mem_flatMap.1 (oddL_memD hx)
  obtain ⟨s, hs, rfl⟩ := List.mem_map.1 hx
  obtain ⟨i, hi, rfl⟩ := mem_rowsL hr
  obtain ⟨j, hj, rfl⟩ := mem_rowsL hs
  have h1 := hA.2 i hi
  have h2 := hB.2 j hj
  have := joinL_good h1.1 h2.1 (by rw [h1.2, h2.2]; exact hd)
  rw [h1.2, h2.2] at this
  exact this
theorem joins_nil_r (A : List (List Int)) : joins A [] = [] := by induction A with
  | nil => rfl
  | cons x xs ih => simp [joins]

theorem MultiplyDual_both (m n : Nat) (X Y : Nat → List Int) :
    ∃ (L : List (List Int)) (cd : Int), L.length ≤ 4000 ∧ (∀ i, (rowsOf L i).length ≤ 20) ∧
      (∀ va vb VA VB Ba Bb w, Fam w Ba va m VA X → Fam w Bb vb n VB Y → Calls Try.prog 30 #[.agg #[va], .agg #[vb]] w (ResS L cd w)) ∧
      (∀ va vb w, RdSS w va m X → RdSS w vb n Y → Calls Try.prog 31 #[.agg #[va], .agg #[vb]] w (ResS L cd w)) := by
  have hnil : ∀ i, (rowsOf [] i).length ≤ 20 := fun i => Nat.zero_le _
  by_cases hA : okMl X m
  · by_cases hB : okMl Y n
    · have hfew1 := okMl_few hA
      have hfew2 := okMl_few hB
      have S1 : ∀ va w, RdSS w va m X → Hid (∀ wx, Below w.heap.size w wx → Calls Try.prog 51 #[.agg #[va]] wx (SaysB true wx)) := fun va w ha => Lib.hid fun wx hx => (isD_yes X m hA).1 va wx (ha.below hx)
      have S2 : ∀ vb w, RdSS w vb n Y → Hid (∀ wx, Below w.heap.size w wx → Calls Try.prog 51 #[.agg #[vb]] wx (SaysB true wx)) := fun vb w hb => Lib.hid fun wx hx => (isD_yes Y n hB).1 vb wx (hb.below hx)
      have CH : ∀ va vb w, RdSS w va m X → RdSS w vb n Y → Hid (∀ wx, Below w.heap.size w wx → Calls Try.prog 70 #[.agg #[va], .agg #[vb]] wx (SaysI (codeOf X Y m n) wx)) := fun va vb w ha hb => Lib.hid fun wx hx => code_impl X Y m n va vb wx (ha.below hx) (hb.below hx)
      rw [codeOf_ok hA hB] at CH
      by_cases h0 : m = 0 ∨ (0 < m ∧ n = 0)
      · refine ⟨[], 0, Nat.zero_le _, hnil, ?_, ?_⟩
        · intro va vb VA VB Ba Bb w ha hb
          obtain ⟨aa, ca, rfl⟩ := ha.rdss.head
          obtain ⟨ab, cb, rfl⟩ := hb.rdss.head
          exact specMulD_zero aa ab m n ca cb w (S1 _ w ha.rdss) (S2 _ w hb.rdss) h0
        · intro va vb w ha hb
          obtain ⟨aa, ca, rfl⟩ := ha.head
          obtain ⟨ab, cb, rfl⟩ := hb.head
          rw [if_neg (by omega)] at CH
          have e : oddL (joins (rowsL X m) (rowsL Y n)) = [] := by
            rcases h0 with rfl | ⟨_, rfl⟩
            · rfl
            · have : rowsL Y 0 = [] := rfl
              rw [this, joins_nil_r]; rfl
          rw [← e]
          exact implMulD_ok aa ab m n ca cb w X Y ha hb (fun i hi => (hA.2 i hi).1) (fun i hi => (hB.2 i hi).1) (by omega) (by omega) (CH _ _ w ha hb)
      · have hm : 0 < m := by omega
        have hn : 0 < n := by omega
        have gx := (hA.2 0 hm).1
        have gy := (hB.2 0 hn).1
        have bx := (good_part gx 0).2.2
        have bY := (good_part gy 0).2.2
        by_cases h40 : 40 < dgL (X 0) + dgL (Y 0)
        · rw [if_pos ⟨hm, hn, h40⟩] at CH
          refine ⟨[], 3, Nat.zero_le _, hnil, ?_, ?_⟩
          · intro va vb VA VB Ba Bb w ha hb
            obtain ⟨b1, o1, v1, ca, rfl, c1, d1⟩ := headM hA hm ha.rdss
            obtain ⟨b2, o2, v2, cb, rfl, c2, d2⟩ := headM hB hn hb.rdss
            exact specMulD_deg m n ca cb w b1 o1 b2 o2 v1 v2 _ _ c1 c2 d1 d2 ⟨bx, gx.2⟩ ⟨bY, gy.2⟩ hm hn (S1 _ w ha.rdss) (S2 _ w hb.rdss) [] 3 (.inl ⟨h40, rfl, rfl⟩)
          · intro va vb w ha hb
            obtain ⟨aa, ca, rfl⟩ := ha.head
            obtain ⟨ab, cb, rfl⟩ := hb.head
            exact implMulD_bad aa ab m n ca cb w 3 rfl (CH _ _ w ha hb)
        · rw [if_neg (by omega)] at CH
          have G := joins_good hA hB hm hn (by omega)
          have hl := okMl_few (okMl_of (oddL_spec (joins (rowsL X m) (rowsL Y n))).1 _ G)
          refine ⟨oddL (joins (rowsL X m) (rowsL Y n)), 0, by omega, fun i => ?_, ?_, ?_⟩
          · unfold rowsOf
            by_cases hi : i < (oddL (joins (rowsL X m) (rowsL Y n))).length
            · rw [List.getElem?_eq_getElem hi]
              have := good_len (G _ (List.getElem_mem hi)).1
              simp only [Option.getD_some]; omega
            · rw [List.getElem?_eq_none (by omega)]; exact Nat.zero_le _
          · intro va vb VA VB Ba Bb w ha hb
            have ha' := ha.rdss
            have hb' := hb.rdss
            obtain ⟨b1, o1, v1, ca, rfl, c1, d1⟩ := headM hA hm ha'
            obtain ⟨b2, o2, v2, cb, rfl, c2, d2⟩ := headM hB hn hb'
            exact specMulD_deg m n ca cb w b1 o1 b2 o2 v1 v2 _ _ c1 c2 d1 d2 ⟨bx, gx.2⟩ ⟨bY, gy.2⟩ hm hn (S1 _ w ha') (S2 _ w hb') _ 0
              (.inr ⟨h40, rfl, hl, fun wx hx => l06Times_any _ _ m n X Y wx (ha'.below hx) (hb'.below hx) (fun i hi => (hA.2 i hi).1) (fun i hi => (hB.2 i hi).1) (by omega) (by omega)⟩)
          · intro va vb w ha hb
            obtain ⟨aa, ca, rfl⟩ := ha.head
            obtain ⟨ab, cb, rfl⟩ := hb.head
            exact implMulD_ok aa ab m n ca cb w X Y ha hb (fun i hi => (hA.2 i hi).1) (fun i hi => (hB.2 i hi).1) (by omega) (by omega) (CH _ _ w ha hb)
    · refine ⟨[], 1, Nat.zero_le _, hnil, ?_, ?_⟩
      · intro va vb VA VB Ba Bb w ha hb
        obtain ⟨aa, ca, rfl⟩ := ha.rdss.head
        obtain ⟨ab, cb, rfl⟩ := hb.rdss.head
        exact specMulD_bad2 aa ab m n ca cb w (Lib.hid fun wx hx => (isD_yes X m hA).1 _ wx (ha.rdss.below hx)) (Lib.hid fun wx hx => (isD_no Y n hB).1 _ wx (hb.rdss.below hx))
      · intro va vb w ha hb
        obtain ⟨aa, ca, rfl⟩ := ha.head
        obtain ⟨ab, cb, rfl⟩ := hb.head
        exact implMulD_bad aa ab m n ca cb w 1 rfl (Lib.hid fun wx hx => by
          have := code_impl X Y m n _ _ wx (ha.below hx) (hb.below hx)
          rwa [codeOf_bad (fun h => hB h.2)] at this)
  · refine ⟨[], 1, Nat.zero_le _, hnil, ?_, ?_⟩
    · intro va vb VA VB Ba Bb w ha hb
      obtain ⟨aa, ca, rfl⟩ := ha.rdss.head
      obtain ⟨ab, cb, rfl⟩ := hb.rdss.head
      exact specMulD_bad1 aa ab m n ca cb w (Lib.hid fun wx hx => (isD_no X m hA).1 _ wx (ha.rdss.below hx))
    · intro va vb w ha hb
      obtain ⟨aa, ca, rfl⟩ := ha.head
      obtain ⟨ab, cb, rfl⟩ := hb.head
      exact implMulD_bad aa ab m n ca cb w 1 rfl (Lib.hid fun wx hx => by
        have := code_impl X Y m n _ _ wx (ha.below hx) (hb.below hx)
        rwa [codeOf_bad (fun h => hA h.1)] at this)
end Go.Proofs.Ytnmilkehggjpfaa.Dl
end
section
namespace Go.Proofs.Ytnmilkehggjpfaa.Dl
open Go.RowKit
set_option linter.unusedVariables false
set_option maxRecDepth 100000

/-- The two arguments in their boxes. -/
structure Sq2 (w0 : World) (V0 V1 : Value) (w : World) : Prop where
  bel : Below w0.heap.size w0 w
  boxA : Box1 w w0.heap.size 24 V0
  boxB : Box1 w (w0.heap.size + 1) 24 V1
/-- A struct that the law holds: its box and the family. -/
structure OwnF (w0 : World) (g : Nat) (V : Value) (m : Nat) (VS : Nat → Value) (X : Nat → List Int) (w : World) : Prop where
  fam : Fam w w0.heap.size V m VS X
  sep : Sep m VS
  box : Box1 w g 27 V
  ge : w0.heap.size ≤ g

section
variable {w0 w w' : World} {V0 V1 V : Value} {g m : Nat} {VS : Nat → Value} {X : Nat → List Int}
theorem Sq2.start (w : World) (V0 V1 : Value) : Sq2 w V0 V1 ((w.alloc (.cells #[V0] 24)).alloc (.cells #[V1] 24)) := by
  refine ⟨((Below.refl w.heap.size w).alloc (Nat.le_refl _) _).alloc (by simp) _, (Box1.new w _ _).alloc _, ?_⟩
  have := Box1.new (w.alloc (.cells #[V0] 24)) 24 V1
  simpa using this
theorem Sq2.up (h : Sq2 w0 V0 V1 w) (k : Below w.heap.size w w') : Sq2 w0 V0 V1 w' := ⟨h.bel.step1 k, h.boxA.up k, h.boxB.up k⟩
theorem Sq2.alloc (h : Sq2 w0 V0 V1 w) (o : Obj) : Sq2 w0 V0 V1 (w.alloc o) := h.up ((Below.refl _ _).alloc (Nat.le_refl _) _)
theorem OwnF.up (h : OwnF w0 g V m VS X w) (k : Below w.heap.size w w') : OwnF w0 g V m VS X w' := ⟨h.fam.below k, h.sep, h.box.up k, h.ge⟩
theorem OwnF.alloc (h : OwnF w0 g V m VS X w) (o : Obj) : OwnF w0 g V m VS X (w.alloc o) := h.up ((Below.refl _ _).alloc (Nat.le_refl _) _)
theorem OwnF.start (hw : w0.heap.size ≤ w.heap.size) (h : Fam w w0.heap.size V m VS X) (hs : Sep m VS) : OwnF w0 w.heap.size V m VS X (w.alloc (.cells #[V] 27)) :=
  ⟨h.below ((Below.refl _ _).alloc (Nat.le_refl _) _), hs, Box1.new _ _ _, hw⟩
theorem OwnF.stored {x : Value} (h : Box1 w g 27 x) (o : Fam w w0.heap.size V m VS X) (hs : Sep m VS) (hg : w0.heap.size ≤ g) : OwnF w0 g V m VS X (w.setCell ⟨g, 0, none⟩ V) :=
  ⟨⟨own_sameblock o.out fun q hq => heap_setCell_other _ _ _ _ (h.ne_own o.out (by decide) q hq), fun i hi => own_sameblock (o.inn i hi) fun q hq => heap_setCell_other _ _ _ _ (h.ne_own (o.inn i hi) (by decide) q hq)⟩, hs, h.set V, hg⟩
theorem OwnF.rest {g' n : Nat} {V' : Value} {VB : Nat → Value} {Y : Nat → List Int} (h : OwnF w0 g V m VS X w) (k : OwnF w0 g' V' n VB Y w) (r : MRestK n VB w w') (ap : FApart m VS n VB) : OwnF w0 g V m VS X w' :=
  ⟨h.fam.rest k.fam r ap, h.sep, h.box.restK (B' := 0) (by decide) k.fam r, h.ge⟩
theorem Sq2.rest {g' n : Nat} {V' : Value} {VB : Nat → Value} {Y : Nat → List Int} (h : Sq2 w0 V0 V1 w) (k : OwnF w0 g' V' n VB Y w) (r : MRestK n VB w w') (b : Below w0.heap.size w w') : Sq2 w0 V0 V1 w' :=
  ⟨h.bel.trans b, h.boxA.restK (B' := 0) (by decide) k.fam r, h.boxB.restK (B' := 0) (by decide) k.fam r⟩

/-- What is kept of a struct that a region made: the block of its box, its lists, its code. -/
def MadeS (w0 wS : World) (cd : Int) (L : List (List Int)) (s6 s7 : Value) (wx : World) : Prop :=
  ∃ (g : Nat) (va : Option Addr) (vc : Nat) (VS : Nat → Value), s6 = .pointer (some ⟨g, 0, none⟩) ∧ s7 = .int .i64 cd ∧ Hid (OwnF w0 g (.slice va L.length vc) L.length VS (rowsOf L) wx) ∧ Hid (Below wS.heap.size wS wx)
end
end Go.Proofs.Ytnmilkehggjpfaa.Dl
end
