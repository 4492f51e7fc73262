/-
  Joined: PMul.
-/
import Derived.Test.YtnmilkehggjpfaaZBMil26
import Derived.Test.YtnmilkehggjpfaaZBMil28
import Derived.Test.YtnmilkehggjpfaaZBMil33
import Derived.Test.YtnmilkehggjpfaaZBMil34
import Derived.Maps.OwnIn
import Derived.WalkMore
section
namespace Go.Proofs.Ytnmilkehggjpfaa
open Go.RowKit
set_option linter.unusedVariables false
set_option maxRecDepth 100000
attribute [local go_sem] Oper.semAt_some

/-- A body that comes to its end or returns. -/
def retOnlyT (G : Act → World → Prop) : Exit → Act → World → Prop
  | .normal, a, w | .ret, a, w => G a w
  | _, _, _ => False
def TimesRes (X Y : Nat → List Int) (p q : Nat) (w : World) (e : Ending) (w' : World) : Prop :=
  ∃ V VS zs, e = .returned (.agg #[V]) ∧ FamL w' w.heap.size V VS zs ∧ Sep zs.length VS ∧ Below w.heap.size w w' ∧ Asc zs ∧ ∀ x, x ∈ zs ↔ par (call X Y q p) x

def OutM (w : World) (va vb : Value) (X Y : Nat → List Int) (p q : Nat) (av : Act) (W : World) : Prop :=
  ∃ (i : Nat) (DD : List Nat) (S : Value) (VS : Nat → Value) (j7 j9 j17 j18 j19 j20 j21 j22 j23 j24 j25 j26 j27 j28 j29 j40 j41 : Value), av = { tmps := #[.agg #[va], .agg #[vb], .pointer (some ⟨w.heap.size, 0, none⟩), .pointer (some ⟨w.heap.size + 1, 0, none⟩), .pointer (some ⟨w.heap.size + 1 + 1, 0, none⟩), .pointer (some ⟨w.heap.size + 1 + 1 + 1, 0, none⟩), undef, j7, undef, j9, undef, undef, undef, .pointer (some ⟨w.heap.size, 0, none⟩), va, .int .i64 p, .int .i64 i,
    j17, j18, j19, j20, j21, j22, j23, j24, j25, j26, j27, j28, j29, undef, undef, undef, undef, undef, undef, undef, undef, undef, undef, j40, j41, undef, undef, undef], defers := marksOf DD } ∧ i ≤ p ∧ Hid (TmSt w va vb DD S VS (call X Y q i) W)
def InM (w : World) (va vb : Value) (X Y : Nat → List Int) (p q i : Nat) (s7 s17 s18 s19 j41 : Value) (av : Act) (W : World) : Prop :=
  ∃ (k : Nat) (DD : List Nat) (S : Value) (VS : Nat → Value) (j9 j24 j25 j26 j27 j28 j29 j40 : Value), av = { tmps := #[.agg #[va], .agg #[vb], .pointer (some ⟨w.heap.size, 0, none⟩), .pointer (some ⟨w.heap.size + 1, 0, none⟩), .pointer (some ⟨w.heap.size + 1 + 1, 0, none⟩), .pointer (some ⟨w.heap.size + 1 + 1 + 1, 0, none⟩), undef, s7, undef, j9, undef, undef, undef, .pointer (some ⟨w.heap.size, 0, none⟩), va, .int .i64 p, .int .i64 i,
    s17, s18, s19, .pointer (some ⟨w.heap.size + 1, 0, none⟩), vb, .int .i64 q, .int .i64 k, j24, j25, j26, j27, j28, j29, undef, undef, undef, undef, undef, undef, undef, undef, undef, undef, j40, j41, undef, undef, undef], defers := marksOf DD } ∧ k ≤ q ∧ Hid (TmSt w va vb DD S VS (call X Y q i ++ crow Y (X i) k) W)

set_option maxHeartbeats 2000000 in
theorem timesM_any (aa ab : Option Addr) (ca cb p q : Nat) (X Y : Nat → List Int) (w : World) (hra : RdSS w (.slice aa p ca) p X) (hrb : RdSS w (.slice ab q cb) q Y) (hX : okMl X p) (hY : okMl Y q) (hd : 0 < p → 0 < q → dgL (X 0) + dgL (Y 0) ≤ 40) :
    Calls Try.prog 116 #[.agg #[.slice aa p ca], .agg #[.slice ab q cb]] w (TimesRes X Y p q w) := by
  have t2 := Try.underlying45
  have ST0 := TmSt.start w (.slice aa p ca) (.slice ab q cb)
  obtain ⟨w0, hw0⟩ : ∃ w0, w0 = ((((w.alloc (.cells #[.slice aa p ca] 45)).alloc (.cells #[.slice ab q cb] 45)).alloc (.cells #[.slice none 0 0] 45)).alloc (.cells #[.slice none 0 0] 22)) := ⟨_, rfl⟩
  rw [← hw0] at ST0
  have HS0 := Lib.hid ST0
  have c0 := ST0.bA.c
  have hp82 := okMl_few hX
  have hq82 := okMl_few hY
  have HRA := Lib.hid hra
  have HRB := Lib.hid hrb
  have HX := Lib.hid hX
  have HY := Lib.hid hY
  have HD := Lib.hid hd
  clear hra hrb hX hY hd ST0
  refine callsIn_wide (n := 3).1 ?_
  refine callsIn_of_wp_marks Try.func116 rfl trivial ?_ rfl
  simp only [Try.ntmps116, List.size_toArray, List.length_cons, List.length_nil, Nat.reduceAdd, Nat.reduceSub, Array.replicate_succ, Array.replicate_zero, List.push_toArray, List.append_toArray, List.nil_append, List.cons_append]
  rw [wpIn_wide]
  refine wp_mono (Q := retOnlyT fun av W => LeavesInM Fence.wide 3 Try.prog Try.f116 av.tmps (TimesRes X Y p q w) av.defers .returning W) ?_ ?_
  rotate_left
  · intro e av W h
    cases e <;> first | exact h | exact h.elim
  go_wp2_with fail
  rw [← hw0]
  go_wp2_with fail
  refine wp_loop (OutM w (.slice aa p ca) (.slice ab q cb) X Y p q) (fun av _ => p - (intOf (av.tmps.getD 16 undef)).toNat) ?start ?round
  case start =>
    exact ⟨0, [], _, _, undef, undef, undef, undef, undef, undef, undef, undef, undef, undef, undef, undef, undef, undef, undef, undef, undef, rfl, Nat.zero_le _, HS0⟩
  case round =>
  clear hw0 HS0 c0
  rintro av Wq ⟨i, DD, S, VS, j7, j9, j17, j18, j19, j20, j21, j22, j23, j24, j25, j26, j27, j28, j29, j40, j41, rfl, hi, hS⟩
  by_cases hlt : i < p
  · have hlt' : (i : Int) < (p : Int) := by omega
    obtain ⟨_, _, VA, hc, hr⟩ := HRA.out
    obtain ⟨ba, oa, ⟨ca', ea⟩, hc2⟩ := hc.resolve_left (by omega)
    clear hc
    cases ea
    have c1 : Wq.cell? ⟨ba, oa + i, none⟩ = some (VA i) := (hS.out.bel.cell (p := ⟨ba, oa + i, none⟩) (World.block_lt_of_cell? w _ (hc2 i hlt))).trans (hc2 i hlt)
    have R1 := Lib.hid (hr i hlt)
    generalize VA i = vr at c1 R1
    obtain ⟨ar, cr, rfl, _⟩ := R1.out
    have cB := hS.out.bB.c
    have J0 : Hid (TmSt w (.slice (some ⟨ba, oa, none⟩) p ca) (.slice ab q cb) DD S VS (call X Y q i ++ crow Y (X i) 0) Wq) := Lib.hid (by
      have : crow Y (X i) 0 = [] := rfl
      rw [this, List.append_nil]; exact hS.out)
    clear hc2 hr hS
    go_wp2_with fail
    refine wp_loop (InM w (.slice (some ⟨ba, oa, none⟩) p ca) (.slice ab q cb) X Y p q i (.slice ar (X i).length cr) (.bool true) (.pointer (some ⟨ba, oa + i, none⟩)) (.slice ar (X i).length cr) j41) (fun av _ => q - (intOf (av.tmps.getD 23 undef)).toNat) ?start2 ?round2
    case start2 => exact ⟨0, DD, S, VS, j9, j24, j25, j26, j27, j28, j29, j40, rfl, Nat.zero_le _, J0⟩
    case round2 =>
    clear J0 cB c1
    rintro av Wr ⟨k, DD, S, VS, j9, j24, j25, j26, j27, j28, j29, j40, rfl, hk, hS⟩
    by_cases hkq : k < q
    · have hkq' : (k : Int) < (q : Int) := by omega
      obtain ⟨_, _, VB, hc, hr⟩ := HRB.out
      obtain ⟨bb, ob, ⟨cb', eb⟩, hc2⟩ := hc.resolve_left (by omega)
      clear hc
      cases eb
      have c2 : Wr.cell? ⟨bb, ob + k, none⟩ = some (VB k) := (hS.out.bel.cell (p := ⟨bb, ob + k, none⟩) (World.block_lt_of_cell? w _ (hc2 k hkq))).trans (hc2 k hkq)
      have R2 := Lib.hid (hr k hkq)
      generalize VB k = vs at c2 R2
      obtain ⟨as', cs, rfl, _⟩ := R2.out
      have gr : goodE (X i) := (HX.out.2 i hlt).1
      have gs : goodE (Y k) := (HY.out.2 k hkq).1
      have HL := ctab gr gs
      have lr := good_len gr
      have ls := good_len gs
      generalize cTabs (X i) (Y k) = L at HL
      have FEW := Lib.hid (call_few HX.out HY.out HD.out i (k + 1) hlt (by omega))
      have NX : Hid (call X Y q i ++ crow Y (X i) (k + 1) = (call X Y q i ++ crow Y (X i) k) ++ L.filterMap resI) := Lib.hid (by rw [crow_succ, List.append_assoc, HL.res])
      obtain ⟨A0, hA0⟩ : ∃ A0, call X Y q i ++ crow Y (X i) k = A0 := ⟨_, rfl⟩
      obtain ⟨A1, hA1⟩ : ∃ A1, call X Y q i ++ crow Y (X i) (k + 1) = A1 := ⟨_, rfl⟩
      rw [hA0] at hS NX
      rw [hA1] at FEW NX
      have HA1 := Lib.hid hA1
      have HS := Lib.hid hS.out
      have HLL := Lib.hid HL
      have TB := Lib.hid (tablesOf_any ar as' (X i).length (Y k).length cr cs Wr)
      obtain ⟨xr, hxr⟩ : ∃ xr, X i = xr := ⟨_, rfl⟩
      obtain ⟨xs, hxs⟩ : ∃ xs, Y k = xs := ⟨_, rfl⟩
      have HXS := Lib.hid (And.intro hxr hxs)
      rw [hxr] at R1 TB lr ⊢
      rw [hxs] at R2 TB ls c2
      rw [hxr, hxs] at HLL
      clear hc2 hr hS hA0 hA1 HL gr gs hxr hxs
      go_wp2_with fail
      refine TB.out.mono ?_
      rintro e W2 ⟨rfl, hw2⟩
      have HB2 : Hid (Below Wr.heap.size Wr W2) := Lib.hid (by rw [hw2]; exact ((Below.refl _ Wr).alloc (Nat.le_refl _) _).alloc (by simp) _)
      have HZ2 : Hid (W2.heap.size = Wr.heap.size + 2) := Lib.hid (by rw [hw2]; simp)
      have BR : Hid (Box1 W2 Wr.heap.size 65 (.slice ar xr.length cr)) := Lib.hid (by rw [hw2]; exact (Box1.new Wr _ _).alloc _)
      have BS : Hid (Box1 W2 (Wr.heap.size + 1) 65 (.slice as' xs.length cs)) := Lib.hid (by
        rw [hw2]
        have := Box1.new (Wr.alloc (.cells #[.slice ar xr.length cr] 65)) 65 (.slice as' xs.length cs)
        simpa using this)
      clear hw2 TB
      go_wp2_with fail
      have hDD : ∀ D ∈ DD, D < W2.heap.size := fun D hD => by have := (HS.out.low D hD).2; have := HZ2.out; omega
      have h4 : w.heap.size + 4 ≤ W2.heap.size := by have := HS.out.big; have := HZ2.out; omega
      have HDD := Lib.hid hDD
      have H4 := Lib.hid h4
      have S2 := Lib.hid (HS.out.up HB2.out)
      clear hDD h4
      refine wpIn_wide (n := 3).1 (range_tabs (P := Try.prog) (gf := 160) (lb := #[.pointer (some ⟨Wr.heap.size, 0, none⟩), .pointer (some ⟨Wr.heap.size + 1, 0, none⟩)]) rfl (enters_of Try.func160 (by kernel_rfl) rfl) (N := L.length) (enc := encT L)
        (tabs_seq HLL.out lr ls Wr.heap.size (Wr.heap.size + 1) _ _ W2 BR.out BS.out (R1.out.below (HS.out.bel.step1 HB2.out)) (R2.out.below (HS.out.bel.step1 HB2.out))) (fun _ => rfl)
        (fun kk W' => RngI w (.slice (some ⟨ba, oa, none⟩) p ca) (.slice (some ⟨bb, ob, none⟩) q cb) DD W2.heap.size (A0 ++ tabTo L kk) W') ?ip ?i0 ?ib ?io
        (fun kk a' W' => ∃ gT, W2.heap.size + 6 ≤ W'.heap.size ∧ TabAt W' gT (tabOf L kk) ∧ W2.heap.size + 2 ≤ gT ∧ a' = { tmps := #[.agg #[.slice (some ⟨ba, oa, none⟩) p ca], .agg #[.slice (some ⟨bb, ob, none⟩) q cb], .pointer (some ⟨w.heap.size, 0, none⟩), .pointer (some ⟨w.heap.size + 1, 0, none⟩), .pointer (some ⟨w.heap.size + 1 + 1, 0, none⟩), .pointer (some ⟨w.heap.size + 1 + 1 + 1, 0, none⟩), undef, .slice ar xr.length cr, undef, .slice as' xs.length cs, .pointer (some ⟨gT, 0, none⟩), undef, undef, .pointer (some ⟨w.heap.size, 0, none⟩), .slice (some ⟨ba, oa, none⟩) p ca, .int .i64 p, .int .i64 i,
          .bool true, .pointer (some ⟨ba, oa + i, none⟩), .slice ar xr.length cr, .pointer (some ⟨w.heap.size + 1, 0, none⟩), .slice (some ⟨bb, ob, none⟩) q cb, .int .i64 q, .int .i64 k, .bool true, .pointer (some ⟨bb, ob + k, none⟩), .slice as' xs.length cs, .slice ar xr.length cr, .slice as' xs.length cs, .func (.func 160) #[] #[.pointer (some ⟨Wr.heap.size, 0, none⟩), .pointer (some ⟨Wr.heap.size + 1, 0, none⟩)], .agg (tabA (tabOf L kk)), undef, undef, undef, undef, undef, undef, undef, undef, undef, j40, j41, undef, undef, undef], defers := [] }) ?ap ?assign ?body ?done)
      case ip =>
        rintro kk W' o o' hI hq ho
        exact hI.put H4.out HDD.out o' hq ho
      case i0 =>
        intro o o'
        rw [tabTo_zero, List.append_nil]
        exact RngI.start S2.out rfl (((Below.refl _ W2).alloc (Nat.le_refl _) o).alloc (by simp) o')
      case ib => exact fun W W' hI hb => hI.up hb
      case io => exact fun kk W W' hI ho => hI.off H4.out HDD.out ho
      case ap =>
        rintro kk a' W' o o' ⟨gT, h1, h2, h3, h5⟩ hq ho
        refine ⟨gT, by simpa using h1, (World.putObj_heap_other ?_).trans h2, h3, h5⟩
        omega
      case assign =>
        intro l kk W' KK hsz hI hKK
        have bb1 : Below W'.heap.size W' (W'.alloc (.cells (tabA (tabOf L kk)) 147)) := (Below.refl _ W').alloc (Nat.le_refl _) _
        have HKK := Lib.hid (hKK _ _ ⟨W'.heap.size, by simp; omega, tab_alloc W' _, by omega, rfl⟩ (hI.up bb1) (KeepsFrom.below bb1) (KeepT.below _ bb1))
        clear hKK hI bb1
        have h1 : encT L kk = #[.agg (tabA (tabOf L kk))] := rfl
        rw [h1]
        clear h1
        generalize Fence.wide = F
        gi_wp2_with (refine stTI W' W'.heap.size rfl rfl _ _ rfl rfl (tabOf L kk) (fun _ _ => 0) rfl ?_)
        exact HKK.out
      case body =>
        rintro l kk a' W' hkk ⟨gT, h1, h2, h3, rfl⟩ hI
        have TM := term_any gT (tabOf L kk) W' h2 (HLL.out.small kk hkk)
        obtain ⟨S', VS', hT, f4, f5⟩ := hI.ex
        have HT := Lib.hid hT
        have HF4 := Lib.hid f4
        have HF5 := Lib.hid f5
        have HBIG := Lib.hid hI.big
        have HTR := Lib.hid (tabTo_len L kk)
        have H1 := Lib.hid h1
        obtain ⟨sa, sc, rfl, _, _⟩ := hT.fam.head
        have h80 : (Fence.wide.inRound l).fn 137 := trivial
        have e80 : ∀ args w, (callFunc 137 args).run Try.prog w = .ok (.enter 137 args) w := enters_of Try.func137 (by kernel_rfl) rfl
        cases hres : resI (tabOf L kk) with
        | none =>
          rw [hres] at TM
          have C : CallsIn (Fence.wide.inRound l) 0 Try.prog 137 #[.pointer (some ⟨gT, 0, none⟩)] W' _ := (callsIn_wide (n := 0)).2 TM
          have CC := Lib.hid C
          have EQ : Hid (tabTo L (kk + 1) = tabTo L kk) := Lib.hid (tabTo_none hkk hres)
          have HI := Lib.hid hI
          clear TM C hT f4 f5 h1 h2 hI hres
          generalize Fence.wide = F at CC h80 ⊢
          gi_wp2
          refine ⟨h80, CC.out.mono ?_⟩
          rintro e w3 ⟨rfl, hb⟩
          have HB := Lib.hid hb
          clear hb
          gi_wp2
          exact ⟨KeepsFrom.below HB.out, KeepT.below _ HB.out, by rw [EQ.out]; exact HI.out.up HB.out⟩
        | some x =>
          rw [hres] at TM
          have C : CallsIn (Fence.wide.inRound l) 0 Try.prog 137 #[.pointer (some ⟨gT, 0, none⟩)] W' _ := (callsIn_wide (n := 0)).2 TM
          have CC := Lib.hid C
          have EQ : Hid (A0 ++ tabTo L (kk + 1) = (A0 ++ tabTo L kk) ++ [x]) := Lib.hid (by rw [tabTo_some hkk hres, List.append_assoc])
          have LN : Hid ((A0 ++ tabTo L kk).length ≤ 15000) := Lib.hid (by
            have h1 := FEW.out
            have h2 := HTR.out
            rw [NX.out, List.length_append] at h1
            rw [List.length_append]
            omega)
          obtain ⟨i1, hj, hy0, hy1, hy2⟩ := info_parts Try.infoS
          clear TM C hT f4 f5 h1 h2 hI hres
          generalize (A0 ++ tabTo L kk) = B at *
          generalize Fence.wide = F at CC h80 ⊢
          gi_wp2
          refine ⟨h80, CC.out.mono ?_⟩
          rintro e w3 ⟨u, rfl, ho, hb⟩
          obtain ⟨ua, uc, rfl, _⟩ := own_len ho
          have HO := Lib.hid ho
          have HB := Lib.hid hb
          have T3 := Lib.hid (HT.out.up hb)
          have cT := T3.out.bT.c
          have OW := Lib.hid (T3.out.fam.out.alloc (.cells #[.slice ua x.length uc] 65))
          have SR := Lib.hid (one_src (w := w3) (t := 65) (.slice ua x.length uc))
          have ZZ : Hid (w.heap.size + 4 ≤ (w3.alloc (.cells #[.slice ua x.length uc] 65)).heap.size) := Lib.hid (by have := T3.out.big; simp; omega)
          have APP := Lib.hid (fun v3 w4 ho3 hg3 hl3 => RngI.app (S' := v3) (W3 := w4) HT.out HF4.out HF5.out H1.out H4.out HB.out HO.out ho3 hg3 hl3)
          have lnb := LN.out
          clear ho hb
          gi_wp2_with (gi_at_builtin; refine wpListIn_append_own_at _ rfl _ _ 22 rfl (w.heap.size + 4) 65 i1 (.slice none 0 0) 1 24 Try.underlying22 hj hy0 hy1 hy2 rfl (by decide) (.slice sa B.length sc) B.length _ rfl OW.out ⟨w3.heap.size, 0, none⟩ 1 1 [.slice ua x.length uc] rfl rfl SR.out (by simp [Value.oneCell']) (by unfold maxLen; omega) (by omega) ZZ.out ?_; intro v3 w4 ho3 hg3 _ hl3; obtain ⟨g3, cap3, rfl⟩ := shape_pos ho3 (by omega); have P := Lib.hid (APP.out _ w4 ho3 hg3 (hl3.imp id fun h => h.trans (by rw [World.size_alloc]))); have cP := P.out.1.c; have fP := P.out.1.fr 0; clear ho3 hg3 hl3)
          exact ⟨P.out.2.2.1, P.out.2.2.2, by rw [EQ.out]; exact P.out.2.1⟩
      case done =>
        intro W' hI hD
        rw [tabTo_all, ← NX.out] at hI
        obtain ⟨S', VS', hT, _, _⟩ := hI.ex
        have hM := Lib.hid (hT.mark hD H4.out (fun hd => by have := HDD.out _ hd; omega))
        rw [← HA1.out] at hM
        clear hI hT hD
        have hk1 : ((k + 1 : Nat) : Int) = (k : Int) + 1 := by omega
        go_wp2_with fail
        refine ⟨⟨k + 1, W2.heap.size :: DD, S', VS', _, _, _, _, _, _, _, _, rfl, by omega, hM⟩, ?_⟩
        simp [intOf]
        omega
    · obtain rfl : k = q := by omega
      have hkq' : ¬ ((k : Nat) : Int) < (k : Int) := by omega
      have hM : Hid (TmSt w (.slice (some ⟨ba, oa, none⟩) p ca) (.slice ab k cb) DD S VS (call X Y k (i + 1)) Wr) := Lib.hid (by rw [call_succ]; exact hS.out)
      clear hS
      have hi1 : ((i + 1 : Nat) : Int) = (i : Int) + 1 := by omega
      go_wp2_with fail
      refine ⟨⟨i + 1, DD, S, VS, _, _, _, _, _, _, _, _, _, _, _, _, _, _, _, _, _, rfl, by omega, hM⟩, ?_⟩
      simp [intOf]
      omega
  · obtain rfl : i = p := by omega
    have hlt' : ¬ ((i : Nat) : Int) < (i : Int) := by omega
    have FEW := call_all_few HX.out HY.out HD.out
    have COK := call_ok HX.out HY.out
    obtain ⟨A, hAC⟩ : ∃ A, call X Y q i = A := ⟨_, rfl⟩
    rw [hAC] at hS FEW COK
    have HAC := Lib.hid hAC
    clear hAC
    have hw : ∀ j, j < A.length → (rowsOf A j).length ≤ 20 ∧ ∀ z ∈ rowsOf A j, (Lit.int .i64 z).wf = true := fun j hj => by
      have e : rowsOf A j = A[j] := by unfold rowsOf; rw [List.getElem?_eq_getElem hj]; rfl
      rw [e]
      have := COK _ (List.getElem_mem hj)
      exact ⟨by omega, fun z hz => (Bool.and_eq_true _ _).mpr ⟨decide_eq_true (by have := this.2 z hz; omega : (-9223372036854775808 : Int) ≤ z), decide_eq_true (by have := this.2 z hz; omega : z ≤ (9223372036854775807 : Int))⟩⟩
    have NIL : FamL Wq 0 (.slice none 0 0) (fun _ => undef) [] := ⟨World.ownsRow_nil _ _ _ _, fun i hi => absurd hi (Nat.not_lt_zero _)⟩
    have SM := sumOfTerms_par S (.slice none 0 0) A.length 0 (rowsOf A) (rowsOf []) Wq hS.out.fam.rdss NIL.rdss (by omega) (by omega) (fun j hj => (hw j hj).1) (fun j hj => absurd hj (Nat.not_lt_zero _)) (fun j hj => (hw j hj).2) (fun j hj => absurd hj (Nat.not_lt_zero _)) sort_any
    rw [rowsOf_all] at SM
    have HSM := Lib.hid SM
    have cT := hS.out.bT.c
    obtain ⟨sa, sc, rfl, _, _⟩ := hS.out.fam.head
    clear SM NIL hw COK FEW
    go_wp2_with fail
    refine HSM.out.mono ?_
    rintro e W5 ⟨V, VS5, zs, rfl, hF, hSep, hB, hA, hP⟩
    obtain ⟨av, cv, rfl, _, _⟩ := hF.head
    have S5 := Lib.hid (hS.out.up hB)
    have F5 := Lib.hid hF
    have HSep := Lib.hid hSep
    have HAsc := Lib.hid hA
    have HPar : Hid (∀ x, x ∈ zs ↔ par A x) := Lib.hid (fun x => by have := hP x; rwa [show rowsL (rowsOf ([] : List (List Int))) 0 = [] from rfl, List.append_nil] at this)
    have HBIG := Lib.hid (hS.out.big)
    clear hF hSep hB hA hP hS cT
    have cR := S5.out.bR.c
    have fR := S5.out.bR.fr 0
    go_wp2_with fail
    try rw [Exit.noGoto_ret]
    have big5 := S5.out.big
    have hbig := HBIG.out
    have k6 := OffB.set (w.heap.size + 2) W5 0 (.slice av zs.length cv)
    have MK6 : Hid (MarksAll DD (W5.setCell ⟨w.heap.size + 2, 0, none⟩ (.slice av zs.length cv))) := Lib.hid (fun D hD => by
      have := (S5.out.low D hD).1
      exact (k6.block D (by omega)).trans (S5.out.mks D hD))
    have F6 : FamL (W5.setCell ⟨w.heap.size + 2, 0, none⟩ (.slice av zs.length cv)) w.heap.size (.slice av zs.length cv) VS5 zs := Fam.base (Fam.same F5.out fun g hg _ => k6.block g (by omega)) (by omega)
    have b6 : Below w.heap.size w (W5.setCell ⟨w.heap.size + 2, 0, none⟩ (.slice av zs.length cv)) := S5.out.bel.setCell (p := ⟨w.heap.size + 2, 0, none⟩) (by simp) _
    have bx6 := S5.out.bR.set (.slice av zs.length cv)
    refine leaves_marks (fun D => w.heap.size + 4 ≤ D) (fun W => Box1 W (w.heap.size + 2) 45 (.slice av zs.length cv) ∧ FamL W w.heap.size (.slice av zs.length cv) VS5 zs ∧ Below w.heap.size w W) ?_ ?_ DD _ (fun D hD => (S5.out.low D hD).1) ⟨bx6, F6, b6⟩ MK6.out S5.out.nd
    · rintro W D hx ⟨g1, g2, g3⟩ hD
      have oD := OffB.put W D (.deferred none)
      refine ⟨(oD.block _ (by omega)).trans g1, ⟨own_sameblock g2.out fun g hg => oD.block g fun e => own_ne_obj g2.out hD rfl (e ▸ hg), fun j hj => own_sameblock (g2.inn j hj) fun g hg => oD.block g fun e => own_ne_obj (g2.inn j hj) hD rfl (e ▸ hg)⟩, ?_⟩
      exact ⟨g3.os, g3.tape, g3.output, by rw [oD.size]; exact g3.size, fun b hb => (oD.block b (by omega)).trans (g3.block b hb)⟩
    · rintro W ⟨g1, g2, g3⟩
      exact ⟨_, results_cell_row rfl _ _ (w.heap.size + 2) 45 _ (0, 0) _ rfl g1 t2 rfl (by kernel_rfl), _, VS5, zs, rfl, g2, HSep.out, g3, HAsc.out, by rw [HAC.out]; exact HPar.out⟩
end Go.Proofs.Ytnmilkehggjpfaa
end
