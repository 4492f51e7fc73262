/-
  Joined: LFnExactNormalForm, PFnExactNormalForm.
-/
import Derived.Test.YtggebkcmokpcmaaZctNormalForm12
import Derived.Test.YtggebkcmokpcmaaZBHit13
import Derived.Test.YtggebkcmokpcmaaRows
import Derived.WalkKit
import Derived.ProofKit
import Derived.OpenShut
import Derived.ShutString
import Derived.ChangeOld
import Derived.Below
section
namespace Go.Proofs.Ytggebkcmokpcmaa.Pl
open Go.RowKit
set_option linter.unusedVariables false
set_option maxRecDepth 100000


set_option maxHeartbeats 4000000 in
theorem walk_FnExactNormalForm (c0 : Int) (a0 : Option Addr) (m cap0 : Nat) (X : Nat → List Int) (w : World) (w0 : IsRows w a0 m cap0 X) :
    Calls Try.prog 7 #[.agg #[.int .i64 c0, .slice a0 m cap0]] w fun e w' => e = .returned (.bool true) ∧ Below w.heap.size w w' := by
  have ha : RdSS w (.slice a0 m cap0) m X := w0
  clear w0
  have t1 := Try.underlying27
  have t2 := Try.underlying31
  have S1 : Hid (Sq1 w c0 (.slice a0 m cap0) (w.alloc (.cells #[.int .i64 c0, .slice a0 m cap0] 27))) := Lib.hid (Sq1.start _ _ _)
  have RA := Lib.hid ha
  clear ha
  by_cases hbig : m + tot X m ≤ 1048576
  · obtain ⟨l1, hl1⟩ : ∃ l1 : Nat, ((1048576 : Nat) : Int) - ((m + tot X m : Nat) : Int) = (l1 : Int) := ⟨1048576 - (m + tot X m), by omega⟩
    have SZ : Hid (∀ wx, Below w.heap.size w wx → Calls Try.prog 16 #[.agg #[.int .i64 c0, .slice a0 m cap0], .int .i64 1048576] wx fun e w' => e = .returned (.int .i64 (l1 : Int)) ∧ Below wx.heap.size wx w') := Lib.hid fun wx hx => by
      have := szPoly_yes c0 _ m X 1048576 wx (RA.out.below hx) (by omega) hbig
      rw [hl1] at this
      exact this
    have hge1 : ¬ (l1 : Int) < 0 := by omega
    have HX : Hid (∀ i, i < m → (X i).length ≤ 1048576) := Lib.hid (fun i hi => by have := tot_one X i m hi; omega)
    have hm : m ≤ 1048576 := by omega
    obtain ⟨C, L, cd, hL, hL20, SP, IM⟩ := NormalForm_both c0 m X
    have OX : Hid (off 1 (fun i => (X i).length) m ≤ 1152921504606846976) := Lib.hid (by rw [off_any]; omega)
    have OX0 : ¬ off 1 (fun i => (X i).length) m < 0 := by rw [off_any]; omega
    have OL : Hid (off 1 (fun i => (rowsOf L i).length) L.length ≤ 1152921504606846976) := Lib.hid (by rw [off_any]; have := tot_bound (rowsOf L) 20 L.length hL20; omega)
    have OL0 : ¬ off 1 (fun i => (rowsOf L i).length) L.length < 0 := by rw [off_any]; omega
    have SP := Lib.hid SP
    have IM := Lib.hid IM
    obtain ⟨kx, hkx⟩ : ∃ kx, off 1 (fun i => (X i).length) m = kx := ⟨_, rfl⟩
    rw [hkx] at OX0
    obtain ⟨kl, hkl⟩ : ∃ kl, off 1 (fun i => (rowsOf L i).length) L.length = kl := ⟨_, rfl⟩
    rw [hkl] at OL0
    have HKX := Lib.hid hkx
    have HKL := Lib.hid hkl
    clear hbig hl1 hkx hkl hL hL20
    go_enter Try.func7, Try.ntmps7
    go_wp2_with fail
    generalize (w.alloc (.cells #[.int .i64 c0, .slice a0 m cap0] 27)) = w1 at *
    refine (SZ.out w1 S1.out.bel).mono ?_
    rintro e w2 ⟨rfl, b2⟩
    have S2 := Lib.hid (S1.out.up b2)
    have d0 := S2.out.boxA.c0
    have d0b := S2.out.boxA.c1
    clear b2 S1
    go_wp2_with fail
    refine (toPoly_any c0 _ m X w2 hm HX.out (RA.out.below S2.out.bel)).mono ?_
    rintro e w3 ⟨u3, us3, rfl, f3, b3, _⟩
    have S3 := Lib.hid (S2.out.up b3)
    have R3 := Lib.hid f3
    clear b3 f3 S2 d0 d0b
    go_wp2_with fail
    refine (SP.out _ _ _ w3 R3.out).mono ?_
    rintro e w4 ⟨v4, vs4, rfl, f4, s4, b4⟩
    obtain ⟨va4, vc4, rfl, _, _⟩ := f4.head
    have S4 := Lib.hid (S3.out.up b4)
    have P5 : Hid (OwnF w w4.heap.size C (.slice va4 L.length vc4) L.length vs4 (rowsOf L) (w4.alloc (.cells #[.int .i64 C, .slice va4 L.length vc4] 31))) := Lib.hid (OwnF.start S4.out.bel.size (f4.base S3.out.bel.size) s4)
    have S5 := Lib.hid (S4.out.alloc (.cells #[.int .i64 C, .slice va4 L.length vc4] 31))
    clear f4 s4 b4 S3 S4 R3
    have d0 := S5.out.boxA.c0
    have d0b := S5.out.boxA.c1
    go_wp2_with fail
    generalize w4.heap.size = g4 at *
    generalize w4.alloc (.cells #[.int .i64 C, .slice va4 L.length vc4] 31) = w5 at *
    refine (toPoly_any c0 _ m X w5 hm HX.out (RA.out.below S5.out.bel)).mono ?_
    rintro e w6 ⟨u6, us6, rfl, f6, b6, s6⟩
    obtain ⟨ua6, uc6, rfl, _, _⟩ := f6.head
    have N46 := Lib.hid (fam_apart P5.out.fam f6)
    have S6 := Lib.hid (S5.out.up b6)
    have P7 := Lib.hid ((P5.out.up b6).alloc (.cells #[.int .i64 c0, .slice ua6 m uc6] 31))
    have X7 : Hid (OwnF w w6.heap.size c0 (.slice ua6 m uc6) m us6 X (w6.alloc (.cells #[.int .i64 c0, .slice ua6 m uc6] 31))) := Lib.hid (OwnF.start S6.out.bel.size (f6.base S5.out.bel.size) s6)
    have S7 := Lib.hid (S6.out.alloc (.cells #[.int .i64 c0, .slice ua6 m uc6] 31))
    clear f6 s6 b6 P5 S5 S6 d0 d0b
    have e0 := X7.out.box.c0
    have e0b := X7.out.box.c1
    go_wp2_with fail
    generalize w6.heap.size = g6 at *
    generalize w6.alloc (.cells #[.int .i64 c0, .slice ua6 m uc6] 31) = w7 at *
    refine (IM.out _ w7 X7.out.fam.rdss).mono ?_
    rintro e w8 ⟨v8, vs8, rfl, f8, s8, b8⟩
    obtain ⟨va8, vc8, rfl, _, _⟩ := f8.head
    have N48 := Lib.hid (fam_apart P7.out.fam f8)
    have N68 := Lib.hid (fam_apart X7.out.fam f8)
    have S8 := Lib.hid (S7.out.up b8)
    have P9 := Lib.hid ((P7.out.up b8).alloc (.cells #[.int .i64 C, .slice va8 L.length vc8] 31))
    have X9 := Lib.hid ((X7.out.up b8).alloc (.cells #[.int .i64 C, .slice va8 L.length vc8] 31))
    have V9 : Hid (OwnF w w8.heap.size C (.slice va8 L.length vc8) L.length vs8 (rowsOf L) (w8.alloc (.cells #[.int .i64 C, .slice va8 L.length vc8] 31))) := Lib.hid (OwnF.start S8.out.bel.size (f8.base S7.out.bel.size) s8)
    have S9 := Lib.hid (S8.out.alloc (.cells #[.int .i64 C, .slice va8 L.length vc8] 31))
    clear f8 s8 b8 P7 X7 S7 S8 e0 e0b
    have d0 := P9.out.box.c0
    have d0b := P9.out.box.c1
    have e0 := V9.out.box.c0
    have e0b := V9.out.box.c1
    go_wp2_with fail
    generalize w8.heap.size = g8 at *
    generalize w8.alloc (.cells #[.int .i64 C, .slice va8 L.length vc8] 31) = w9 at *
    refine (eqPoly_same C _ _ L.length _ _ _ _ (rowsOf L) w9 V9.out.fam P9.out.fam).mono ?_
    rintro e w10 ⟨rfl, b10⟩
    have S10 := Lib.hid (S9.out.up b10)
    have P10 := Lib.hid (P9.out.up b10)
    have X10 := Lib.hid (X9.out.up b10)
    have V10 := Lib.hid (V9.out.up b10)
    clear b10 S9 P9 X9 V9 d0 d0b e0 e0b
    have RX := Lib.hid X10.out.fam
    have KEEP : Hid (∀ wx, Below w10.heap.size w10 wx → (wx.cell? ⟨g6, 0, none⟩ = some (.int .i64 c0) ∧ wx.cell? ⟨g6, 1, none⟩ = some (.slice ua6 m uc6) ∧ wx.cell? ⟨w.heap.size, 0, none⟩ = some (.int .i64 c0) ∧ wx.cell? ⟨w.heap.size, 1, none⟩ = some (.slice a0 m cap0) ∧ Below w10.heap.size w10 wx)) :=
      Lib.hid (fun wx hb => ⟨(X10.out.box.up hb).c0, (X10.out.box.up hb).c1, (S10.out.boxA.up hb).c0, (S10.out.boxA.up hb).c1, hb⟩)
    go_wp2_with fail
    go_region_held3 (fun wx => wx.cell? ⟨g6, 0, none⟩ = some (.int .i64 c0) ∧ wx.cell? ⟨g6, 1, none⟩ = some (.slice ua6 m uc6) ∧ wx.cell? ⟨w.heap.size, 0, none⟩ = some (.int .i64 c0) ∧ wx.cell? ⟨w.heap.size, 1, none⟩ = some (.slice a0 m cap0) ∧ Below w10.heap.size w10 wx)
      (first | exact KEEP.out _ (Below.refl _ _).drew | exact KEEP.out _ (by assumption))
      (first | (go_at_call 18; refine (toPoly_any c0 _ m X _ hm HX.out ((RA.out.below S10.out.bel).drewN 1)).mono ?_; rintro e wt ⟨ut, ust, rfl, ft, bt, _⟩; have qt := (RX.out.drewN 1).below bt; have zt := belD1 bt) | (go_at_call 20; refine (eqPoly_same c0 _ _ m _ _ _ _ X _ qt ft).mono ?_; rintro e w11 ⟨rfl, bu⟩; have Zu := zt.step1 bu))
    have S11 := Lib.hid (S10.out.up Zu)
    have P11 := Lib.hid (P10.out.up Zu)
    have X11 := Lib.hid (X10.out.up Zu)
    have V11 := Lib.hid (V10.out.up Zu)
    clear Zu zt bt bu qt ft S10 P10 X10 V10 RX KEEP
    have e0 := X11.out.box.c0
    have e0b := X11.out.box.c1
    go_wp2_with fail
    refine (markPoly_from c0 1 (by omega) _ m w.heap.size us6 X w11 X11.out.fam X11.out.sep S11.out.bel.size OX.out).mono ?_
    rintro e w12 ⟨rfl, _, k12, r12⟩
    have S12 := Lib.hid (S11.out.rest X11.out r12 k12)
    have P12 := Lib.hid (P11.out.rest X11.out r12 N46.out)
    have V12 := Lib.hid (V11.out.rest X11.out r12 N68.out.symm)
    rw [HKX.out]
    clear S11 P11 X11 V11 k12 r12 e0 e0b
    have d0 := P12.out.box.c0
    have d0b := P12.out.box.c1
    have e0 := V12.out.box.c0
    have e0b := V12.out.box.c1
    go_wp2_with fail
    refine (eqPoly_same C _ _ L.length _ _ _ _ (rowsOf L) w12 V12.out.fam P12.out.fam).mono ?_
    rintro e w13 ⟨rfl, b13⟩
    have S13 := Lib.hid (S12.out.up b13)
    have P13 := Lib.hid (P12.out.up b13)
    have V13 := Lib.hid (V12.out.up b13)
    clear b13 S12 P12 V12 d0 d0b e0 e0b
    have e0 := V13.out.box.c0
    have e0b := V13.out.box.c1
    go_wp2_with fail
    refine (markPoly_from C 1 (by omega) _ L.length w.heap.size vs8 (rowsOf L) w13 V13.out.fam V13.out.sep S13.out.bel.size OL.out).mono ?_
    rintro e w14 ⟨rfl, m14, k14, r14⟩
    have S14 := Lib.hid (S13.out.rest V13.out r14 k14)
    have P14 := Lib.hid (P13.out.rest V13.out r14 N48.out)
    have V14 := Lib.hid (V13.out.box.restK (B' := 0) (by decide) V13.out.fam r14)
    have W14 := Lib.hid m14
    rw [HKL.out]
    clear S13 P13 V13 m14 k14 r14 e0 e0b
    have e0 := V14.out.c0
    have e0b := V14.out.c1
    go_wp2_with fail
    refine (heldPoly_own C _ L.length w.heap.size vs8 (rowsOf L) w14 W14.out OL.out).mono ?_
    rintro e w15 ⟨rfl, b15⟩
    have S15 := Lib.hid (S14.out.up b15)
    have P15 := Lib.hid (P14.out.up b15)
    have V15 := Lib.hid (V14.out.up b15)
    have W15 := Lib.hid (W14.out.below b15)
    rw [HKL.out]
    clear S14 P14 V14 W14 b15 e0 e0b
    have d0 := S15.out.boxA.c0
    have d0b := S15.out.boxA.c1
    go_wp2_with fail
    refine (toPoly_any c0 _ m X w15 hm HX.out (RA.out.below S15.out.bel)).mono ?_
    rintro e w16 ⟨u16, us16, rfl, f16, b16, _⟩
    have S16 := Lib.hid (S15.out.up b16)
    have P16 := Lib.hid (P15.out.up b16)
    have V16 := Lib.hid (V15.out.up b16)
    have W16 := Lib.hid (W15.out.below b16)
    have R16 := Lib.hid f16.rdss
    clear b16 f16 S15 P15 V15 W15 d0 d0b
    go_wp2_with fail
    refine (IM.out _ w16 R16.out).mono ?_
    rintro e w17 ⟨v17, vs17, rfl, f17, s17, b17⟩
    obtain ⟨va17, vc17, rfl, _, _⟩ := f17.head
    have S17 := Lib.hid (S16.out.up b17)
    have P18 := Lib.hid ((P16.out.up b17).alloc (.cells #[.int .i64 C, .slice va17 L.length vc17] 31))
    have V18 := Lib.hid ((V16.out.up b17).alloc (.cells #[.int .i64 C, .slice va17 L.length vc17] 31))
    have W18 := Lib.hid ((W16.out.below b17).below ((Below.refl w17.heap.size w17).alloc (Nat.le_refl _) (.cells #[.int .i64 C, .slice va17 L.length vc17] 31)))
    have Q18 : Hid (OwnF w w17.heap.size C (.slice va17 L.length vc17) L.length vs17 (rowsOf L) (w17.alloc (.cells #[.int .i64 C, .slice va17 L.length vc17] 31))) := Lib.hid (OwnF.start S17.out.bel.size (f17.base S16.out.bel.size) s17)
    have S18 := Lib.hid (S17.out.alloc (.cells #[.int .i64 C, .slice va17 L.length vc17] 31))
    clear f17 s17 b17 P16 V16 W16 S16 S17 R16
    have d0 := P18.out.box.c0
    have d0b := P18.out.box.c1
    have e0 := Q18.out.box.c0
    have e0b := Q18.out.box.c1
    go_wp2_with fail
    generalize w17.heap.size = g17 at *
    generalize w17.alloc (.cells #[.int .i64 C, .slice va17 L.length vc17] 31) = w18 at *
    refine (eqPoly_same C _ _ L.length _ _ _ _ (rowsOf L) w18 Q18.out.fam P18.out.fam).mono ?_
    rintro e w19 ⟨rfl, b19⟩
    have V19 := Lib.hid (V18.out.up b19)
    have W19 := Lib.hid (W18.out.below b19)
    have B19 := Lib.hid (S18.out.bel.step1 b19)
    clear b19 P18 Q18 V18 W18 S18 d0 d0b e0 e0b
    have e0 := V19.out.c0
    have e0b := V19.out.c1
    go_wp2_with fail
    refine (heldPoly_own C _ L.length w.heap.size vs8 (rowsOf L) w19 W19.out OL.out).mono ?_
    rintro e w20 ⟨rfl, b20⟩
    have B20 := Lib.hid (B19.out.step1 b20)
    rw [HKL.out]
    go_wp2_with fail
    go_ret
    exact ⟨rfl, B20.out⟩
  · have SZ : Hid (∀ wx, Below w.heap.size w wx → Calls Try.prog 16 #[.agg #[.int .i64 c0, .slice a0 m cap0], .int .i64 1048576] wx fun e w' => e = .returned (.int .i64 (-1)) ∧ Below wx.heap.size wx w') := Lib.hid fun wx hx =>
      szPoly_over c0 _ m X 1048576 wx (RA.out.below hx) (by omega) (by omega)
    clear hbig
    go_enter Try.func7, Try.ntmps7
    go_wp2_with fail
    generalize (w.alloc (.cells #[.int .i64 c0, .slice a0 m cap0] 27)) = w1 at *
    refine (SZ.out w1 S1.out.bel).mono ?_
    rintro e w2 ⟨rfl, b2⟩
    have S2 := Lib.hid (S1.out.up b2)
    clear b2 S1
    go_wp2_with fail
    go_ret
    exact ⟨rfl, S2.out.bel⟩
end Go.Proofs.Ytggebkcmokpcmaa.Pl
end
section
namespace Go.Proofs.Ytggebkcmokpcmaa.fnExactNormalForm
open Go.ChangeShapes Go.WideShapes Go.ChangeAt Go.RowKit Go.Proofs.Ytggebkcmokpcmaa.Pl
open Go.ChangeMaps (open_string shut_string)
set_option maxRecDepth 100000
set_option linter.unusedVariables false

theorem own : ownKnob Try.prog.godebug = none := by kernel_rfl
theorem laidOut : laidOutB Try.prog = true := by kernel_rfl

set_option maxRecDepth 100000 in
theorem lifted (os : Os) (started : os.Started) (H : Type) (enc : TypeId × Value → H) :
    ReturnsInHanded {} Try.checked os 7 .any (Rows.fnExactNormalFormSpec.pre6 enc Try.prog Try.f7 Rows.fnExactNormalFormRow.domain false) (Rows.fnExactNormalFormSpec.post enc Try.prog Try.f7 false true false false) := by
  refine returnsInHanded_of_change (C := Try.checked) own started (by kernel_rfl) Try.func7
    (ChangeSpec.witness6 (enc := enc) (C := Try.checked) false ⟨#[], #[.agg #[.int .i64 0, .slice none 0 0]], []⟩ 8 (by kernel_rfl) (by kernel_rfl) (by kernel_rfl) (by kernel_rfl)) ?_
  intro W base args ds gs before hval0 hW hcnd _
  have hval : ∀ (j : Nat) t v, Try.f7.params[j]? = some t → args[j]? = some v → Value.okWide Try.prog W .any base t v := hval0
  have hW' := hW
  obtain ⟨p, q, hA0, hV, rfl, hfz, hnd⟩ := hW
  have hA : DataW.TrodAll enc Try.prog W 0 (fun _ => true) true Try.f7.params.toList args.toList ds p := hA0
  rw [Try.params7] at hA hval
  obtain ⟨v0, vs0, d0, ds0, p0, q0, hargs, rfl, rfl, h0, r0⟩ := trodAll_cons hA
  obtain ⟨rfl, rfl, rfl⟩ := trodAll_nil r0
  obtain rfl : args = #[v0] := by cases args; simp_all
  obtain ⟨rfl, rfl⟩ := trodVars_none hV
  have k0 := h0
  have lt0 : ∀ x ∈ p0, x.block < W.heap.size := by obtain ⟨m, hm⟩ := k0; exact DataW.trod_lt m _ _ _ hm
  obtain ⟨c0, a0, len0, cap0, z0, rfl, w0⟩ := open_pl (hval 0 27 v0 rfl rfl) h0
  clear hA0 hval0
  refine (walk_FnExactNormalForm c0 a0 len0 cap0 z0 W w0).mono fun e W' ⟨he, bel⟩ => ?_
  subst he
  exact ⟨_, rfl, _, _, _, [], _, [], hW', trodAll_mk1 (shut_bool Try.underlying4 _), (trodAll_cons_mk (Below.trod laidOut (by kernel_rfl) (of_decide_eq_true (by kernel_rfl)) k0 bel lt0) trodAll_mk0), rfl, bel.frame _, fun h => by cases h⟩

theorem over : Rows.fnExactNormalFormRow.holds Try.pinned (OpenSpec.ofChange Rows.fnExactNormalFormSpec) :=
  OpenClaim.holds_of_wide 7 Try.f7 rfl rfl rfl rfl rfl rfl rfl ⟨rfl, rfl, rfl, rfl, rfl⟩ rfl rfl rfl rfl rfl (by kernel_rfl) Try.func7 (by kernel_rfl)
    (of_decide_eq_true (by kernel_rfl)) (by unfold Func.isWrapper; first | (rw [if_pos (by decide +kernel)]; kernel_rfl) | (rw [if_neg (by decide +kernel)]; exact ⟨rfl, rfl⟩))
    (fun os started H enc _ => lifted os started H enc)

theorem proved : Rows.FnExactNormalFormSaid := over
#print axioms proved
end Go.Proofs.Ytggebkcmokpcmaa.fnExactNormalForm
end
