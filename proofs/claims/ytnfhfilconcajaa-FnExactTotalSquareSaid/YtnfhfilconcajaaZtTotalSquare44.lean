/-
  Joined: LFnExactTotalSquare, OpenPl, PFnExactTotalSquare.
-/
import Derived.Test.YtnfhfilconcajaaZtTotalSquare43
import Derived.Test.YtnfhfilconcajaaZtTotalSquare23
import Derived.Test.YtnfhfilconcajaaZtTotalSquare08
import Derived.Lib.SmallJoins
import Derived.ChangeSlices
import Derived.Test.YtnfhfilconcajaaRows
import Derived.WalkKit
import Derived.ProofKit
import Derived.OpenShut
import Derived.ShutString
import Derived.ChangeOld
import Derived.Below
section
namespace Go.Proofs.Ytnfhfilconcajaa.Pl
open Go.RowKit
set_option linter.unusedVariables false
set_option maxRecDepth 100000

theorem offP_bound (n : Nat → Nat) (Y : Nat → Nat → List Int) : ∀ m : Nat, (∀ i, i < m → tot (Y i) (n i) ≤ 40000) → offP 1 n Y m ≤ 1 + 40001 * (m : Int)
  | 0, _ => by simp [offP]
  | m + 1, h => by
    have h1 := offP_bound n Y m fun i hi => h i (by omega)
    have h2 := h m (Nat.lt_succ_self _)
    rw [offP_next]
    omega
theorem FamP.rest {w w' : World} {B B' k m : Nat} {V V' : Value} {KS : Nat → Int} {US : Nat → Value} {n : Nat → Nat} {VS : Nat → Nat → Value} {Y : Nat → Nat → List Int} {us : Nat → Value} {X : Nat → List Int} (h : FamP w B V k KS US n VS Y) (f : Fam w B' V' m us X) (r : MRestK m us w w') (ap : ∀ i, i < k → FApart (n i) (VS i) m us) : FamP w' B V k KS US n VS Y := by
  refine ⟨own_sameblock h.out fun g hg => r.2 g (h.out.lt g hg).2 fun i hi e => ?_, fun i hi => (h.inn i hi).rest f r (ap i hi)⟩
  rcases own_types h.out (f.inn i hi) (by decide) with h1 | h1
  · rw [h1] at hg; cases hg
  · exact h1 (hg.trans e.symm)
theorem FamP.low {w : World} {B k : Nat} {V : Value} {KS : Nat → Int} {US : Nat → Value} {n : Nat → Nat} {VS : Nat → Nat → Value} {Y : Nat → Nat → List Int} (h : FamP w B V k KS US n VS Y) {a b : World} (r : Below w.heap.size a b) (hs : FamP a B V k KS US n VS Y) : FamP b B V k KS US n VS Y :=
  ⟨own_lowC hs.out (fun g hg => (h.out.lt g hg).2) r, fun i hi => (hs.inn i hi).lowC (fun g hg => ((h.inn i hi).out.lt g hg).2) (fun j hj g hg => (((h.inn i hi).inn j hj).lt g hg).2) r⟩
theorem Sq1.low {w0 a b : World} {k : Int} {V : Value} {C : Nat} (h : Sq1 w0 k V a) (r : Below C a b) (hC : w0.heap.size < C) : Sq1 w0 k V b := ⟨h.bel.trans (r.mono (Nat.le_of_lt hC)), (r.block _ hC).trans h.boxA⟩

set_option maxHeartbeats 4000000 in
theorem walk_FnExactTotalSquare (c0 : Int) (a0 : Option Addr) (m cap0 : Nat) (X : Nat → List Int) (w : World) (w0 : IsRows w a0 m cap0 X) :
    Calls Try.prog 8 #[.agg #[.int .i64 c0, .slice a0 m cap0]] w fun e w' => e = .returned (.bool true) ∧ Below w.heap.size w w' := by
  have ha : RdSS w (.slice a0 m cap0) m X := w0
  clear w0
  have t1 := Try.underlying24
  have t2 := Try.underlying27
  have S1 : Hid (Sq1 w c0 (.slice a0 m cap0) (w.alloc (.cells #[.int .i64 c0, .slice a0 m cap0] 24))) := Lib.hid (Sq1.start _ _ _)
  have RA := Lib.hid ha
  clear ha
  by_cases hbig : m + tot X m ≤ 1048576
  · obtain ⟨l1, hl1⟩ : ∃ l1 : Nat, ((1048576 : Nat) : Int) - ((m + tot X m : Nat) : Int) = (l1 : Int) := ⟨1048576 - (m + tot X m), by omega⟩
    have SZ : Hid (∀ wx, Below w.heap.size w wx → Calls Try.prog 12 #[.agg #[.int .i64 c0, .slice a0 m cap0], .int .i64 1048576] wx fun e w' => e = .returned (.int .i64 (l1 : Int)) ∧ Below wx.heap.size wx w') := Lib.hid fun wx hx => by
      have := szPoly_yes c0 _ m X 1048576 wx (RA.out.below hx) (by omega) hbig
      rw [hl1] at this
      exact this
    have hge1 : ¬ (l1 : Int) < 0 := by omega
    have HX : Hid (∀ i, i < m → (X i).length ≤ 1048576) := Lib.hid (fun i hi => by have := tot_one X i m hi; omega)
    have hm : m ≤ 1048576 := by omega
    obtain ⟨k, c, L, cd, hk, hL, SP, IM⟩ := TotalSquare_both c0 m X
    have OX : Hid (off 1 (fun i => (X i).length) m ≤ 1152921504606846976) := Lib.hid (by rw [off_any]; omega)
    have OX0 : ¬ off 1 (fun i => (X i).length) m < 0 := by rw [off_any]; omega
    have OL : Hid (offP 1 (fun i => (L i).length) (fun i => rowsOf (L i)) k ≤ 1152921504606846976) := Lib.hid (by
      have := offP_bound (fun i => (L i).length) (fun i => rowsOf (L i)) k fun i hi => by
        have h1 := tot_bound (rowsOf (L i)) 20 (L i).length (hL i hi).2
        have h2 := (hL i hi).1
        show tot (rowsOf (L i)) (L i).length ≤ 40000
        omega
      omega)
    have OL0 : ¬ offP 1 (fun i => (L i).length) (fun i => rowsOf (L i)) k < 0 := by have := offP_low 1 (fun i => (L i).length) (fun i => rowsOf (L i)) k; omega
    have SP := Lib.hid SP
    have IM := Lib.hid IM
    obtain ⟨kx, hkx⟩ : ∃ kx, off 1 (fun i => (X i).length) m = kx := ⟨_, rfl⟩
    rw [hkx] at OX0
    obtain ⟨kl, hkl⟩ : ∃ kl, offP 1 (fun i => (L i).length) (fun i => rowsOf (L i)) k = kl := ⟨_, rfl⟩
    rw [hkl] at OL0
    have HKX := Lib.hid hkx
    have HKL := Lib.hid hkl
    clear hbig hl1 hkx hkl hL hk
    go_enter Try.func8, Try.ntmps8
    go_wp2_with fail
    generalize (w.alloc (.cells #[.int .i64 c0, .slice a0 m cap0] 24)) = w1 at *
    refine (SZ.out w1 S1.out.bel).mono ?_
    rintro e w2 ⟨rfl, b2⟩
    have S2 := Lib.hid (S1.out.up b2)
    have d0 := S2.out.boxA.c0
    have d0b := S2.out.boxA.c1
    clear b2 S1
    go_wp2_with fail
    refine (toPoly_any c0 _ m X w2 hm HX.out (RA.out.below S2.out.bel)).mono ?_
    rintro e w3 ⟨u3, us3, rfl, f3, b3, _⟩
    have S3 := Lib.hid (S2.out.up b3)
    have R3 := Lib.hid f3
    clear b3 f3 S2 d0 d0b
    go_wp2_with fail
    refine (SP.out _ _ _ w3 R3.out).mono ?_
    rintro e w4 ⟨V4, US4, VS4, rfl, f4, s4, b4⟩
    have S4 := Lib.hid (S3.out.up b4)
    have W4 := Lib.hid f4
    clear f4 s4 b4 S3 R3
    have d0 := S4.out.boxA.c0
    have d0b := S4.out.boxA.c1
    go_wp2_with fail
    refine (toPoly_any c0 _ m X w4 hm HX.out (RA.out.below S4.out.bel)).mono ?_
    rintro e w6 ⟨u6, us6, rfl, f6, b6, s6⟩
    obtain ⟨ua6, uc6, rfl, _, _⟩ := f6.head
    have N46 : Hid (∀ i, i < k → FApart (L i).length (VS4 i) m us6) := Lib.hid (fun i hi => fam_apart (W4.out.inn i hi) f6)
    have S6 := Lib.hid (S4.out.up b6)
    have W7 := Lib.hid ((W4.out.below b6).below ((Below.refl w6.heap.size w6).alloc (Nat.le_refl _) (.cells #[.int .i64 c0, .slice ua6 m uc6] 27)))
    have X7 : Hid (OwnF w w6.heap.size c0 (.slice ua6 m uc6) m us6 X (w6.alloc (.cells #[.int .i64 c0, .slice ua6 m uc6] 27))) := Lib.hid (OwnF.start S6.out.bel.size (f6.base S4.out.bel.size) s6)
    have S7 := Lib.hid (S6.out.alloc (.cells #[.int .i64 c0, .slice ua6 m uc6] 27))
    clear f6 s6 b6 S4 S6 W4 d0 d0b
    have e0 := X7.out.box.c0
    have e0b := X7.out.box.c1
    go_wp2_with fail
    generalize w6.heap.size = g6 at *
    generalize w6.alloc (.cells #[.int .i64 c0, .slice ua6 m uc6] 27) = w7 at *
    refine (IM.out _ w7 X7.out.fam.rdss).mono ?_
    rintro e w8 ⟨V8, US8, VS8, rfl, f8, s8, b8⟩
    have N68 : Hid (∀ i, i < k → FApart (L i).length (VS8 i) m us6) := Lib.hid (fun i hi => (fam_apart X7.out.fam (f8.inn i hi)).symm)
    have G8 := Lib.hid f8
    have SG := Lib.hid s8
    have S8 := Lib.hid (S7.out.up b8)
    have W8 := Lib.hid (W7.out.below b8)
    have X8 := Lib.hid (X7.out.up b8)
    have LT7 : Hid (w.heap.size < w7.heap.size) := Lib.hid S7.out.boxA.lt
    have Z8 : Hid (w7.heap.size ≤ w8.heap.size) := Lib.hid b8.size
    clear f8 s8 b8 X7 S7 e0 e0b
    go_wp2_with fail
    refine (eqPolyS_same V8 V4 k _ _ _ US8 US4 _ _ _ _ w8 G8.out W8.out).mono ?_
    rintro e w10 ⟨rfl, b10⟩
    have S10 := Lib.hid (S8.out.up b10)
    have W10 := Lib.hid (W8.out.below b10)
    have X10 := Lib.hid (X8.out.up b10)
    have G10 := Lib.hid (G8.out.below b10)
    have Z10 : Hid (w7.heap.size ≤ w10.heap.size) := Lib.hid (Nat.le_trans Z8.out b10.size)
    clear b10 S8 W8 X8 G8
    have RX := Lib.hid X10.out.fam
    have KEEP : Hid (∀ wx, Below w10.heap.size w10 wx → (wx.cell? ⟨g6, 0, none⟩ = some (.int .i64 c0) ∧ wx.cell? ⟨g6, 1, none⟩ = some (.slice ua6 m uc6) ∧ wx.cell? ⟨w.heap.size, 0, none⟩ = some (.int .i64 c0) ∧ wx.cell? ⟨w.heap.size, 1, none⟩ = some (.slice a0 m cap0) ∧ Below w10.heap.size w10 wx)) :=
      Lib.hid (fun wx hb => ⟨(X10.out.box.up hb).c0, (X10.out.box.up hb).c1, (S10.out.boxA.up hb).c0, (S10.out.boxA.up hb).c1, hb⟩)
    go_wp2_with fail
    go_region_held3 (fun wx => wx.cell? ⟨g6, 0, none⟩ = some (.int .i64 c0) ∧ wx.cell? ⟨g6, 1, none⟩ = some (.slice ua6 m uc6) ∧ wx.cell? ⟨w.heap.size, 0, none⟩ = some (.int .i64 c0) ∧ wx.cell? ⟨w.heap.size, 1, none⟩ = some (.slice a0 m cap0) ∧ Below w10.heap.size w10 wx)
      (first | exact KEEP.out _ (Below.refl _ _).drew | exact KEEP.out _ (by assumption))
      (first | (go_at_call 14; refine (toPoly_any c0 _ m X _ hm HX.out ((RA.out.below S10.out.bel).drewN 1)).mono ?_; rintro e wt ⟨ut, ust, rfl, ft, bt, _⟩; have qt := (RX.out.drewN 1).below bt; have zt := belD1 bt) | (go_at_call 16; refine (eqPoly_same c0 _ _ m _ _ _ _ X _ qt ft).mono ?_; rintro e w11 ⟨rfl, bu⟩; have Zu := zt.step1 bu))
    have Z11 : Hid (w7.heap.size ≤ w11.heap.size) := Lib.hid (Nat.le_trans Z10.out Zu.size)
    have S11 := Lib.hid (S10.out.up Zu)
    have W11 := Lib.hid (W10.out.below Zu)
    have X11 := Lib.hid (X10.out.up Zu)
    have G11 := Lib.hid (G10.out.below Zu)
    clear Zu zt bt bu qt ft S10 W10 X10 G10 RX KEEP
    have e0 := X11.out.box.c0
    have e0b := X11.out.box.c1
    go_wp2_with fail
    refine (markPoly_from c0 1 (by omega) _ m w.heap.size us6 X w11 X11.out.fam X11.out.sep S11.out.bel.size OX.out).mono ?_
    rintro e w12 ⟨rfl, _, k12, r12⟩
    have S12 := Lib.hid (S11.out.rest X11.out r12 k12)
    have W12 := Lib.hid (W11.out.rest X11.out.fam r12 N46.out)
    have G12 := Lib.hid (G11.out.rest X11.out.fam r12 N68.out)
    have Z12 : Hid (w7.heap.size ≤ w12.heap.size) := Lib.hid (Nat.le_trans Z11.out r12.1)
    rw [HKX.out]
    clear S11 W11 X11 G11 k12 r12 e0 e0b
    go_wp2_with fail
    refine (eqPolyS_same V8 V4 k _ _ _ US8 US4 _ _ _ _ w12 G12.out W12.out).mono ?_
    rintro e w13 ⟨rfl, b13⟩
    have S13 := Lib.hid (S12.out.up b13)
    have W13 := Lib.hid (W12.out.below b13)
    have G13 := Lib.hid (G12.out.below b13)
    have SZ13 : Hid (w7.heap.size ≤ w13.heap.size) := Lib.hid (Nat.le_trans Z12.out b13.size)
    clear b13 S12 W12 G12
    go_wp2_with fail
    refine (markPolyS_own 1 (by omega) V8 k _ _ US8 _ _ _ w13 G13.out SG.out (SZ13.out) OL.out).mono ?_
    rintro e w14 ⟨rfl, g14, b14⟩
    have S14 := Lib.hid (S13.out.low b14 LT7.out)
    have W14 := Lib.hid (W7.out.low b14 W13.out)
    have G14 := Lib.hid g14
    rw [HKL.out]
    clear S13 W13 G13 g14 b14
    go_wp2_with fail
    refine (heldPolyS_own V8 k _ _ US8 _ _ _ w14 G14.out OL.out).mono ?_
    rintro e w15 ⟨rfl, rfl⟩
    rw [HKL.out]
    have d0 := S14.out.boxA.c0
    have d0b := S14.out.boxA.c1
    go_wp2_with fail
    refine (toPoly_any c0 _ m X _ hm HX.out (RA.out.below S14.out.bel)).mono ?_
    rintro e w16 ⟨u16, us16, rfl, f16, b16, _⟩
    have S16 := Lib.hid (S14.out.up b16)
    have W16 := Lib.hid (W14.out.below b16)
    have G16 := Lib.hid (G14.out.below b16)
    have R16 := Lib.hid f16.rdss
    clear b16 f16 S14 W14 G14 d0 d0b
    go_wp2_with fail
    refine (IM.out _ w16 R16.out).mono ?_
    rintro e w17 ⟨V17, US17, VS17, rfl, f17, s17, b17⟩
    have B17 := Lib.hid (S16.out.bel.step1 b17)
    have W17 := Lib.hid (W16.out.below b17)
    have G17 := Lib.hid (G16.out.below b17)
    have H17 := Lib.hid f17
    clear f17 s17 b17 S16 W16 G16 R16
    go_wp2_with fail
    refine (eqPolyS_same V17 V4 k _ _ _ US17 US4 _ _ _ _ w17 H17.out W17.out).mono ?_
    rintro e w19 ⟨rfl, b19⟩
    have G19 := Lib.hid (G17.out.below b19)
    have B19 := Lib.hid (B17.out.step1 b19)
    clear b19 G17 W17 H17 B17
    go_wp2_with fail
    refine (heldPolyS_own V8 k _ _ US8 _ _ _ w19 G19.out OL.out).mono ?_
    rintro e w20 ⟨rfl, rfl⟩
    rw [HKL.out]
    go_wp2_with fail
    go_ret
    exact ⟨rfl, B19.out⟩
  · have SZ : Hid (∀ wx, Below w.heap.size w wx → Calls Try.prog 12 #[.agg #[.int .i64 c0, .slice a0 m cap0], .int .i64 1048576] wx fun e w' => e = .returned (.int .i64 (-1)) ∧ Below wx.heap.size wx w') := Lib.hid fun wx hx =>
      szPoly_over c0 _ m X 1048576 wx (RA.out.below hx) (by omega) (by omega)
    clear hbig
    go_enter Try.func8, Try.ntmps8
    go_wp2_with fail
    generalize (w.alloc (.cells #[.int .i64 c0, .slice a0 m cap0] 24)) = w1 at *
    refine (SZ.out w1 S1.out.bel).mono ?_
    rintro e w2 ⟨rfl, b2⟩
    have S2 := Lib.hid (S1.out.up b2)
    clear b2 S1
    go_wp2_with fail
    go_ret
    exact ⟨rfl, S2.out.bel⟩
end Go.Proofs.Ytnfhfilconcajaa.Pl
end
section
namespace Go.Proofs.Ytnfhfilconcajaa
open Go.RowKit Go.ChangeShapes Go.WideShapes Go.Joins
set_option linter.unusedVariables false
set_option maxRecDepth 100000

/-- What the walk is told of such an argument: its number of variables and its rows. -/
theorem open_pl {H : Type} {enc : TypeId × Value → H} {w : World} {base b0 : Nat} {held : Bool} {v : Value} {d : DataW H} {p : List MemPlace}
    (hv : Value.okWide Try.prog w .any b0 24 v) (h : DataW.Trod enc Try.prog w base (fun _ => true) held 24 v d p) :
    ∃ (c : Int) (a : Option Addr) (m cap : Nat) (X : Nat → List Int), v = .agg #[.int .i64 c, .slice a m cap] ∧ IsRows w a m cap X := by
  obtain ⟨v0, v1, y0, y1, n, rfl, _, _, h0, h1⟩ := open_agg2 Try.underlying24 (by kernel_rfl) (by kernel_rfl) hv h
  obtain ⟨c, hc, _, _⟩ := DataW.trod_int Try.underlying2 h0
  obtain rfl : v0 = .int .i64 c := by simpa using hc
  obtain ⟨a, m, cap, e⟩ := slice_form Try.underlying22 h1
  obtain rfl : v1 = .slice a m cap := by simpa using e
  obtain ⟨X, hX⟩ := open_rows (d := y1.1) (p := y1.2) ⟨n, by simpa [Value.cells] using h1⟩
  exact ⟨c, a, m, cap, X, rfl, hX⟩
end Go.Proofs.Ytnfhfilconcajaa
end
section
namespace Go.Proofs.Ytnfhfilconcajaa.fnExactTotalSquare
open Go.ChangeShapes Go.WideShapes Go.ChangeAt Go.RowKit Go.Proofs.Ytnfhfilconcajaa.Pl
open Go.ChangeMaps (open_string shut_string)
set_option maxRecDepth 100000
set_option linter.unusedVariables false

theorem own : ownKnob Try.prog.godebug = none := by kernel_rfl
theorem laidOut : laidOutB Try.prog = true := by kernel_rfl

set_option maxRecDepth 100000 in
theorem lifted (os : Os) (started : os.Started) (H : Type) (enc : TypeId × Value → H) :
    ReturnsInHanded {} Try.checked os 8 .any (Rows.fnExactTotalSquareSpec.pre6 enc Try.prog Try.f8 Rows.fnExactTotalSquareRow.domain false) (Rows.fnExactTotalSquareSpec.post enc Try.prog Try.f8 false true false false) := by
  refine returnsInHanded_of_change (C := Try.checked) own started (by kernel_rfl) Try.func8
    (ChangeSpec.witness6 (enc := enc) (C := Try.checked) false ⟨#[], #[.agg #[.int .i64 0, .slice none 0 0]], []⟩ 8 (by kernel_rfl) (by kernel_rfl) (by kernel_rfl) (by kernel_rfl)) ?_
  intro W base args ds gs before hval0 hW hcnd _
  have hval : ∀ (j : Nat) t v, Try.f8.params[j]? = some t → args[j]? = some v → Value.okWide Try.prog W .any base t v := hval0
  have hW' := hW
  obtain ⟨p, q, hA0, hV, rfl, hfz, hnd⟩ := hW
  have hA : DataW.TrodAll enc Try.prog W 0 (fun _ => true) true Try.f8.params.toList args.toList ds p := hA0
  rw [Try.params8] at hA hval
  obtain ⟨v0, vs0, d0, ds0, p0, q0, hargs, rfl, rfl, h0, r0⟩ := trodAll_cons hA
  obtain ⟨rfl, rfl, rfl⟩ := trodAll_nil r0
  obtain rfl : args = #[v0] := by cases args; simp_all
  obtain ⟨rfl, rfl⟩ := trodVars_none hV
  have k0 := h0
  have lt0 : ∀ x ∈ p0, x.block < W.heap.size := by obtain ⟨m, hm⟩ := k0; exact DataW.trod_lt m _ _ _ hm
  obtain ⟨c0, a0, len0, cap0, z0, rfl, w0⟩ := open_pl (hval 0 24 v0 rfl rfl) h0
  clear hA0 hval0
  refine (walk_FnExactTotalSquare c0 a0 len0 cap0 z0 W w0).mono fun e W' ⟨he, bel⟩ => ?_
  subst he
  exact ⟨_, rfl, _, _, _, [], _, [], hW', trodAll_mk1 (shut_bool Try.underlying4 _), (trodAll_cons_mk (Below.trod laidOut (by kernel_rfl) (of_decide_eq_true (by kernel_rfl)) k0 bel lt0) trodAll_mk0), rfl, bel.frame _, fun h => by cases h⟩

theorem over : Rows.fnExactTotalSquareRow.holds Try.pinned (OpenSpec.ofChange Rows.fnExactTotalSquareSpec) :=
  OpenClaim.holds_of_wide 8 Try.f8 rfl rfl rfl rfl rfl rfl rfl ⟨rfl, rfl, rfl, rfl, rfl⟩ rfl rfl rfl rfl rfl (by kernel_rfl) Try.func8 (by kernel_rfl)
    (of_decide_eq_true (by kernel_rfl)) (by unfold Func.isWrapper; first | (rw [if_pos (by decide +kernel)]; kernel_rfl) | (rw [if_neg (by decide +kernel)]; exact ⟨rfl, rfl⟩))
    (fun os started H enc _ => lifted os started H enc)

theorem proved : Rows.FnExactTotalSquareSaid := over
#print axioms proved
end Go.Proofs.Ytnfhfilconcajaa.fnExactTotalSquare
end
