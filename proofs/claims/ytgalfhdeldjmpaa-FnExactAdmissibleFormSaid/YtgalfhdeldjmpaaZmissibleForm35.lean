/-
  Joined: RForm, LFnExactAdmissibleForm.
-/
import Derived.Test.YtgalfhdeldjmpaaZmissibleForm34
import Derived.Test.YtgalfhdeldjmpaaZmissibleForm31
import Derived.Deep.RegionLaw
section
namespace Go.Proofs.Ytgalfhdeldjmpaa
open Go.RowKit Go.Maps
set_option linter.unusedVariables false
set_option maxRecDepth 100000

theorem dsum_sum (xs : List Int) : ∀ n, n ≤ xs.length → dsum (gOf xs) n = (xs.take n).sum
  | 0, _ => rfl
  | n + 1, h => by
    rw [dsum, dsum_sum xs n (by omega), List.take_add_one, List.sum_append]
    unfold gOf
    rw [List.getElem?_eq_getElem (by omega)]
    simp
theorem sumL_sum (xs : List Int) : sumL xs = xs.sum := by
  unfold sumL
  rw [dsum_sum xs _ (Nat.le_refl _), List.take_length]
theorem isW_LW {xs : List Int} (h : isW xs) : LW xs := by
  obtain ⟨_, h2⟩ := h
  refine ⟨fun x hx => ?_, ?_⟩
  · obtain ⟨i, hi, rfl⟩ := List.getElem_of_mem hx
    have := (h2 i hi).1
    unfold gOf at this
    rw [List.getElem?_eq_getElem hi] at this
    exact this
  · rw [← sumL_sum]
    unfold sumL
    cases hn : xs.length with
    | zero => simp [dsum]
    | succ n => have := (h2 n (by omega)).2; exact this

/-- The result's box is written, the result is there. -/
theorem resS_put {w w1 : World} {U : Value} {US : Nat → Value} {L : List (List Int)} {x : Value} {B g : Nat} (f : FamL w1 B U US L) (hB : w.heap.size ≤ B) (b : Below w.heap.size w w1) (hx : Box1 w1 g 24 x) (hg : w.heap.size ≤ g) :
    FamL (w1.setCell ⟨g, 0, none⟩ U) w.heap.size U US L ∧ Below w.heap.size w (w1.setCell ⟨g, 0, none⟩ U) ∧ Box1 (w1.setCell ⟨g, 0, none⟩ U) g 24 U :=
  ⟨FamL.off_box (Fam.base f hB) (OneOff.set _ _ _) hx, b.setCell (p := ⟨g, 0, none⟩) hg U, hx.set U⟩

/-- The two boxes of an argument and a result. -/
structure Two (w : World) (V : Value) (W : World) : Prop where
  bel : Below w.heap.size w W
  a : Box1 W w.heap.size 24 V
  r : Box1 W (w.heap.size + 1) 24 (.slice none 0 0)
theorem Two.start (w : World) (V : Value) : Two w V ((w.alloc (.cells #[V] 24)).alloc (.cells #[.slice none 0 0] 24)) := by
  refine ⟨((Below.refl w.heap.size w).alloc (Nat.le_refl _) _).alloc (by simp) _, (Box1.new w _ _).alloc _, ?_⟩
  have := Box1.new (w.alloc (.cells #[V] 24)) 24 (.slice none 0 0)
  simpa using this
theorem Two.up {w W W' : World} {V : Value} (h : Two w V W) (k : Below W.heap.size W W') : Two w V W' := ⟨h.bel.step1 k, h.a.up k, h.r.up k⟩
theorem Two.nil {w W : World} {V : Value} (h : Two w V W) (cd : Int) : ResS [] cd w (.returned (.tuple #[.agg #[.slice none 0 0], .int .i64 cd])) W :=
  ⟨_, fun _ => undef, rfl, ⟨World.ownsRow_nil _ _ _ _, fun i hi => absurd hi (Nat.not_lt_zero _)⟩, fun i j hi => absurd hi (Nat.not_lt_zero _), h.bel⟩

theorem specForm_no (X : Nat → List Int) (m : Nat) (hok : ¬ okSq X m) (V : Value) (w : World) (h : RdSS w V m X) : Calls Try.prog 13 #[.agg #[V]] w (ResS [] 1 w) := by
  have t2 := Try.underlying24
  obtain ⟨⟨a, cap, rfl⟩, _, _⟩ := id h
  have TW := Lib.hid (Two.start w (.slice a m cap))
  have IS := Lib.hid ((isS_no X m hok).1 _ _ (h.below TW.out.bel))
  clear h
  go_enter Try.func13, Try.ntmps13
  go_wp2_with fail
  refine IS.out.mono ?_
  rintro e w1 ⟨rfl, b1⟩
  have T1 := Lib.hid (TW.out.up b1)
  have c1 := T1.out.r.c
  have f1 := T1.out.r.fr 0
  have BX := Lib.hid (T1.out.r.set (.slice none 0 0))
  have BL := Lib.hid (T1.out.bel.setCell (p := ⟨w.heap.size + 1, 0, none⟩) (by simp) (.slice none 0 0))
  clear b1 IS TW
  go_wp2_with fail
  refine bodyPost_ret (results_box1_tmp rfl _ _ (w.heap.size + 1) _ _ rfl BX.out t2 (by kernel_rfl)) rfl ?_
  exact ⟨_, fun _ => undef, rfl, ⟨World.ownsRow_nil _ _ _ _, fun i hi => absurd hi (Nat.not_lt_zero _)⟩, fun i j hi => absurd hi (Nat.not_lt_zero _), BL.out⟩
theorem implForm_no (X : Nat → List Int) (m : Nat) (hok : ¬ okSq X m) (V : Value) (w : World) (h : RdSS w V m X) : Calls Try.prog 15 #[.agg #[V]] w (ResS [] 1 w) := by
  have t2 := Try.underlying24
  obtain ⟨⟨a, cap, rfl⟩, _, _⟩ := id h
  have TW := Lib.hid (Two.start w (.slice a m cap))
  have IS := Lib.hid ((isS_no X m hok).2 _ _ (h.below TW.out.bel))
  clear h
  go_enter Try.func15, Try.ntmps15
  go_wp2_with fail
  refine IS.out.mono ?_
  rintro e w1 ⟨rfl, b1⟩
  have T1 := Lib.hid (TW.out.up b1)
  have c1 := T1.out.r.c
  have f1 := T1.out.r.fr 0
  have BX := Lib.hid (T1.out.r.set (.slice none 0 0))
  have BL := Lib.hid (T1.out.bel.setCell (p := ⟨w.heap.size + 1, 0, none⟩) (by simp) (.slice none 0 0))
  clear b1 IS TW
  go_wp2_with fail
  refine bodyPost_ret (results_box1_tmp rfl _ _ (w.heap.size + 1) _ _ rfl BX.out t2 (by kernel_rfl)) rfl ?_
  exact ⟨_, fun _ => undef, rfl, ⟨World.ownsRow_nil _ _ _ _, fun i hi => absurd hi (Nat.not_lt_zero _)⟩, fun i j hi => absurd hi (Nat.not_lt_zero _), BL.out⟩

theorem specForm_ok (X : Nat → List Int) (m : Nat) (hok : okSq X m) (V : Value) (w : World) (h : RdSS w V m X) : Calls Try.prog 13 #[.agg #[V]] w (ResS (normL ((rowsL X m).flatMap formF)) 0 w) := by
  have t2 := Try.underlying24
  obtain ⟨⟨a, cap, rfl⟩, _, _⟩ := id h
  have TW := Lib.hid (Two.start w (.slice a m cap))
  have IS := Lib.hid ((isS_yes X m hok).1 _ _ (h.below TW.out.bel))
  have RD : Hid (∀ wx, Below w.heap.size w wx → Calls Try.prog 29 #[.slice a m cap] wx (FormPost ((rowsL X m).flatMap formF) wx)) := Lib.hid fun wx hb => l03Reduce_any _ m X wx (h.below hb) fun i hi => isW_LW (hok.2 i hi).1
  clear h
  go_enter Try.func13, Try.ntmps13
  go_wp2_with fail
  refine IS.out.mono ?_
  rintro e w1 ⟨rfl, b1⟩
  have T1 := Lib.hid (TW.out.up b1)
  have ca := T1.out.a.c
  clear b1 IS TW
  go_wp2_with fail
  refine (RD.out w1 T1.out.bel).mono ?_
  rintro e w2 ⟨U, US, zs, rfl, hL⟩
  obtain rfl := normL_eq hL.asc hL.mem
  obtain ⟨ua, uc, rfl, _, _⟩ := hL.fam.head
  have T2 := T1.out.up hL.bel
  have D := Lib.hid (resS_put hL.fam T1.out.bel.size T2.bel T2.r (by omega))
  have HS := Lib.hid hL.sep
  have c1 := T2.r.c
  have f1 := T2.r.fr 0
  clear hL T2 T1 ca RD
  go_wp2_with fail
  refine bodyPost_ret (results_box1_tmp rfl _ _ (w.heap.size + 1) _ _ rfl D.out.2.2 t2 (by kernel_rfl)) rfl ?_
  exact ⟨_, US, rfl, D.out.1, HS.out, D.out.2.1⟩

theorem implForm_ok (X : Nat → List Int) (m : Nat) (hok : okSq X m) (V : Value) (w : World) (h : RdSS w V m X) : Calls Try.prog 15 #[.agg #[V]] w (ResS (normL ((rowsL X m).flatMap formF)) 0 w) := by
  have t2 := Try.underlying24
  obtain ⟨⟨a, cap, rfl⟩, _, _⟩ := id h
  have TW := Lib.hid (Two.start w (.slice a m cap))
  have IS := Lib.hid ((isS_yes X m hok).2 _ _ (h.below TW.out.bel))
  have RW := Lib.hid h
  have HX : Hid (∀ i, i < m → LW (X i)) := Lib.hid fun i hi => isW_LW (hok.2 i hi).1
  have HD : Hid (∃ d : Int, (0 ≤ d ∧ d ≤ 40) ∧ ∀ i, i < m → (X i).sum = d) := Lib.hid (by
    by_cases h0 : m = 0
    · exact ⟨0, ⟨by omega, by omega⟩, fun i hi => absurd hi (by omega)⟩
    · have l0 := HX.out 0 (by omega)
      exact ⟨(X 0).sum, ⟨LW_sum l0.1, l0.2⟩, fun i hi => by have := (hok.2 i hi).2; rw [sumL_sum, sumL_sum] at this; exact this⟩)
  have hm : m ≤ 2000 := hok.1.1
  clear h
  go_enter Try.func15, Try.ntmps15
  go_wp2_with fail
  refine IS.out.mono ?_
  rintro e w1 ⟨rfl, b1⟩
  have T1 := Lib.hid (TW.out.up b1)
  have ca := T1.out.a.c
  have TD := Lib.hid (T1.out.up (Below.refl _ w1).drew)
  have NR := Lib.hid (newReducer_any w1.drew)
  obtain ⟨d, hd0, hd⟩ := HD.out
  have HD1 := Lib.hid hd
  clear b1 IS TW HD hd
  go_upto_region 3 with fail
  go_region_law (first
    | (go_simp; go_at_call 22; refine NR.out.mono ?_; rintro e w2 ⟨R, K, gk, gp, rfl, i2, b2, hk2, hp2⟩; have T2 := Lib.hid (TD.out.up b2); have ca2 := T2.out.a.c; have RD2 := Lib.hid (reduced_any R K gk gp _ m X w2 i2 (RW.out.below T2.out.bel) (by omega) HX.out d hd0 HD1.out))
    | (go_simp; go_at_call 23; refine RD2.out.mono ?_; rintro e w3 ⟨U, US, zs, rfl, f3, s3, a3, m3, _, kp3⟩; obtain rfl := normL_eq a3 m3; obtain ⟨ua, uc, rfl, _, _⟩ := f3.head; have r3 : Box1 w3 (w.heap.size + 1) 24 (.slice none 0 0) := (kp3.block _ T2.out.r.lt (by have := TD.out.r.lt; omega) (by have := TD.out.r.lt; omega)).trans T2.out.r; have D := Lib.hid (resS_put f3 T2.out.bel.size (T2.out.bel.trans (kp3.below (by have := TD.out.bel.size; omega) (by have := TD.out.bel.size; omega) T2.out.bel.size)) r3 (by omega)); have c3 := r3.c; have q3 := r3.fr 0))
  all_goals
    go_wp2_with fail
    refine bodyPost_ret (results_box1_tmp rfl _ _ (w.heap.size + 1) _ _ rfl D.out.2.2 t2 (by kernel_rfl)) rfl ?_
    exact ⟨_, US, rfl, D.out.1, s3, D.out.2.1⟩

theorem AdmissibleForm_both (X : Nat → List Int) (m : Nat) : ∃ (L : List (List Int)) (cd : Int), L.length ≤ 2000 ∧ (∀ i, (rowsOf L i).length ≤ 20) ∧
    (∀ V w, RdSS w V m X → Calls Try.prog 13 #[.agg #[V]] w (ResS L cd w)) ∧ (∀ V w, RdSS w V m X → Calls Try.prog 15 #[.agg #[V]] w (ResS L cd w)) := by
  by_cases hok : okSq X m
  · have hX : ∀ i, i < m → LW (X i) := fun i hi => isW_LW (hok.2 i hi).1
    have hF : ∀ d : Int, (∀ i, i < m → (X i).sum = d) → ∀ y ∈ (rowsL X m).flatMap formF, isAdm y ∧ y.sum = d := fun d hd y hy => by
      obtain ⟨x, hx, hy⟩ := List.mem_flatMap.1 hy
      obtain ⟨i, hi, rfl⟩ := mem_rowsL hx
      have := formF_ok _ (hX i hi) y hy
      exact ⟨this.1, this.2.trans (hd i hi)⟩
    have hl : (normL ((rowsL X m).flatMap formF)).length ≤ 100 ∧ ∀ i, (rowsOf (normL ((rowsL X m).flatMap formF)) i).length ≤ 20 := by
      by_cases h0 : m = 0
      · subst h0
        exact normL_few (d := 0) ⟨by omega, by omega⟩ (hF 0 fun i hi => absurd hi (Nat.not_lt_zero _))
      · have l0 := hX 0 (by omega)
        exact normL_few ⟨LW_sum l0.1, l0.2⟩ (hF (X 0).sum fun i hi => by have := (hok.2 i hi).2; rw [sumL_sum, sumL_sum] at this; exact this)
    exact ⟨_, 0, by have := hl.1; omega, hl.2, fun V w h => specForm_ok X m hok V w h, fun V w h => implForm_ok X m hok V w h⟩
  · exact ⟨[], 1, by simp, fun i => Nat.zero_le _, fun V w h => specForm_no X m hok V w h, fun V w h => implForm_no X m hok V w h⟩
end Go.Proofs.Ytgalfhdeldjmpaa
end
section
namespace Go.Proofs.Ytgalfhdeldjmpaa
open Go.RowKit
set_option linter.unusedVariables false
set_option maxRecDepth 100000

/-- The argument in its box. -/
structure Sq1 (w0 : World) (V0 : Value) (w : World) : Prop where
  bel : Below w0.heap.size w0 w
  boxA : Box1 w w0.heap.size 30 V0
section
variable {w0 w w' : World} {V0 : Value}
theorem Sq1.start (w : World) (V0 : Value) : Sq1 w V0 (w.alloc (.cells #[V0] 30)) := ⟨(Below.refl w.heap.size w).alloc (Nat.le_refl _) _, Box1.new w _ _⟩
theorem Sq1.up (h : Sq1 w0 V0 w) (k : Below w.heap.size w w') : Sq1 w0 V0 w' := ⟨h.bel.step1 k, h.boxA.up k⟩
theorem Sq1.alloc (h : Sq1 w0 V0 w) (o : Obj) : Sq1 w0 V0 (w.alloc o) := h.up ((Below.refl _ _).alloc (Nat.le_refl _) _)
theorem Sq1.rest {g' n : Nat} {V' : Value} {VB : Nat → Value} {Y : Nat → List Int} (h : Sq1 w0 V0 w) (k : OwnF w0 g' V' n VB Y w) (r : MRestK n VB w w') (b : Below w0.heap.size w w') : Sq1 w0 V0 w' :=
  ⟨h.bel.trans b, h.boxA.restK (B' := 0) (by decide) k.fam r⟩
end

set_option maxHeartbeats 4000000 in
theorem walk_FnExactAdmissibleForm (a0 : Option Addr) (m cap0 : Nat) (X : Nat → List Int) (w : World) (w0 : IsRows w a0 m cap0 X) :
    Calls Try.prog 4 #[.agg #[.slice a0 m cap0]] w fun e w' => e = .returned (.bool true) ∧ Below w.heap.size w w' := by
  have ha : RdSS w (.slice a0 m cap0) m X := w0
  clear w0
  have t1 := Try.underlying30
  have t2 := Try.underlying24
  have S1 : Hid (Sq1 w (.slice a0 m cap0) (w.alloc (.cells #[.slice a0 m cap0] 30))) := Lib.hid (Sq1.start _ _)
  have RA := Lib.hid ha
  clear ha
  by_cases hbig : m + tot X m ≤ 1048576
  · obtain ⟨l1, hl1⟩ : ∃ l1 : Nat, ((1048576 : Nat) : Int) - ((m + tot X m : Nat) : Int) = (l1 : Int) := ⟨1048576 - (m + tot X m), by omega⟩
    have SZ : Hid (∀ wx, Below w.heap.size w wx → Calls Try.prog 12 #[.agg #[.slice a0 m cap0], .int .i64 1048576] wx fun e w' => e = .returned (.int .i64 (l1 : Int)) ∧ Below wx.heap.size wx w') := Lib.hid fun wx hx => by
      have := szSquares_yes _ m X 1048576 wx (RA.out.below hx) (by omega) hbig
      rw [hl1] at this
      exact this
    have hge1 : ¬ (l1 : Int) < 0 := by omega
    have HX : Hid (∀ i, i < m → (X i).length ≤ 1048576) := Lib.hid (fun i hi => by have := tot_one X i m hi; omega)
    have hm : m ≤ 1048576 := by omega
    obtain ⟨L, cd, hL, hL20, SP, IM⟩ := AdmissibleForm_both X m
    have OX : Hid (off 1 (fun i => (X i).length) m ≤ 1152921504606846976) := Lib.hid (by rw [off_any]; omega)
    have OX0 : ¬ off 1 (fun i => (X i).length) m < 0 := by rw [off_any]; omega
    have OL : Hid (off 1 (fun i => (rowsOf L i).length) L.length ≤ 1152921504606846976) := Lib.hid (by rw [off_any]; have := tot_bound (rowsOf L) 20 L.length hL20; omega)
    have OL0 : ¬ off 1 (fun i => (rowsOf L i).length) L.length < 0 := by rw [off_any]; omega
    have SP := Lib.hid SP
    have IM := Lib.hid IM
    obtain ⟨kx, hkx⟩ : ∃ kx, off 1 (fun i => (X i).length) m = kx := ⟨_, rfl⟩
    rw [hkx] at OX0
    obtain ⟨kl, hkl⟩ : ∃ kl, off 1 (fun i => (rowsOf L i).length) L.length = kl := ⟨_, rfl⟩
    rw [hkl] at OL0
    have HKX := Lib.hid hkx
    have HKL := Lib.hid hkl
    clear hbig hl1 hkx hkl hL hL20
    go_enter Try.func4, Try.ntmps4
    go_wp2_with fail
    generalize (w.alloc (.cells #[.slice a0 m cap0] 30)) = w1 at *
    refine (SZ.out w1 S1.out.bel).mono ?_
    rintro e w2 ⟨rfl, b2⟩
    have S2 := Lib.hid (S1.out.up b2)
    have d0 := S2.out.boxA.c
    clear b2 S1
    go_wp2_with fail
    refine (toSquares_any _ m X w2 hm HX.out (RA.out.below S2.out.bel)).mono ?_
    rintro e w3 ⟨u3, us3, rfl, f3, b3, _⟩
    have S3 := Lib.hid (S2.out.up b3)
    have R3 := Lib.hid f3.rdss
    clear b3 f3 S2 d0
    go_wp2_with fail
    refine (SP.out _ w3 R3.out).mono ?_
    rintro e w4 ⟨v4, vs4, rfl, f4, s4, b4⟩
    obtain ⟨va4, vc4, rfl, _, _⟩ := f4.head
    have S4 := Lib.hid (S3.out.up b4)
    have P5 : Hid (OwnF w w4.heap.size (.slice va4 L.length vc4) L.length vs4 (rowsOf L) (w4.alloc (.cells #[.slice va4 L.length vc4] 24))) := Lib.hid (OwnF.start S4.out.bel.size (f4.base S3.out.bel.size) s4)
    have S5 := Lib.hid (S4.out.alloc (.cells #[.slice va4 L.length vc4] 24))
    clear f4 s4 b4 S3 S4 R3
    have d0 := S5.out.boxA.c
    go_wp2_with fail
    generalize w4.heap.size = g4 at *
    generalize w4.alloc (.cells #[.slice va4 L.length vc4] 24) = w5 at *
    refine (toSquares_any _ m X w5 hm HX.out (RA.out.below S5.out.bel)).mono ?_
    rintro e w6 ⟨u6, us6, rfl, f6, b6, s6⟩
    obtain ⟨ua6, uc6, rfl, _, _⟩ := f6.head
    have N46 := Lib.hid (fam_apart P5.out.fam f6)
    have S6 := Lib.hid (S5.out.up b6)
    have P7 := Lib.hid ((P5.out.up b6).alloc (.cells #[.slice ua6 m uc6] 24))
    have X7 : Hid (OwnF w w6.heap.size (.slice ua6 m uc6) m us6 X (w6.alloc (.cells #[.slice ua6 m uc6] 24))) := Lib.hid (OwnF.start S6.out.bel.size (f6.base S5.out.bel.size) s6)
    have S7 := Lib.hid (S6.out.alloc (.cells #[.slice ua6 m uc6] 24))
    clear f6 s6 b6 P5 S5 S6 d0
    have e0 := X7.out.box.c
    go_wp2_with fail
    generalize w6.heap.size = g6 at *
    generalize w6.alloc (.cells #[.slice ua6 m uc6] 24) = w7 at *
    refine (IM.out _ w7 X7.out.fam.rdss).mono ?_
    rintro e w8 ⟨v8, vs8, rfl, f8, s8, b8⟩
    obtain ⟨va8, vc8, rfl, _, _⟩ := f8.head
    have N48 := Lib.hid (fam_apart P7.out.fam f8)
    have N68 := Lib.hid (fam_apart X7.out.fam f8)
    have S8 := Lib.hid (S7.out.up b8)
    have P9 := Lib.hid ((P7.out.up b8).alloc (.cells #[.slice va8 L.length vc8] 24))
    have X9 := Lib.hid ((X7.out.up b8).alloc (.cells #[.slice va8 L.length vc8] 24))
    have V9 : Hid (OwnF w w8.heap.size (.slice va8 L.length vc8) L.length vs8 (rowsOf L) (w8.alloc (.cells #[.slice va8 L.length vc8] 24))) := Lib.hid (OwnF.start S8.out.bel.size (f8.base S7.out.bel.size) s8)
    have S9 := Lib.hid (S8.out.alloc (.cells #[.slice va8 L.length vc8] 24))
    clear f8 s8 b8 P7 X7 S7 S8 e0
    have d0 := P9.out.box.c
    have e0 := V9.out.box.c
    go_wp2_with fail
    generalize w8.heap.size = g8 at *
    generalize w8.alloc (.cells #[.slice va8 L.length vc8] 24) = w9 at *
    refine (eqSquares_same _ _ L.length _ _ _ _ (rowsOf L) w9 V9.out.fam P9.out.fam).mono ?_
    rintro e w10 ⟨rfl, b10⟩
    have S10 := Lib.hid (S9.out.up b10)
    have P10 := Lib.hid (P9.out.up b10)
    have X10 := Lib.hid (X9.out.up b10)
    have V10 := Lib.hid (V9.out.up b10)
    clear b10 S9 P9 X9 V9 d0 e0
    have RX := Lib.hid X10.out.fam
    have KEEP : Hid (∀ wx, Below w10.heap.size w10 wx → (wx.cell? ⟨g6, 0, none⟩ = some (.slice ua6 m uc6) ∧ wx.cell? ⟨w.heap.size, 0, none⟩ = some (.slice a0 m cap0) ∧ Below w10.heap.size w10 wx)) :=
      Lib.hid (fun wx hb => ⟨(X10.out.box.up hb).c, (S10.out.boxA.up hb).c, hb⟩)
    go_wp2_with fail
    go_region_held3 (fun wx => wx.cell? ⟨g6, 0, none⟩ = some (.slice ua6 m uc6) ∧ wx.cell? ⟨w.heap.size, 0, none⟩ = some (.slice a0 m cap0) ∧ Below w10.heap.size w10 wx)
      (first | exact KEEP.out _ (Below.refl _ _).drew | exact KEEP.out _ (by assumption))
      (first | (go_at_call 14; refine (toSquares_any _ m X _ hm HX.out ((RA.out.below S10.out.bel).drewN 1)).mono ?_; rintro e wt ⟨ut, ust, rfl, ft, bt, _⟩; have qt := (RX.out.drewN 1).below bt; have zt := belD1 bt) | (go_at_call 9; refine (eqSquares_same _ _ m _ _ _ _ X _ qt ft).mono ?_; rintro e w11 ⟨rfl, bu⟩; have Zu := zt.step1 bu))
    have S11 := Lib.hid (S10.out.up Zu)
    have P11 := Lib.hid (P10.out.up Zu)
    have X11 := Lib.hid (X10.out.up Zu)
    have V11 := Lib.hid (V10.out.up Zu)
    clear Zu zt bt bu qt ft S10 P10 X10 V10 RX KEEP
    have e0 := X11.out.box.c
    go_wp2_with fail
    refine (markSquares_from 1 (by omega) _ m w.heap.size us6 X w11 X11.out.fam X11.out.sep S11.out.bel.size OX.out).mono ?_
    rintro e w12 ⟨rfl, _, k12, r12⟩
    have S12 := Lib.hid (S11.out.rest X11.out r12 k12)
    have P12 := Lib.hid (P11.out.rest X11.out r12 N46.out)
    have V12 := Lib.hid (V11.out.rest X11.out r12 N68.out.symm)
    rw [HKX.out]
    clear S11 P11 X11 V11 k12 r12 e0
    have d0 := P12.out.box.c
    have e0 := V12.out.box.c
    go_wp2_with fail
    refine (eqSquares_same _ _ L.length _ _ _ _ (rowsOf L) w12 V12.out.fam P12.out.fam).mono ?_
    rintro e w13 ⟨rfl, b13⟩
    have S13 := Lib.hid (S12.out.up b13)
    have P13 := Lib.hid (P12.out.up b13)
    have V13 := Lib.hid (V12.out.up b13)
    clear b13 S12 P12 V12 d0 e0
    have e0 := V13.out.box.c
    go_wp2_with fail
    refine (markSquares_from 1 (by omega) _ L.length w.heap.size vs8 (rowsOf L) w13 V13.out.fam V13.out.sep S13.out.bel.size OL.out).mono ?_
    rintro e w14 ⟨rfl, m14, k14, r14⟩
    have S14 := Lib.hid (S13.out.rest V13.out r14 k14)
    have P14 := Lib.hid (P13.out.rest V13.out r14 N48.out)
    have V14 := Lib.hid (V13.out.box.restK (B' := 0) (by decide) V13.out.fam r14)
    have W14 := Lib.hid m14
    rw [HKL.out]
    clear S13 P13 V13 m14 k14 r14 e0
    have e0 := V14.out.c
    go_wp2_with fail
    refine (heldSquares_own _ L.length w.heap.size vs8 (rowsOf L) w14 W14.out OL.out).mono ?_
    rintro e w15 ⟨rfl, b15⟩
    have S15 := Lib.hid (S14.out.up b15)
    have P15 := Lib.hid (P14.out.up b15)
    have V15 := Lib.hid (V14.out.up b15)
    have W15 := Lib.hid (W14.out.below b15)
    rw [HKL.out]
    clear S14 P14 V14 W14 b15 e0
    have d0 := S15.out.boxA.c
    go_wp2_with fail
    refine (toSquares_any _ m X w15 hm HX.out (RA.out.below S15.out.bel)).mono ?_
    rintro e w16 ⟨u16, us16, rfl, f16, b16, _⟩
    have S16 := Lib.hid (S15.out.up b16)
    have P16 := Lib.hid (P15.out.up b16)
    have V16 := Lib.hid (V15.out.up b16)
    have W16 := Lib.hid (W15.out.below b16)
    have R16 := Lib.hid f16.rdss
    clear b16 f16 S15 P15 V15 W15 d0
    go_wp2_with fail
    refine (IM.out _ w16 R16.out).mono ?_
    rintro e w17 ⟨v17, vs17, rfl, f17, s17, b17⟩
    obtain ⟨va17, vc17, rfl, _, _⟩ := f17.head
    have S17 := Lib.hid (S16.out.up b17)
    have P18 := Lib.hid ((P16.out.up b17).alloc (.cells #[.slice va17 L.length vc17] 24))
    have V18 := Lib.hid ((V16.out.up b17).alloc (.cells #[.slice va17 L.length vc17] 24))
    have W18 := Lib.hid ((W16.out.below b17).below ((Below.refl w17.heap.size w17).alloc (Nat.le_refl _) (.cells #[.slice va17 L.length vc17] 24)))
    have Q18 : Hid (OwnF w w17.heap.size (.slice va17 L.length vc17) L.length vs17 (rowsOf L) (w17.alloc (.cells #[.slice va17 L.length vc17] 24))) := Lib.hid (OwnF.start S17.out.bel.size (f17.base S16.out.bel.size) s17)
    have S18 := Lib.hid (S17.out.alloc (.cells #[.slice va17 L.length vc17] 24))
    clear f17 s17 b17 P16 V16 W16 S16 S17 R16
    have d0 := P18.out.box.c
    have e0 := Q18.out.box.c
    go_wp2_with fail
    generalize w17.heap.size = g17 at *
    generalize w17.alloc (.cells #[.slice va17 L.length vc17] 24) = w18 at *
    refine (eqSquares_same _ _ L.length _ _ _ _ (rowsOf L) w18 Q18.out.fam P18.out.fam).mono ?_
    rintro e w19 ⟨rfl, b19⟩
    have V19 := Lib.hid (V18.out.up b19)
    have W19 := Lib.hid (W18.out.below b19)
    have B19 := Lib.hid (S18.out.bel.step1 b19)
    clear b19 P18 Q18 V18 W18 S18 d0 e0
    have e0 := V19.out.c
    go_wp2_with fail
    refine (heldSquares_own _ L.length w.heap.size vs8 (rowsOf L) w19 W19.out OL.out).mono ?_
    rintro e w20 ⟨rfl, b20⟩
    have B20 := Lib.hid (B19.out.step1 b20)
    rw [HKL.out]
    go_wp2_with fail
    go_ret
    exact ⟨rfl, B20.out⟩
  · have SZ : Hid (∀ wx, Below w.heap.size w wx → Calls Try.prog 12 #[.agg #[.slice a0 m cap0], .int .i64 1048576] wx fun e w' => e = .returned (.int .i64 (-1)) ∧ Below wx.heap.size wx w') := Lib.hid fun wx hx =>
      szSquares_over _ m X 1048576 wx (RA.out.below hx) (by omega) (by omega)
    clear hbig
    go_enter Try.func4, Try.ntmps4
    go_wp2_with fail
    generalize (w.alloc (.cells #[.slice a0 m cap0] 30)) = w1 at *
    refine (SZ.out w1 S1.out.bel).mono ?_
    rintro e w2 ⟨rfl, b2⟩
    have S2 := Lib.hid (S1.out.up b2)
    clear b2 S1
    go_wp2_with fail
    go_ret
    exact ⟨rfl, S2.out.bel⟩
end Go.Proofs.Ytgalfhdeldjmpaa
end
