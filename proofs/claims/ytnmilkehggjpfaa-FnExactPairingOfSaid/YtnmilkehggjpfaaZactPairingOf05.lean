/-
  Joined: LFnExactPairingOf.
-/
import Derived.Test.YtnmilkehggjpfaaZactPairingOf04
import Derived.Test.YtnmilkehggjpfaaZactPairingOf01
import Derived.Deep.RegionHeld3
section
namespace Go.Proofs.Ytnmilkehggjpfaa.Dl
open Go.RowKit Go.Proofs.Ytnmilkehggjpfaa.Ml
set_option linter.unusedVariables false
set_option maxRecDepth 100000

/-- The two arguments in their boxes. -/
structure Md2 (w0 : World) (V0 V1 : Value) (w : World) : Prop where
  bel : Below w0.heap.size w0 w
  boxA : Box1 w w0.heap.size 41 V0
  boxB : Box1 w (w0.heap.size + 1) 24 V1
section
variable {w0 w w' : World} {V0 V1 V : Value} {g m : Nat} {VS : Nat → Value} {X : Nat → List Int}
theorem Md2.start (w : World) (V0 V1 : Value) : Md2 w V0 V1 ((w.alloc (.cells #[V0] 41)).alloc (.cells #[V1] 24)) := by
  refine ⟨((Below.refl w.heap.size w).alloc (Nat.le_refl _) _).alloc (by simp) _, (Box1.new w _ _).alloc _, ?_⟩
  have := Box1.new (w.alloc (.cells #[V0] 41)) 24 V1
  simpa using this
theorem Md2.up (h : Md2 w0 V0 V1 w) (k : Below w.heap.size w w') : Md2 w0 V0 V1 w' := ⟨h.bel.step1 k, h.boxA.up k, h.boxB.up k⟩
/-- A struct that the law holds. -/
structure HeldD (t : TypeId) (g : Nat) (V : Value) (m : Nat) (VS : Nat → Value) (X : Nat → List Int) (w : World) : Prop where
  fam : Fam w 0 V m VS X
  box : Box1 w g t V
theorem HeldD.up {t : TypeId} (h : HeldD t g V m VS X w) (k : Below w.heap.size w w') : HeldD t g V m VS X w' := ⟨h.fam.below k, h.box.up k⟩
theorem HeldD.start {t : TypeId} (h : Fam w 0 V m VS X) : HeldD t w.heap.size V m VS X (w.alloc (.cells #[V] t)) := ⟨h.below ((Below.refl _ _).alloc (Nat.le_refl _) _), Box1.new _ _ _⟩
end

set_option maxHeartbeats 4000000 in
theorem walk_FnExactPairingOf (a0 : Option Addr) (m cap0 : Nat) (X : Nat → List Int) (a1 : Option Addr) (n cap1 : Nat) (Y : Nat → List Int) (w : World) (w0 : IsRows w a0 m cap0 X) (w1 : IsRows w a1 n cap1 Y) :
    Calls Try.prog 6 #[.agg #[.slice a0 m cap0], .agg #[.slice a1 n cap1]] w fun e w' => e = .returned (.bool true) ∧ Below w.heap.size w w' := by
  have ha : RdSS w (.slice a0 m cap0) m X := w0
  have hb : RdSS w (.slice a1 n cap1) n Y := w1
  clear w0 w1
  have t1 := Try.underlying41
  have t2 := Try.underlying45
  have t3 := Try.underlying24
  have t4 := Try.underlying27
  have S1 : Hid (Md2 w (.slice a0 m cap0) (.slice a1 n cap1) ((w.alloc (.cells #[.slice a0 m cap0] 41)).alloc (.cells #[.slice a1 n cap1] 24))) := Lib.hid (Md2.start _ _ _)
  have RA := Lib.hid ha
  have RB := Lib.hid hb
  clear ha hb
  by_cases hbig : m + tot X m ≤ 1048576
  · obtain ⟨l1, hl1⟩ : ∃ l1 : Nat, ((1048576 : Nat) : Int) - ((m + tot X m : Nat) : Int) = (l1 : Int) := ⟨1048576 - (m + tot X m), by omega⟩
    have SZ : Hid (∀ wx, Below w.heap.size w wx → Calls Try.prog 25 #[.agg #[.slice a0 m cap0], .int .i64 1048576] wx fun e w' => e = .returned (.int .i64 (l1 : Int)) ∧ Below wx.heap.size wx w') := Lib.hid fun wx hx => by
      have := szMilnor_yes _ m X 1048576 wx (RA.out.below hx) (by omega) hbig
      rw [hl1] at this
      exact this
    have hge1 : ¬ (l1 : Int) < 0 := by omega
    by_cases hbig1 : n + tot Y n ≤ l1
    · have SZ1 : Hid (∀ wx, Below w.heap.size w wx → Calls Try.prog 11 #[.agg #[.slice a1 n cap1], .int .i64 (l1 : Int)] wx fun e w' => e = .returned (.int .i64 ((l1 : Int) - ((n + tot Y n : Nat) : Int))) ∧ Below wx.heap.size wx w') := Lib.hid fun wx hx =>
        szDual_yes _ n Y l1 wx (RB.out.below hx) (by omega) hbig1
      have hge : ¬ (l1 : Int) - ((n + tot Y n : Nat) : Int) < 0 := by omega
      have HX : Hid (∀ i, i < m → (X i).length ≤ 1048576) := Lib.hid (fun i hi => by have := tot_one X i m hi; omega)
      have HY : Hid (∀ i, i < n → (Y i).length ≤ 1048576) := Lib.hid (fun i hi => by have := tot_one Y i n hi; omega)
      have hm : m ≤ 1048576 := by omega
      have hn : n ≤ 1048576 := by omega
      obtain ⟨x, cd, SP, IM⟩ := PairingOf_both m n X Y
      generalize (l1 : Int) - ((n + tot Y n : Nat) : Int) = lf at SZ1 hge
      have SP := Lib.hid SP
      have IM := Lib.hid IM
      clear hbig hbig1 hl1
      go_enter Try.func6, Try.ntmps6
      go_wp2_with fail
      generalize ((w.alloc (.cells #[.slice a0 m cap0] 41)).alloc (.cells #[.slice a1 n cap1] 24)) = w1 at *
      refine (SZ.out w1 S1.out.bel).mono ?_
      rintro e w2 ⟨rfl, b2⟩
      have S2 := Lib.hid (S1.out.up b2)
      have d0 := S2.out.boxB.c
      clear b2 S1
      go_wp2_with fail
      refine (SZ1.out w2 S2.out.bel).mono ?_
      rintro e w3 ⟨rfl, b3⟩
      have S3 := Lib.hid (S2.out.up b3)
      clear b3 S2 d0
      have KEEP : Hid (∀ wx, Below w3.heap.size w3 wx → (wx.cell? ⟨w.heap.size, 0, none⟩ = some (.slice a0 m cap0) ∧ wx.cell? ⟨w.heap.size + 1, 0, none⟩ = some (.slice a1 n cap1) ∧ Below w3.heap.size w3 wx)) :=
        Lib.hid (fun wx hb => ⟨(S3.out.boxA.up hb).c, (S3.out.boxB.up hb).c, hb⟩)
      have z0 : Below w3.heap.size w3 w3.drew := (Below.refl _ _).drew
      go_wp2_with fail
      go_region_held3 (fun wx => wx.cell? ⟨w.heap.size, 0, none⟩ = some (.slice a0 m cap0) ∧ wx.cell? ⟨w.heap.size + 1, 0, none⟩ = some (.slice a1 n cap1) ∧ Below w3.heap.size w3 wx)
        (first | exact KEEP.out _ (Below.refl _ _).drew | exact KEEP.out _ (by assumption))
        (first
          | (go_at_call 27; refine (toMilnor_any _ m X _ hm HX.out (RA.out.below (Below.step1 S3.out.bel z0))).mono ?_; rintro e wA ⟨uA, usA, rfl, fA, bA, _⟩; have zA := z0.step1 bA)
          | (go_at_call 13; refine (toDual_any _ n Y _ hn HY.out (RB.out.below (Below.step1 S3.out.bel zA))).mono ?_; rintro e wB ⟨uB, usB, rfl, fB, bB, _⟩; have rA := fA.below bB; have zB := zA.step1 bB)
          | (go_at_call 26; refine (SP.out uA uB _ rA.rdss fB.rdss).mono ?_; rintro e wC ⟨rfl, bC⟩; have zC := zB.step1 bC))
      have S4 := Lib.hid (S3.out.up zC)
      clear S3 KEEP
      have d0 := S4.out.boxA.c
      go_wp2_with fail
      refine (toMilnor_any _ m X wC hm HX.out (RA.out.below S4.out.bel)).mono ?_
      rintro e w5 ⟨u5, us5, rfl, f5, b5, _⟩
      obtain ⟨ua5, uc5, rfl, _⟩ := f5.head
      have H6 : Hid (HeldD 45 w5.heap.size (.slice ua5 m uc5) m us5 X (w5.alloc (.cells #[.slice ua5 m uc5] 45))) := Lib.hid (HeldD.start (f5.base (Nat.zero_le _)))
      have S6 := Lib.hid ((S4.out.up b5).up ((Below.refl w5.heap.size w5).alloc (Nat.le_refl _) (.cells #[.slice ua5 m uc5] 45)))
      clear f5 b5 S4 d0 fA fB rA
      have d1 := S6.out.boxB.c
      go_wp2_with fail
      generalize w5.heap.size = g6 at *
      generalize (w5.alloc (.cells #[.slice ua5 m uc5] 45)) = w6 at *
      refine (toDual_any _ n Y w6 hn HY.out (RB.out.below S6.out.bel)).mono ?_
      rintro e w7 ⟨u7, us7, rfl, f7, b7, _⟩
      obtain ⟨ua7, uc7, rfl, _⟩ := f7.head
      have c8 : Below w7.heap.size w7 (w7.alloc (.cells #[.slice ua7 n uc7] 27)) := (Below.refl w7.heap.size w7).alloc (Nat.le_refl _) _
      have G8 : Hid (HeldD 27 w7.heap.size (.slice ua7 n uc7) n us7 Y (w7.alloc (.cells #[.slice ua7 n uc7] 27))) := Lib.hid (HeldD.start (f7.base (Nat.zero_le _)))
      have H8 := Lib.hid ((H6.out.up b7).up c8)
      have S8 := Lib.hid ((S6.out.up b7).up c8)
      clear f7 b7 c8 S6 H6 d1
      have d0 := H8.out.box.c
      go_wp2_with fail
      generalize w7.heap.size = g8 at *
      generalize (w7.alloc (.cells #[.slice ua7 n uc7] 27)) = w8 at *
      refine (IM.out _ _ w8 H8.out.fam.rdss G8.out.fam.rdss).mono ?_
      rintro e w9 ⟨rfl, b9⟩
      have H9 := Lib.hid (H8.out.up b9)
      have G9 := Lib.hid (G8.out.up b9)
      have S9 := Lib.hid (S8.out.up b9)
      clear b9 H8 G8 S8 d0
      have hx1 : (x != x) = false := bne_self_eq_false _
      have hx2 : (cd != cd) = false := bne_self_eq_false _
      have KEEP : Hid (∀ wx, Below w9.heap.size w9 wx → (wx.cell? ⟨g6, 0, none⟩ = some (.slice ua5 m uc5) ∧ wx.cell? ⟨w.heap.size, 0, none⟩ = some (.slice a0 m cap0) ∧ Below w9.heap.size w9 wx)) :=
        Lib.hid (fun wx hb => ⟨(H9.out.box.up hb).c, (S9.out.boxA.up hb).c, hb⟩)
      have y0 : Below w9.heap.size w9 w9.drew := (Below.refl _ _).drew
      go_wp2_with fail
      go_region_held3 (fun wx => wx.cell? ⟨g6, 0, none⟩ = some (.slice ua5 m uc5) ∧ wx.cell? ⟨w.heap.size, 0, none⟩ = some (.slice a0 m cap0) ∧ Below w9.heap.size w9 wx)
        (first | exact KEEP.out _ (Below.refl _ _).drew | exact KEEP.out _ (by assumption))
        (first | (go_at_call 27; refine (toMilnor_any _ m X _ hm HX.out (RA.out.below (Below.step1 S9.out.bel y0))).mono ?_; rintro e wD ⟨uD, usD, rfl, fD, bD, _⟩; have qD := (H9.out.fam.below y0).below bD; have yD := y0.step1 bD) | (go_at_call 29; refine (eqMilnor_same _ _ m _ _ _ _ _ _ qD fD).mono ?_; rintro e wE ⟨rfl, bE⟩; have yE := yD.step1 bE))
      have G10 := Lib.hid (G9.out.up yE)
      have S10 := Lib.hid (S9.out.up yE)
      clear H9 G9 S9 KEEP
      have KEEP : Hid (∀ wx, Below wE.heap.size wE wx → (wx.cell? ⟨g8, 0, none⟩ = some (.slice ua7 n uc7) ∧ wx.cell? ⟨w.heap.size + 1, 0, none⟩ = some (.slice a1 n cap1) ∧ Below wE.heap.size wE wx)) :=
        Lib.hid (fun wx hb => ⟨(G10.out.box.up hb).c, (S10.out.boxB.up hb).c, hb⟩)
      have x0 : Below wE.heap.size wE wE.drew := (Below.refl _ _).drew
      go_wp2_with fail
      go_region_held3 (fun wx => wx.cell? ⟨g8, 0, none⟩ = some (.slice ua7 n uc7) ∧ wx.cell? ⟨w.heap.size + 1, 0, none⟩ = some (.slice a1 n cap1) ∧ Below wE.heap.size wE wx)
        (first | exact KEEP.out _ (Below.refl _ _).drew | exact KEEP.out _ (by assumption))
        (first | (go_at_call 13; refine (toDual_any _ n Y _ hn HY.out (RB.out.below (Below.step1 S10.out.bel x0))).mono ?_; rintro e wF ⟨uF, usF, rfl, fF, bF, _⟩; have qF := (G10.out.fam.below x0).below bF; have xF := x0.step1 bF) | (go_at_call 15; refine (eqDual_same _ _ n _ _ _ _ _ _ qF fF).mono ?_; rintro e wG ⟨rfl, bG⟩; have xG := xF.step1 bG))
      have S11 := Lib.hid (S10.out.up xG)
      go_wp2_with fail
      go_ret
      exact ⟨rfl, S11.out.bel⟩
    · have SZ1 : Hid (∀ wx, Below w.heap.size w wx → Calls Try.prog 11 #[.agg #[.slice a1 n cap1], .int .i64 (l1 : Int)] wx fun e w' => e = .returned (.int .i64 (-1)) ∧ Below wx.heap.size wx w') := Lib.hid fun wx hx =>
        szDual_over _ n Y l1 wx (RB.out.below hx) (by omega) (by omega)
      clear hbig hbig1 hl1
      go_enter Try.func6, Try.ntmps6
      go_wp2_with fail
      generalize ((w.alloc (.cells #[.slice a0 m cap0] 41)).alloc (.cells #[.slice a1 n cap1] 24)) = w1 at *
      refine (SZ.out w1 S1.out.bel).mono ?_
      rintro e w2 ⟨rfl, b2⟩
      have S2 := Lib.hid (S1.out.up b2)
      have d0 := S2.out.boxB.c
      clear b2 S1
      go_wp2_with fail
      refine (SZ1.out w2 S2.out.bel).mono ?_
      rintro e w3 ⟨rfl, b3⟩
      have S3 := Lib.hid (S2.out.up b3)
      go_wp2_with fail
      go_ret
      exact ⟨rfl, S3.out.bel⟩
  · have SZ : Hid (∀ wx, Below w.heap.size w wx → Calls Try.prog 25 #[.agg #[.slice a0 m cap0], .int .i64 1048576] wx fun e w' => e = .returned (.int .i64 (-1)) ∧ Below wx.heap.size wx w') := Lib.hid fun wx hx =>
      szMilnor_over _ m X 1048576 wx (RA.out.below hx) (by omega) (by omega)
    clear hbig
    go_enter Try.func6, Try.ntmps6
    go_wp2_with fail
    generalize ((w.alloc (.cells #[.slice a0 m cap0] 41)).alloc (.cells #[.slice a1 n cap1] 24)) = w1 at *
    refine (SZ.out w1 S1.out.bel).mono ?_
    rintro e w2 ⟨rfl, b2⟩
    have S2 := Lib.hid (S1.out.up b2)
    go_wp2_with fail
    go_ret
    exact ⟨rfl, S2.out.bel⟩
end Go.Proofs.Ytnmilkehggjpfaa.Dl
end
