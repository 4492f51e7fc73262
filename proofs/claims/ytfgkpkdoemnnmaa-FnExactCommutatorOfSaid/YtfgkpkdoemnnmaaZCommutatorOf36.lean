/-
  Joined: PCode, PCodeI.
-/
import Derived.Test.YtfgkpkdoemnnmaaZCommutatorOf28
import Derived.Test.YtfgkpkdoemnnmaaZCommutatorOf35
import Derived.Deep.QuietTactic
import Derived.BigQuiet
import Derived.Test.YtfgkpkdoemnnmaaZCommutatorOf25
section
namespace Go.Proofs.Ytfgkpkdoemnnmaa.Ml
open Go.RowKit
set_option linter.unusedVariables false
set_option maxRecDepth 100000

def SaysI (x : Int) (w : World) (e : Ending) (w' : World) : Prop := e = .returned (.int .i64 x) ∧ Below w.heap.size w w'
abbrev IsS (r : Bool) (a : Option Addr) (m cap : Nat) (w : World) : Prop := Hid (∀ wx, Below w.heap.size w wx → Calls Try.prog 56 #[.agg #[.slice a m cap]] wx (SaysB r wx))
abbrev IsI (r : Bool) (a : Option Addr) (m cap : Nat) (w : World) : Prop := Hid (∀ wx, Below w.heap.size w wx → Calls Try.prog 59 #[.agg #[.slice a m cap]] wx (SaysB r wx))

theorem specCode_bad1 (aa ab : Option Addr) (m n ca cb : Nat) (w : World) (A : IsS false aa m ca w) : Calls Try.prog 46 #[.agg #[.slice aa m ca], .agg #[.slice ab n cb]] w (SaysI 1 w) := by
  have t2 := Try.underlying26
  obtain ⟨w1, hw1⟩ : ∃ w1, w1 = ((w.alloc (.cells #[.slice aa m ca] 26)).alloc (.cells #[.slice ab n cb] 26)) := ⟨_, rfl⟩
  have T1 : Hid (Two w (.slice aa m ca) (.slice ab n cb) w1) := Lib.hid (by rw [hw1]; exact Two.start _ _ _)
  go_enter Try.func46, Try.ntmps46
  go_wp2_with fail
  rw [← hw1]
  clear hw1
  have d0 := T1.out.bA.c
  go_wp2_with fail
  refine (A.out w1 T1.out.bel).mono ?_
  rintro e w2 ⟨rfl, b2⟩
  have B2 := Lib.hid (T1.out.bel.step1 b2)
  clear b2 T1 d0
  go_wp2_with fail
  go_ret
  exact ⟨rfl, B2.out⟩
theorem specCode_bad2 (aa ab : Option Addr) (m n ca cb : Nat) (w : World) (A : IsS true aa m ca w) (B : IsS false ab n cb w) : Calls Try.prog 46 #[.agg #[.slice aa m ca], .agg #[.slice ab n cb]] w (SaysI 1 w) := by
  have t2 := Try.underlying26
  obtain ⟨w1, hw1⟩ : ∃ w1, w1 = ((w.alloc (.cells #[.slice aa m ca] 26)).alloc (.cells #[.slice ab n cb] 26)) := ⟨_, rfl⟩
  have T1 : Hid (Two w (.slice aa m ca) (.slice ab n cb) w1) := Lib.hid (by rw [hw1]; exact Two.start _ _ _)
  go_enter Try.func46, Try.ntmps46
  go_wp2_with fail
  rw [← hw1]
  clear hw1
  have d0 := T1.out.bA.c
  go_wp2_with fail
  refine (A.out w1 T1.out.bel).mono ?_
  rintro e w2 ⟨rfl, b2⟩
  have d1 := (T1.out.bB.up b2).c
  have B2 := Lib.hid (T1.out.bel.step1 b2)
  clear b2 T1 d0
  go_wp2_with fail
  refine (B.out w2 B2.out).mono ?_
  rintro e w3 ⟨rfl, b3⟩
  have B3 := Lib.hid (B2.out.step1 b3)
  clear b3 d1
  go_wp2_with fail
  go_ret
  exact ⟨rfl, B3.out⟩
/-- Both are elements: the boxes behind the two tests. -/
theorem specCode_0 (aa ab : Option Addr) (m n ca cb : Nat) (w : World) (A : IsS true aa m ca w) (B : IsS true ab n cb w) (h : m = 0 ∨ n = 0) : Calls Try.prog 46 #[.agg #[.slice aa m ca], .agg #[.slice ab n cb]] w (SaysI 0 w) := by
  have t2 := Try.underlying26
  obtain ⟨w1, hw1⟩ : ∃ w1, w1 = ((w.alloc (.cells #[.slice aa m ca] 26)).alloc (.cells #[.slice ab n cb] 26)) := ⟨_, rfl⟩
  have T1 : Hid (Two w (.slice aa m ca) (.slice ab n cb) w1) := Lib.hid (by rw [hw1]; exact Two.start _ _ _)
  have hcase : m = 0 ∨ ((decide (0 < m) = true) ∧ n = 0) := by
    by_cases c : m = 0
    · exact .inl c
    · exact .inr ⟨decide_eq_true (by omega), by omega⟩
  clear h
  have hz0 : decide ((0 : Int) < 0) = false := rfl
  rcases hcase with rfl | ⟨hm, rfl⟩
  all_goals
    go_enter Try.func46, Try.ntmps46
    go_wp2_with fail
    rw [← hw1]
    clear hw1
    have d0 := T1.out.bA.c
    go_wp2_with fail
    refine (A.out w1 T1.out.bel).mono ?_
    rintro e w2 ⟨rfl, b2⟩
    have d1 := (T1.out.bB.up b2).c
    have d0' := (T1.out.bA.up b2)
    have d1' := (T1.out.bB.up b2)
    have B2 := Lib.hid (T1.out.bel.step1 b2)
    clear b2 T1 d0
    go_wp2_with fail
    refine (B.out w2 B2.out).mono ?_
    rintro e w3 ⟨rfl, b3⟩
    have B3 := Lib.hid (B2.out.step1 b3)
    have c0 := (d0'.up b3).c
    have c1 := (d1'.up b3).c
    clear b3 d1 d0' d1'
    go_wp2_with fail
    go_quiet (fail)
    go_wp2_with fail
    go_ret
    exact ⟨rfl, below_drewN B3.out _⟩
theorem specCode_2 (m n ca cb : Nat) (w : World) (b1 o1 b2 o2 : Nat) (v1 v2 : Value) (x y : Int) (A : IsS true (some ⟨b1, o1, none⟩) m ca w) (B : IsS true (some ⟨b2, o2, none⟩) n cb w) (k1 : w.cell? ⟨b1, o1, none⟩ = some v1) (k2 : w.cell? ⟨b2, o2, none⟩ = some v2) (hx : DegE w v1 x) (hy : DegE w v2 y) (hm : 0 < m) (hn : 0 < n)
    (x0 : 0 ≤ x ∧ x ≤ 40) (y0 : 0 ≤ y ∧ y ≤ 40) : Calls Try.prog 46 #[.agg #[.slice (some ⟨b1, o1, none⟩) m ca], .agg #[.slice (some ⟨b2, o2, none⟩) n cb]] w (SaysI (if 40 < x + y then 3 else 0) w) := by
  have t2 := Try.underlying26
  obtain ⟨w1, hw1⟩ : ∃ w1, w1 = ((w.alloc (.cells #[.slice (some ⟨b1, o1, none⟩) m ca] 26)).alloc (.cells #[.slice (some ⟨b2, o2, none⟩) n cb] 26)) := ⟨_, rfl⟩
  have T1 : Hid (Two w (.slice (some ⟨b1, o1, none⟩) m ca) (.slice (some ⟨b2, o2, none⟩) n cb) w1) := Lib.hid (by rw [hw1]; exact Two.start _ _ _)
  have hm' : (0 : Int) < (m : Int) := by omega
  have hn' : (0 : Int) < (n : Int) := by omega
  have hmd : decide (0 < m) = true := decide_eq_true hm
  have hnd : decide (0 < n) = true := decide_eq_true hn
  have K1 := Lib.hid k1
  have K2 := Lib.hid k2
  have HX := Lib.hid hx
  have HY := Lib.hid hy
  have hw : wrap64 (x + y) = x + y := by unfold wrap64; omega
  obtain ⟨r, hr⟩ : ∃ r, decide (40 < x + y) = r := ⟨_, rfl⟩
  have HR : Hid ((if 40 < x + y then (3 : Int) else 0) = if r = true then 3 else 0) := Lib.hid (by rw [← hr]; simp)
  rw [HR.out]
  clear k1 k2 hx hy hm hn HR
  cases r
  all_goals
    go_enter Try.func46, Try.ntmps46
    go_wp2_with fail
    rw [← hw1]
    clear hw1
    have d0 := T1.out.bA.c
    go_wp2_with fail
    refine (A.out w1 T1.out.bel).mono ?_
    rintro e w2 ⟨rfl, b2⟩
    have d1 := (T1.out.bB.up b2).c
    have d0' := (T1.out.bA.up b2)
    have d1' := (T1.out.bB.up b2)
    have B2 := Lib.hid (T1.out.bel.step1 b2)
    clear b2 T1 d0
    go_wp2_with fail
    refine (B.out w2 B2.out).mono ?_
    rintro e w3 ⟨rfl, b3⟩
    have B3 := Lib.hid (B2.out.step1 b3)
    have c0 := (d0'.up b3).c
    have c1 := (d1'.up b3).c
    have q1 : w3.cell? ⟨b1, o1, none⟩ = some v1 := (B3.out.cell (p := ⟨b1, o1, none⟩) (World.block_lt_of_cell? w _ K1.out)).trans K1.out
    have q2 : w3.cell? ⟨b2, o2, none⟩ = some v2 := (B3.out.cell (p := ⟨b2, o2, none⟩) (World.block_lt_of_cell? w _ K2.out)).trans K2.out
    have p1 : Hid (DegE w3 v1 x) := Lib.hid (HX.out.below B3.out)
    have p2 : Hid (DegE w3 v2 y) := Lib.hid (HY.out.below B3.out)
    clear b3 d1 d0' d1'
    go_wp2_with fail
    go_quiet ((go_at_call 58; exact Calls.quiet_of (l01Degree_is (by assumption) _)))
    go_wp2_with fail
    go_ret
    exact ⟨rfl, below_drewN B3.out _⟩
end Go.Proofs.Ytfgkpkdoemnnmaa.Ml
end
section
namespace Go.Proofs.Ytfgkpkdoemnnmaa.Ml
open Go.RowKit
set_option linter.unusedVariables false
set_option maxRecDepth 100000

theorem implCode_bad1 (aa ab : Option Addr) (m n ca cb : Nat) (w : World) (A : IsI false aa m ca w) : Calls Try.prog 49 #[.agg #[.slice aa m ca], .agg #[.slice ab n cb]] w (SaysI 1 w) := by
  have t2 := Try.underlying26
  obtain ⟨w1, hw1⟩ : ∃ w1, w1 = ((w.alloc (.cells #[.slice aa m ca] 26)).alloc (.cells #[.slice ab n cb] 26)) := ⟨_, rfl⟩
  have T1 : Hid (Two w (.slice aa m ca) (.slice ab n cb) w1) := Lib.hid (by rw [hw1]; exact Two.start _ _ _)
  go_enter Try.func49, Try.ntmps49
  go_wp2_with fail
  rw [← hw1]
  clear hw1
  have d0 := T1.out.bA.c
  go_wp2_with fail
  refine (A.out w1 T1.out.bel).mono ?_
  rintro e w2 ⟨rfl, b2⟩
  have B2 := Lib.hid (T1.out.bel.step1 b2)
  clear b2 T1 d0
  go_wp2_with fail
  go_ret
  exact ⟨rfl, B2.out⟩
theorem implCode_bad2 (aa ab : Option Addr) (m n ca cb : Nat) (w : World) (A : IsI true aa m ca w) (B : IsI false ab n cb w) : Calls Try.prog 49 #[.agg #[.slice aa m ca], .agg #[.slice ab n cb]] w (SaysI 1 w) := by
  have t2 := Try.underlying26
  obtain ⟨w1, hw1⟩ : ∃ w1, w1 = ((w.alloc (.cells #[.slice aa m ca] 26)).alloc (.cells #[.slice ab n cb] 26)) := ⟨_, rfl⟩
  have T1 : Hid (Two w (.slice aa m ca) (.slice ab n cb) w1) := Lib.hid (by rw [hw1]; exact Two.start _ _ _)
  go_enter Try.func49, Try.ntmps49
  go_wp2_with fail
  rw [← hw1]
  clear hw1
  have d0 := T1.out.bA.c
  go_wp2_with fail
  refine (A.out w1 T1.out.bel).mono ?_
  rintro e w2 ⟨rfl, b2⟩
  have d1 := (T1.out.bB.up b2).c
  have B2 := Lib.hid (T1.out.bel.step1 b2)
  clear b2 T1 d0
  go_wp2_with fail
  refine (B.out w2 B2.out).mono ?_
  rintro e w3 ⟨rfl, b3⟩
  have B3 := Lib.hid (B2.out.step1 b3)
  clear b3 d1
  go_wp2_with fail
  go_ret
  exact ⟨rfl, B3.out⟩
/-- The method degree answers x. -/
abbrev DegI (x : Int) (a : Option Addr) (m cap : Nat) (w : World) : Prop := Hid (∀ wx, Below w.heap.size w wx → Calls Try.prog 60 #[.agg #[.slice a m cap]] wx fun e w' => e = .returned (.int .i64 x) ∧ Below wx.heap.size wx w')
set_option maxHeartbeats 1000000 in
theorem implCode_2 (aa ab : Option Addr) (m n ca cb : Nat) (w : World) (x y : Int) (A : IsI true aa m ca w) (B : IsI true ab n cb w) (GA : DegI x aa m ca w) (GB : DegI y ab n cb w) (x0 : 0 ≤ x ∧ x ≤ 40) (y0 : 0 ≤ y ∧ y ≤ 40) :
    Calls Try.prog 49 #[.agg #[.slice aa m ca], .agg #[.slice ab n cb]] w (SaysI (if 40 < x + y then 3 else 0) w) := by
  have t2 := Try.underlying26
  obtain ⟨w1, hw1⟩ : ∃ w1, w1 = ((w.alloc (.cells #[.slice aa m ca] 26)).alloc (.cells #[.slice ab n cb] 26)) := ⟨_, rfl⟩
  have T1 : Hid (Two w (.slice aa m ca) (.slice ab n cb) w1) := Lib.hid (by rw [hw1]; exact Two.start _ _ _)
  have hw : IntKind.i64.wrap (x + y) = x + y := by rw [IntKind.wrap_i64]; omega
  have hcase : (40 < x + y) ∨ ¬ (40 < x + y) := by omega
  obtain ⟨r, hr⟩ : ∃ r, decide (40 < x + y) = r := ⟨_, rfl⟩
  have HR : Hid ((if 40 < x + y then (3 : Int) else 0) = if r = true then 3 else 0) := Lib.hid (by rw [← hr]; simp)
  rw [HR.out]
  clear HR hcase
  have HW := Lib.hid hw
  obtain ⟨sxy, hsxy⟩ : ∃ s, IntKind.i64.wrap (x + y) = s := ⟨_, rfl⟩
  have hd : decide (40 < sxy) = r := by rw [← hsxy, hw]; exact hr
  have hle : (r = true → 40 < sxy) ∧ (r = false → sxy ≤ 40) := by
    subst hd
    constructor
    · intro h; exact of_decide_eq_true h
    · intro h; have := of_decide_eq_false h; omega
  clear hw hr
  cases r
  all_goals
    simp at hle
    go_enter Try.func49, Try.ntmps49
    go_wp2_with fail
    rw [← hw1]
    clear hw1
    have d0 := T1.out.bA.c
    go_wp2_with fail
    refine (A.out w1 T1.out.bel).mono ?_
    rintro e w2 ⟨rfl, b2⟩
    have T2 : Hid (Two w (.slice aa m ca) (.slice ab n cb) w2) := Lib.hid ⟨T1.out.bel.step1 b2, T1.out.bA.up b2, T1.out.bB.up b2⟩
    have d1 := T2.out.bB.c
    clear b2 T1 d0
    go_wp2_with fail
    refine (B.out w2 T2.out.bel).mono ?_
    rintro e w3 ⟨rfl, b3⟩
    have T3 : Hid (Two w (.slice aa m ca) (.slice ab n cb) w3) := Lib.hid ⟨T2.out.bel.step1 b3, T2.out.bA.up b3, T2.out.bB.up b3⟩
    clear b3 d1 T2
    have KEEP : Hid (∀ wx, Below w3.heap.size w3 wx → (wx.cell? ⟨w.heap.size, 0, none⟩ = some (.slice aa m ca) ∧ wx.cell? ⟨w.heap.size + 1, 0, none⟩ = some (.slice ab n cb) ∧ Below w3.heap.size w3 wx)) :=
      Lib.hid (fun wx hb => ⟨(T3.out.bA.up hb).c, (T3.out.bB.up hb).c, hb⟩)
    have GA3 : Hid (∀ wx, Below w3.heap.size w3 wx → Calls Try.prog 60 #[.agg #[.slice aa m ca]] wx fun e w' => e = .returned (.int .i64 x) ∧ Below wx.heap.size wx w') := Lib.hid fun wx hb => GA.out wx (T3.out.bel.step1 hb)
    have GB3 : Hid (∀ wx, Below w3.heap.size w3 wx → Calls Try.prog 60 #[.agg #[.slice ab n cb]] wx fun e w' => e = .returned (.int .i64 y) ∧ Below wx.heap.size wx w') := Lib.hid fun wx hb => GB.out wx (T3.out.bel.step1 hb)
    have z0 : Below w3.heap.size w3 w3.drew := (Below.refl _ _).drew
    go_wp2_with fail
    go_region_held3 (fun wx => wx.cell? ⟨w.heap.size, 0, none⟩ = some (.slice aa m ca) ∧ wx.cell? ⟨w.heap.size + 1, 0, none⟩ = some (.slice ab n cb) ∧ Below w3.heap.size w3 wx)
      (first | exact KEEP.out _ (Below.refl _ _).drew | exact KEEP.out _ (by assumption))
      (first | (go_at_call_of 60 (Value.agg #[Value.slice aa m ca]); refine (GA3.out _ (by assumption)).mono ?_; rintro e wq ⟨rfl, bq⟩; have zq : Below w3.heap.size w3 wq := Below.step1 (by assumption) bq) | (go_at_call_of 60 (Value.agg #[Value.slice ab n cb]); refine (GB3.out _ (by assumption)).mono ?_; rintro e wq ⟨rfl, bq⟩; have zq : Below w3.heap.size w3 wq := Below.step1 (by assumption) bq))
    all_goals
      have B4 := Lib.hid (T3.out.bel.step1 (by assumption : Below w3.heap.size w3 _))
      go_wp2_with fail
      go_ret
      exact ⟨rfl, B4.out⟩

/-- The code of two elements that are multiplied. -/
noncomputable def codeOf (X Y : Nat → List Int) (m n : Nat) : Int :=
  @ite _ (okMl X m ∧ okMl Y n) (Classical.propDecidable _) (if 0 < m ∧ 0 < n ∧ 40 < dgL (X 0) + dgL (Y 0) then 3 else 0) 1
theorem codeOf_bad {X Y : Nat → List Int} {m n : Nat} (h : ¬ (okMl X m ∧ okMl Y n)) : codeOf X Y m n = 1 := by unfold codeOf; rw [if_neg h]
theorem codeOf_ok {X Y : Nat → List Int} {m n : Nat} (h1 : okMl X m) (h2 : okMl Y n) : codeOf X Y m n = if 0 < m ∧ 0 < n ∧ 40 < dgL (X 0) + dgL (Y 0) then 3 else 0 := by unfold codeOf; rw [if_pos ⟨h1, h2⟩]
theorem rd_up {va : Value} {w : World} {m : Nat} {X : Nat → List Int} (h : RdSS w va m X) : ∀ wx, Below w.heap.size w wx → RdSS wx va m X := fun wx hx => h.below hx
theorem code_spec (X Y : Nat → List Int) (m n : Nat) (va vb : Value) (w : World) (ha : RdSS w va m X) (hb : RdSS w vb n Y) : Calls Try.prog 46 #[.agg #[va], .agg #[vb]] w (SaysI (codeOf X Y m n) w) := by
  have hb' := hb
  have ha' := ha
  by_cases hA : okMl X m
  · by_cases hB : okMl Y n
    · rw [codeOf_ok hA hB]
      have SA : ∀ a cap, va = .slice a m cap → IsS true a m cap w := fun a cap e => Lib.hid fun wx hx => by subst e; exact (isM_yes X m hA).1 _ wx (ha.below hx)
      have SB : ∀ a cap, vb = .slice a n cap → IsS true a n cap w := fun a cap e => Lib.hid fun wx hx => by subst e; exact (isM_yes Y n hB).1 _ wx (hb.below hx)
      by_cases h0 : m = 0 ∨ n = 0
      · obtain ⟨aa, ca, rfl⟩ := ha.head
        obtain ⟨ab, cb, rfl⟩ := hb.head
        rw [if_neg (by omega)]
        exact specCode_0 aa ab m n ca cb w (SA _ _ rfl) (SB _ _ rfl) h0
      · obtain ⟨b1, o1, v1, ca, rfl, k1, d1⟩ := headM hA (by omega) ha
        obtain ⟨b2, o2, v2, cb, rfl, k2, d2⟩ := headM hB (by omega) hb
        have e : (if 0 < m ∧ 0 < n ∧ 40 < dgL (X 0) + dgL (Y 0) then (3 : Int) else 0) = if 40 < dgL (X 0) + dgL (Y 0) then 3 else 0 := by
          by_cases c : 40 < dgL (X 0) + dgL (Y 0)
          · rw [if_pos ⟨by omega, by omega, c⟩, if_pos c]
          · rw [if_neg (fun h => c h.2.2), if_neg c]
        rw [e]
        exact specCode_2 m n ca cb w b1 o1 b2 o2 v1 v2 _ _ (SA _ _ rfl) (SB _ _ rfl) k1 k2 d1 d2 (by omega) (by omega) (okMl_deg hA (by omega)) (okMl_deg hB (by omega))
    · rw [codeOf_bad (fun h => hB h.2)]
      obtain ⟨aa, ca, rfl⟩ := ha.head
      obtain ⟨ab, cb, rfl⟩ := hb.head
      exact specCode_bad2 aa ab m n ca cb w (Lib.hid fun wx hx => (isM_yes X m hA).1 _ wx (ha.below hx)) (Lib.hid fun wx hx => (isM_no Y n hB).1 _ wx (hb.below hx))
  · rw [codeOf_bad (fun h => hA h.1)]
    obtain ⟨aa, ca, rfl⟩ := ha.head
    obtain ⟨ab, cb, rfl⟩ := hb.head
    exact specCode_bad1 aa ab m n ca cb w (Lib.hid fun wx hx => (isM_no X m hA).1 _ wx (ha.below hx))
theorem code_impl (X Y : Nat → List Int) (m n : Nat) (va vb : Value) (w : World) (ha : RdSS w va m X) (hb : RdSS w vb n Y) : Calls Try.prog 49 #[.agg #[va], .agg #[vb]] w (SaysI (codeOf X Y m n) w) := by
  by_cases hA : okMl X m
  · by_cases hB : okMl Y n
    · rw [codeOf_ok hA hB]
      have deg : ∀ (X : Nat → List Int) (m : Nat) (va : Value), okMl X m → RdSS w va m X → ∃ a cap x, va = .slice a m cap ∧ DegI x a m cap w ∧ (0 ≤ x ∧ x ≤ 40) ∧ (m = 0 → x = 0) ∧ (0 < m → x = dgL (X 0)) := fun X m va hok h => by
        by_cases h0 : m = 0
        · subst h0
          obtain ⟨a, cap, rfl⟩ := h.head
          exact ⟨a, cap, 0, rfl, Lib.hid fun wx hx => degreeM_any a 0 cap 0 wx (fun _ => rfl) (by omega) (fun h => absurd h (Nat.lt_irrefl _)), by omega, fun _ => rfl, fun h => absurd h (Nat.lt_irrefl _)⟩
        · obtain ⟨b, o, v, cap, rfl, k, d⟩ := headM hok (by omega) h
          have h40 := okMl_deg hok (by omega)
          exact ⟨_, cap, dgL (X 0), rfl, Lib.hid fun wx hx => degreeM_any _ m cap _ wx (fun e => absurd e h0) h40.2 (fun _ => ⟨b, o, v, rfl, (hx.cell (p := ⟨b, o, none⟩) (World.block_lt_of_cell? w _ k)).trans k, d.below hx⟩), h40, fun e => absurd e h0, fun _ => rfl⟩
      obtain ⟨aa, ca, x, rfl, GA, x0, x1, x2⟩ := deg X m va hA ha
      obtain ⟨ab, cb, y, rfl, GB, y0, y1, y2⟩ := deg Y n vb hB hb
      have e : (if 0 < m ∧ 0 < n ∧ 40 < dgL (X 0) + dgL (Y 0) then (3 : Int) else 0) = if 40 < x + y then 3 else 0 := by
        by_cases hm : m = 0
        · have := x1 hm
          rw [if_neg (by omega), if_neg (by omega)]
        · by_cases hn : n = 0
          · have := y1 hn
            rw [if_neg (by omega), if_neg (by omega)]
          · rw [← x2 (by omega), ← y2 (by omega)]
            by_cases c : 40 < x + y
            · rw [if_pos ⟨by omega, by omega, c⟩, if_pos c]
            · rw [if_neg (fun h => c h.2.2), if_neg c]
      rw [e]
      exact implCode_2 aa ab m n ca cb w x y (Lib.hid fun wx hx => (isM_yes X m hA).2 _ wx (ha.below hx)) (Lib.hid fun wx hx => (isM_yes Y n hB).2 _ wx (hb.below hx)) GA GB x0 y0
    · rw [codeOf_bad (fun h => hB h.2)]
      obtain ⟨aa, ca, rfl⟩ := ha.head
      obtain ⟨ab, cb, rfl⟩ := hb.head
      exact implCode_bad2 aa ab m n ca cb w (Lib.hid fun wx hx => (isM_yes X m hA).2 _ wx (ha.below hx)) (Lib.hid fun wx hx => (isM_no Y n hB).2 _ wx (hb.below hx))
  · rw [codeOf_bad (fun h => hA h.1)]
    obtain ⟨aa, ca, rfl⟩ := ha.head
    obtain ⟨ab, cb, rfl⟩ := hb.head
    exact implCode_bad1 aa ab m n ca cb w (Lib.hid fun wx hx => (isM_no X m hA).2 _ wx (ha.below hx))
end Go.Proofs.Ytfgkpkdoemnnmaa.Ml
end
