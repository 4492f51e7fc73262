/-
  Joined: EPair.
-/
import Derived.Test.YtnmilkehggjpfaaZactPairingOf02
import Derived.Test.YtnmilkehggjpfaaZactPairingOf03
import Derived.Test.YtnmilkehggjpfaaZBMil37
section
namespace Go.Proofs.Ytnmilkehggjpfaa.Dl
open Go.RowKit Go.Proofs.Ytnmilkehggjpfaa.Ml
set_option linter.unusedVariables false
set_option maxRecDepth 100000

/-- How many of the first k lists are among the others. -/
noncomputable def cntB (X Y : Nat → List Int) (n : Nat) : Nat → Nat
  | 0 => 0
  | k + 1 => cntB X Y n k + if hasB Y n (X k) = true then 1 else 0
theorem cntB_le (X Y : Nat → List Int) (n : Nat) : ∀ k, cntB X Y n k ≤ k
  | 0 => Nat.le_refl _
  | k + 1 => by have := cntB_le X Y n k; rw [cntB]; split <;> omega
theorem cntB_yes {X Y : Nat → List Int} {n k : Nat} (h : hasB Y n (X k) = true) : cntB X Y n (k + 1) = cntB X Y n k + 1 := by rw [cntB, if_pos h]
theorem cntB_no {X Y : Nat → List Int} {n k : Nat} (h : hasB Y n (X k) = false) : cntB X Y n (k + 1) = cntB X Y n k := by rw [cntB, if_neg (by rw [h]; decide), Nat.add_zero]

/-- A call that answers two numbers and leaves what there was. -/
def SaysN (x c : Int) (w : World) (e : Ending) (w' : World) : Prop := e = .returned (.tuple #[.int .i64 x, .int .i64 c]) ∧ Below w.heap.size w w'

/-- The two arguments in their boxes. -/
structure Two2 (w0 : World) (va vb : Value) (w : World) : Prop where
  bel : Below w0.heap.size w0 w
  bA : Box1 w w0.heap.size 45 va
  bB : Box1 w (w0.heap.size + 1) 27 vb
theorem Two2.up {w0 w w' : World} {va vb : Value} (h : Two2 w0 va vb w) (k : Below w.heap.size w w') : Two2 w0 va vb w' := ⟨h.bel.step1 k, h.bA.up k, h.bB.up k⟩
theorem Two2.start (w : World) (va vb : Value) : Two2 w va vb ((w.alloc (.cells #[va] 45)).alloc (.cells #[vb] 27)) := by
  refine ⟨((Below.refl w.heap.size w).alloc (Nat.le_refl _) _).alloc (by simp) _, (Box1.new w _ _).alloc _, ?_⟩
  have := Box1.new (w.alloc (.cells #[va] 45)) 27 vb
  simpa using this

theorem l06Pairing_any (Va Vb : Value) (m n : Nat) (X Y : Nat → List Int) (w : World) (ha : RdSS w Va m X) (hb : RdSS w Vb n Y) (hm : m ≤ 2000) (hn : n ≤ 2000) :
    Calls Try.prog 66 #[Va, Vb] w fun e w' => e = .returned (.int .i64 (((cntB X Y n m % 2 : Nat)) : Int)) ∧ Below w.heap.size w w' := by
  obtain ⟨⟨a, cap, rfl⟩, hsm, VS, hc, hr⟩ := ha
  have HR := Lib.hid hr
  have HB := Lib.hid hb
  have HN := Lib.hid hn
  clear hr hb hn hsm
  by_cases h0 : m = 0
  · subst h0
    clear hc HR HB
    go_enter Try.func66, Try.ntmps66
    go_wp2
    refine wp_loop_rounds 1 ?_
    rw [rounds_succ]
    go_wp2
    go_ret
    exact ⟨rfl, Below.refl _ _⟩
  · obtain ⟨b, off, ⟨cap', e⟩, hc'⟩ := hc.resolve_left h0
    cases e
    have HC := Lib.hid hc'
    clear hc hc' h0
    go_enter Try.func66, Try.ntmps66
    go_wp2
    go_loopw [5, 6] (fun s c wr => ∃ k : Nat, k ≤ m ∧ c = .int .i64 k ∧ s = .int .i64 (cntB X Y n k : Nat) ∧ Hid (Below w.heap.size w wr)) (fun _ c _ => m - (intOf c).toNat)
    case atStart => exact ⟨0, by omega, rfl, rfl, Lib.hid (Below.refl _ _)⟩
    case round =>
      obtain ⟨k, hk, rfl, rfl, hw⟩ := hrel
      by_cases hlt : k < m
      · have hlt' : (k : Int) < (m : Int) := by omega
        have c1 : wr.cell? ⟨b, off + k, none⟩ = some (VS k) := (hw.out.cell (p := ⟨b, off + k, none⟩) (World.block_lt_of_cell? w _ (HC.out k hlt))).trans (HC.out k hlt)
        have S1 := Lib.hid (l01Place_any Vb n Y (VS k) (X k) wr (HB.out.below hw.out) (RdI.below (HR.out k hlt) hw.out) HN.out)
        have hle := cntB_le X Y n k
        generalize VS k = v at c1 S1
        cases hb : hasB Y n (X k) with
        | true =>
          have NX := Lib.hid (cntB_yes hb)
          unfold PlacePost at S1
          rw [hb] at S1
          clear hb
          generalize cntB X Y n k = q at NX hle
          go_wp2_with fail
          refine S1.out.mono ?_
          rintro e w2 ⟨i, rfl, hi1, hi2, q2, rfl⟩
          have hi3 : 0 ≤ i := of_decide_eq_true hi2
          have W2 := Lib.hid (below_drewN hw.out q2)
          clear hi2 hi1
          go_wp2_with fail
          go_roundw
          case rel => exact ⟨k + 1, by omega, by go_num, by rw [NX.out]; go_num, W2⟩
          case measure => simp [intOf]; omega
        | false =>
          have NX := Lib.hid (cntB_no hb)
          unfold PlacePost at S1
          rw [hb] at S1
          clear hb
          generalize cntB X Y n k = q at NX hle
          go_wp2_with fail
          refine S1.out.mono ?_
          rintro e w2 ⟨i, rfl, hi1, hi2, q2, rfl⟩
          have hi3 : ¬ 0 ≤ i := of_decide_eq_false hi2
          have W2 := Lib.hid (below_drewN hw.out q2)
          clear hi2 hi1
          go_wp2_with fail
          go_roundw
          case rel => exact ⟨k + 1, by omega, by go_num, by rw [NX.out], W2⟩
          case measure => simp [intOf]; omega
      · obtain rfl : k = m := by omega
        go_wp2_with fail
        go_ret
        exact ⟨by go_num, hw.out⟩

theorem specPair_bad (aa ab : Option Addr) (m n capa capb : Nat) (w : World) (x : Bool) (A : Hid (∀ wx, Below w.heap.size w wx → Calls Try.prog 65 #[.agg #[.slice aa m capa]] wx (SaysB x wx))) (B : Hid (x = true → ∀ wx, Below w.heap.size w wx → Calls Try.prog 51 #[.agg #[.slice ab n capb]] wx (SaysB false wx))) :
    Calls Try.prog 26 #[.agg #[.slice aa m capa], .agg #[.slice ab n capb]] w (SaysN 0 1 w) := by
  have t2 := Try.underlying27
  have t3 := Try.underlying45
  obtain ⟨w1, hw1⟩ : ∃ w1, w1 = ((w.alloc (.cells #[.slice aa m capa] 45)).alloc (.cells #[.slice ab n capb] 27)) := ⟨_, rfl⟩
  have T1 : Hid (Two2 w (.slice aa m capa) (.slice ab n capb) w1) := Lib.hid (by rw [hw1]; exact Two2.start _ _ _)
  cases x with
  | false =>
    go_enter Try.func26, Try.ntmps26
    go_wp2_with fail
    rw [← hw1]
    clear hw1
    refine (A.out w1 T1.out.bel).mono ?_
    rintro e w2 ⟨rfl, b2⟩
    have T2 := Lib.hid (T1.out.up b2)
    clear b2 T1
    go_wp2_with fail
    go_ret2
    exact ⟨rfl, T2.out.bel⟩
  | true =>
    have B2 := Lib.hid (B.out rfl)
    clear B
    go_enter Try.func26, Try.ntmps26
    go_wp2_with fail
    rw [← hw1]
    clear hw1
    refine (A.out w1 T1.out.bel).mono ?_
    rintro e w2 ⟨rfl, b2⟩
    have T2 := Lib.hid (T1.out.up b2)
    clear b2 T1
    have d1 := T2.out.bB.c
    go_wp2_with fail
    refine (B2.out w2 T2.out.bel).mono ?_
    rintro e w3 ⟨rfl, b3⟩
    have T3 := Lib.hid (T2.out.up b3)
    clear b3 T2 d1
    go_wp2_with fail
    go_ret2
    exact ⟨rfl, T3.out.bel⟩

theorem specPair_ok (aa ab : Option Addr) (m n capa capb : Nat) (X Y : Nat → List Int) (w : World) (ha : RdSS w (.slice aa m capa) m X) (hb : RdSS w (.slice ab n capb) n Y) (hm : m ≤ 2000) (hn : n ≤ 2000) (A : Hid (∀ wx, Below w.heap.size w wx → Calls Try.prog 65 #[.agg #[.slice aa m capa]] wx (SaysB true wx))) (B : Hid (∀ wx, Below w.heap.size w wx → Calls Try.prog 51 #[.agg #[.slice ab n capb]] wx (SaysB true wx))) :
    Calls Try.prog 26 #[.agg #[.slice aa m capa], .agg #[.slice ab n capb]] w (SaysN ((cntB X Y n m % 2 : Nat) : Int) 0 w) := by
  have t2 := Try.underlying27
  have t3 := Try.underlying45
  obtain ⟨w1, hw1⟩ : ∃ w1, w1 = ((w.alloc (.cells #[.slice aa m capa] 45)).alloc (.cells #[.slice ab n capb] 27)) := ⟨_, rfl⟩
  have T1 : Hid (Two2 w (.slice aa m capa) (.slice ab n capb) w1) := Lib.hid (by rw [hw1]; exact Two2.start _ _ _)
  have P := Lib.hid (fun wx (hx : Below w.heap.size w wx) => l06Pairing_any _ _ m n X Y wx (ha.below hx) (hb.below hx) hm hn)
  clear ha hb hm hn
  generalize cntB X Y n m % 2 = q at P
  go_enter Try.func26, Try.ntmps26
  go_wp2_with fail
  rw [← hw1]
  clear hw1
  refine (A.out w1 T1.out.bel).mono ?_
  rintro e w2 ⟨rfl, b2⟩
  have T2 := Lib.hid (T1.out.up b2)
  clear b2 T1
  have d1 := T2.out.bB.c
  go_wp2_with fail
  refine (B.out w2 T2.out.bel).mono ?_
  rintro e w3 ⟨rfl, b3⟩
  have T3 := Lib.hid (T2.out.up b3)
  clear b3 T2 d1
  have d0 := T3.out.bA.c
  have d1 := T3.out.bB.c
  go_wp2_with fail
  refine (P.out w3 T3.out.bel).mono ?_
  rintro e w4 ⟨rfl, b4⟩
  have T4 := Lib.hid (T3.out.up b4)
  clear b4 T3 d0 d1
  go_wp2_with fail
  go_ret2
  exact ⟨rfl, T4.out.bel⟩

theorem implPair_bad (aa ab : Option Addr) (m n capa capb : Nat) (w : World) (x : Bool) (A : Hid (∀ wx, Below w.heap.size w wx → Calls Try.prog 53 #[.agg #[.slice aa m capa]] wx (SaysB x wx))) (B : Hid (x = true → ∀ wx, Below w.heap.size w wx → Calls Try.prog 14 #[.agg #[.slice ab n capb]] wx (SaysB false wx))) :
    Calls Try.prog 28 #[.agg #[.slice aa m capa], .agg #[.slice ab n capb]] w (SaysN 0 1 w) := by
  have t2 := Try.underlying27
  have t3 := Try.underlying45
  obtain ⟨w1, hw1⟩ : ∃ w1, w1 = ((w.alloc (.cells #[.slice aa m capa] 45)).alloc (.cells #[.slice ab n capb] 27)) := ⟨_, rfl⟩
  have T1 : Hid (Two2 w (.slice aa m capa) (.slice ab n capb) w1) := Lib.hid (by rw [hw1]; exact Two2.start _ _ _)
  cases x with
  | false =>
    go_enter Try.func28, Try.ntmps28
    go_wp2_with fail
    rw [← hw1]
    clear hw1
    refine (A.out w1 T1.out.bel).mono ?_
    rintro e w2 ⟨rfl, b2⟩
    have T2 := Lib.hid (T1.out.up b2)
    clear b2 T1
    go_wp2_with fail
    go_ret2
    exact ⟨rfl, T2.out.bel⟩
  | true =>
    have B2 := Lib.hid (B.out rfl)
    clear B
    go_enter Try.func28, Try.ntmps28
    go_wp2_with fail
    rw [← hw1]
    clear hw1
    refine (A.out w1 T1.out.bel).mono ?_
    rintro e w2 ⟨rfl, b2⟩
    have T2 := Lib.hid (T1.out.up b2)
    clear b2 T1
    have d1 := T2.out.bB.c
    go_wp2_with fail
    refine (B2.out w2 T2.out.bel).mono ?_
    rintro e w3 ⟨rfl, b3⟩
    have T3 := Lib.hid (T2.out.up b3)
    clear b3 T2 d1
    go_wp2_with fail
    go_ret2
    exact ⟨rfl, T3.out.bel⟩

theorem implPair_ok (aa ab : Option Addr) (m n capa capb : Nat) (X Y : Nat → List Int) (w : World) (ha : RdSS w (.slice aa m capa) m X) (hb : RdSS w (.slice ab n capb) n Y) (hm : m ≤ 2000) (hn : n ≤ 2000) (hasc : ∀ j, j < n → ∀ i, i < j → lexLt (Y i) (Y j) = true) (A : Hid (∀ wx, Below w.heap.size w wx → Calls Try.prog 53 #[.agg #[.slice aa m capa]] wx (SaysB true wx))) (B : Hid (∀ wx, Below w.heap.size w wx → Calls Try.prog 14 #[.agg #[.slice ab n capb]] wx (SaysB true wx))) :
    Calls Try.prog 28 #[.agg #[.slice aa m capa], .agg #[.slice ab n capb]] w (SaysN ((cntB X Y n m % 2 : Nat) : Int) 0 w) := by
  have t2 := Try.underlying27
  have t3 := Try.underlying45
  obtain ⟨w1, hw1⟩ : ∃ w1, w1 = ((w.alloc (.cells #[.slice aa m capa] 45)).alloc (.cells #[.slice ab n capb] 27)) := ⟨_, rfl⟩
  have T1 : Hid (Two2 w (.slice aa m capa) (.slice ab n capb) w1) := Lib.hid (by rw [hw1]; exact Two2.start _ _ _)
  have HA := Lib.hid ha
  have HB := Lib.hid hb
  have HN := Lib.hid hn
  have HS := Lib.hid hasc
  obtain ⟨_, hsm, VS, hc, hr⟩ := ha
  have HR := Lib.hid hr
  clear hb hn hasc hr hsm
  go_enter Try.func28, Try.ntmps28
  go_wp2_with fail
  rw [← hw1]
  clear hw1
  refine (A.out w1 T1.out.bel).mono ?_
  rintro e w2 ⟨rfl, b2⟩
  have T2 := Lib.hid (T1.out.up b2)
  clear b2 T1
  have d1 := T2.out.bB.c
  go_wp2_with fail
  refine (B.out w2 T2.out.bel).mono ?_
  rintro e w3 ⟨rfl, b3⟩
  have T3 := Lib.hid (T2.out.up b3)
  clear b3 T2 d1
  have d0 := T3.out.bA.c
  by_cases h0 : m = 0
  · subst h0
    clear hc HR HA
    go_wp2_with fail
    refine wp_loop_rounds 1 ?_
    rw [rounds_succ]
    go_wp2_with fail
    go_ret2
    exact ⟨rfl, T3.out.bel⟩
  · obtain ⟨b, off, ⟨cap', e⟩, hc'⟩ := hc.resolve_left h0
    cases e
    have HC := Lib.hid hc'
    clear hc hc' h0
    go_wp2_with fail
    go_loopw [6, 8, 20] (fun s _ c wr => ∃ k : Nat, k ≤ m ∧ c = .int .i64 k ∧ s = .int .i64 (cntB X Y n k : Nat) ∧ Hid (Two2 w (.slice (some ⟨b, off, none⟩) m capa) (.slice ab n capb) wr)) (fun _ _ c _ => m - (intOf c).toNat)
    case atStart => exact ⟨0, by omega, rfl, rfl, T3⟩
    case round =>
      obtain ⟨k, hk, rfl, rfl, hw⟩ := hrel
      by_cases hlt : k < m
      · have hlt' : (k : Int) < (m : Int) := by omega
        have c1 : wr.cell? ⟨b, off + k, none⟩ = some (VS k) := (hw.out.bel.cell (p := ⟨b, off + k, none⟩) (World.block_lt_of_cell? w _ (HC.out k hlt))).trans (HC.out k hlt)
        have d1 := hw.out.bB.c
        have S1 := Lib.hid (hasTerm_any ab n capb Y (VS k) (X k) wr (HB.out.below hw.out.bel) (RdI.below (HR.out k hlt) hw.out.bel) HN.out HS.out)
        have hle := cntB_le X Y n k
        generalize VS k = v at c1 S1
        cases hb : hasB Y n (X k) with
        | true =>
          have NX := Lib.hid (cntB_yes hb)
          rw [hb] at S1
          clear hb
          generalize cntB X Y n k = q at NX hle
          go_wp2_with fail
          refine S1.out.mono ?_
          rintro e w5 ⟨rfl, b5⟩
          have W2 := Lib.hid (hw.out.up b5)
          go_wp2_with fail
          go_roundw
          case rel => exact ⟨k + 1, by omega, by go_num, by rw [NX.out]; go_num, W2⟩
          case measure => simp [intOf]; omega
        | false =>
          have NX := Lib.hid (cntB_no hb)
          rw [hb] at S1
          clear hb
          generalize cntB X Y n k = q at NX hle
          go_wp2_with fail
          refine S1.out.mono ?_
          rintro e w5 ⟨rfl, b5⟩
          have W2 := Lib.hid (hw.out.up b5)
          go_wp2_with fail
          go_roundw
          case rel => exact ⟨k + 1, by omega, by go_num, by rw [NX.out], W2⟩
          case measure => simp [intOf]; omega
      · obtain rfl : k = m := by omega
        go_wp2_with fail
        go_ret2
        exact ⟨by go_num, hw.out.bel⟩

theorem PairingOf_both (m n : Nat) (X Y : Nat → List Int) : ∃ (x cd : Int),
    (∀ va vb w, RdSS w va m X → RdSS w vb n Y → Calls Try.prog 26 #[.agg #[va], .agg #[vb]] w (SaysN x cd w)) ∧
    (∀ va vb w, RdSS w va m X → RdSS w vb n Y → Calls Try.prog 28 #[.agg #[va], .agg #[vb]] w (SaysN x cd w)) := by
  by_cases hA : okMl X m
  · by_cases hB : okMl Y n
    · obtain ⟨m2, mX, wX, aX⟩ := mlRows hA
      obtain ⟨n2, nY, wY, aY⟩ := mlRows hB
      refine ⟨((cntB X Y n m % 2 : Nat) : Int), 0, fun va vb w ha hb => ?_, fun va vb w ha hb => ?_⟩
      · obtain ⟨aa, ca, rfl⟩ := ha.head
        obtain ⟨ab, cb, rfl⟩ := hb.head
        exact specPair_ok aa ab m n ca cb X Y w ha hb m2 n2 (Lib.hid fun wx hx => (isM_yes X m hA).1 _ wx (ha.below hx)) (Lib.hid fun wx hx => (isD_yes Y n hB).1 _ wx (hb.below hx))
      · obtain ⟨aa, ca, rfl⟩ := ha.head
        obtain ⟨ab, cb, rfl⟩ := hb.head
        exact implPair_ok aa ab m n ca cb X Y w ha hb m2 n2 (step_lt Y n hB.1.2.2) (Lib.hid fun wx hx => (isM_yes X m hA).2 _ wx (ha.below hx)) (Lib.hid fun wx hx => (isD_yes Y n hB).2 _ wx (hb.below hx))
    · refine ⟨0, 1, fun va vb w ha hb => ?_, fun va vb w ha hb => ?_⟩
      · obtain ⟨aa, ca, rfl⟩ := ha.head
        obtain ⟨ab, cb, rfl⟩ := hb.head
        exact specPair_bad aa ab m n ca cb w true (Lib.hid fun wx hx => (isM_yes X m hA).1 _ wx (ha.below hx)) (Lib.hid fun _ wx hx => (isD_no Y n hB).1 _ wx (hb.below hx))
      · obtain ⟨aa, ca, rfl⟩ := ha.head
        obtain ⟨ab, cb, rfl⟩ := hb.head
        exact implPair_bad aa ab m n ca cb w true (Lib.hid fun wx hx => (isM_yes X m hA).2 _ wx (ha.below hx)) (Lib.hid fun _ wx hx => (isD_no Y n hB).2 _ wx (hb.below hx))
  · refine ⟨0, 1, fun va vb w ha hb => ?_, fun va vb w ha hb => ?_⟩
    · obtain ⟨aa, ca, rfl⟩ := ha.head
      obtain ⟨ab, cb, rfl⟩ := hb.head
      exact specPair_bad aa ab m n ca cb w false (Lib.hid fun wx hx => (isM_no X m hA).1 _ wx (ha.below hx)) (Lib.hid fun h => by cases h)
    · obtain ⟨aa, ca, rfl⟩ := ha.head
      obtain ⟨ab, cb, rfl⟩ := hb.head
      exact implPair_bad aa ab m n ca cb w false (Lib.hid fun wx hx => (isM_no X m hA).2 _ wx (ha.below hx)) (Lib.hid fun h => by cases h)
end Go.Proofs.Ytnmilkehggjpfaa.Dl
end
