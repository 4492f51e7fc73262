/-
  Joined: NNilC.
-/
import Derived.Test.YtfgkpkdoemnnmaaZNilpotenceOf02
section
namespace Go.Proofs.Ytfgkpkdoemnnmaa.Ml
open Go.RowKit
set_option linter.unusedVariables false
set_option maxRecDepth 100000

theorem specNil_bad (a : Option Addr) (m cap : Nat) (w : World) (A : Hid (∀ wx, Below w.heap.size w wx → Calls Try.prog 56 #[.agg #[.slice a m cap]] wx (SaysB false wx))) :
    Calls Try.prog 43 #[.agg #[.slice a m cap]] w (SaysN 0 1 w) := by
  have t2 := Try.underlying26
  have B0 : Hid (Below w.heap.size w (w.alloc (.cells #[.slice a m cap] 26))) := Lib.hid ((Below.refl w.heap.size w).alloc (Nat.le_refl _) _)
  go_enter Try.func43, Try.ntmps43
  go_wp2_with fail
  refine (A.out _ B0.out).mono ?_
  rintro e w2 ⟨rfl, b2⟩
  have B2 := Lib.hid (B0.out.step1 b2)
  clear b2
  go_wp2_with fail
  go_ret2
  exact ⟨rfl, B2.out⟩

theorem specNil_zero (a : Option Addr) (cap : Nat) (w : World) (A : Hid (∀ wx, Below w.heap.size w wx → Calls Try.prog 56 #[.agg #[.slice a 0 cap]] wx (SaysB true wx))) :
    Calls Try.prog 43 #[.agg #[.slice a 0 cap]] w (SaysN 1 0 w) := by
  have t2 := Try.underlying26
  have B0 : Hid (Below w.heap.size w (w.alloc (.cells #[.slice a 0 cap] 26))) := Lib.hid ((Below.refl w.heap.size w).alloc (Nat.le_refl _) _)
  have BX : Hid (Box1 (w.alloc (.cells #[.slice a 0 cap] 26)) w.heap.size 26 (.slice a 0 cap)) := Lib.hid (Box1.new _ _ _)
  go_enter Try.func43, Try.ntmps43
  go_wp2_with fail
  refine (A.out _ B0.out).mono ?_
  rintro e w2 ⟨rfl, b2⟩
  have B2 := Lib.hid (B0.out.step1 b2)
  have c1 := (BX.out.up b2).c
  clear b2
  go_wp2_with fail
  go_ret2
  exact ⟨rfl, B2.out⟩

theorem implNil_bad (a : Option Addr) (m cap : Nat) (w : World) (A : Hid (∀ wx, Below w.heap.size w wx → Calls Try.prog 59 #[.agg #[.slice a m cap]] wx (SaysB false wx))) :
    Calls Try.prog 44 #[.agg #[.slice a m cap]] w (SaysN 0 1 w) := by
  have t2 := Try.underlying26
  have B0 : Hid (Below w.heap.size w (w.alloc (.cells #[.slice a m cap] 26))) := Lib.hid ((Below.refl w.heap.size w).alloc (Nat.le_refl _) _)
  go_enter Try.func44, Try.ntmps44
  go_wp2_with fail
  refine (A.out _ B0.out).mono ?_
  rintro e w2 ⟨rfl, b2⟩
  have B2 := Lib.hid (B0.out.step1 b2)
  clear b2
  go_wp2_with fail
  go_ret2
  exact ⟨rfl, B2.out⟩

theorem implNil_zero (a : Option Addr) (cap : Nat) (w : World) (A : Hid (∀ wx, Below w.heap.size w wx → Calls Try.prog 59 #[.agg #[.slice a 0 cap]] wx (SaysB true wx))) :
    Calls Try.prog 44 #[.agg #[.slice a 0 cap]] w (SaysN 1 0 w) := by
  have t2 := Try.underlying26
  have B0 : Hid (Below w.heap.size w (w.alloc (.cells #[.slice a 0 cap] 26))) := Lib.hid ((Below.refl w.heap.size w).alloc (Nat.le_refl _) _)
  have BX : Hid (Box1 (w.alloc (.cells #[.slice a 0 cap] 26)) w.heap.size 26 (.slice a 0 cap)) := Lib.hid (Box1.new _ _ _)
  go_enter Try.func44, Try.ntmps44
  go_wp2_with fail
  refine (A.out _ B0.out).mono ?_
  rintro e w2 ⟨rfl, b2⟩
  have B2 := Lib.hid (B0.out.step1 b2)
  have c1 := (BX.out.up b2).c
  clear b2
  go_wp2_with fail
  refine (isZeroM_any a 0 cap w2).mono ?_
  rintro e w3 ⟨rfl, b3⟩
  have B3 := Lib.hid (B2.out.step1 b3)
  clear b3
  go_wp2_with fail
  go_ret2
  exact ⟨rfl, B3.out⟩

theorem specNil_deg0 (b o m cap : Nat) (v : Value) (w : World) (hm : 0 < m) (hc : w.cell? ⟨b, o, none⟩ = some v) (hd : DegE w v 0) (A : Hid (∀ wx, Below w.heap.size w wx → Calls Try.prog 56 #[.agg #[.slice (some ⟨b, o, none⟩) m cap]] wx (SaysB true wx))) :
    Calls Try.prog 43 #[.agg #[.slice (some ⟨b, o, none⟩) m cap]] w (SaysN 0 5 w) := by
  have t2 := Try.underlying26
  have B0 : Hid (Below w.heap.size w (w.alloc (.cells #[.slice (some ⟨b, o, none⟩) m cap] 26))) := Lib.hid ((Below.refl w.heap.size w).alloc (Nat.le_refl _) _)
  have BX : Hid (Box1 (w.alloc (.cells #[.slice (some ⟨b, o, none⟩) m cap] 26)) w.heap.size 26 (.slice (some ⟨b, o, none⟩) m cap)) := Lib.hid (Box1.new _ _ _)
  have hz : ((m : Int) == 0) = false := by rw [beq_eq_false_iff_ne]; omega
  have hp : (0 : Int) < (m : Int) := by omega
  have HC := Lib.hid hc
  have HD := Lib.hid hd
  clear hc hd hm
  go_enter Try.func43, Try.ntmps43
  go_wp2_with fail
  refine (A.out _ B0.out).mono ?_
  rintro e w2 ⟨rfl, b2⟩
  have B2 := Lib.hid (B0.out.step1 b2)
  have c1 := (BX.out.up b2).c
  have c2 : w2.cell? ⟨b, o, none⟩ = some v := (B2.out.cell (p := ⟨b, o, none⟩) (World.block_lt_of_cell? w _ HC.out)).trans HC.out
  have D2 := Lib.hid (HD.out.below B2.out)
  clear b2
  go_wp2_with fail
  refine (l01Degree_is D2 0).mono ?_
  rintro e w3 ⟨rfl, q, rfl⟩
  go_wp2_with fail
  go_ret2
  exact ⟨rfl, below_drewN B2.out q⟩

theorem implNil_deg0 (b o m cap : Nat) (v : Value) (w : World) (hm : 0 < m) (hc : w.cell? ⟨b, o, none⟩ = some v) (hd : DegE w v 0) (A : Hid (∀ wx, Below w.heap.size w wx → Calls Try.prog 59 #[.agg #[.slice (some ⟨b, o, none⟩) m cap]] wx (SaysB true wx))) :
    Calls Try.prog 44 #[.agg #[.slice (some ⟨b, o, none⟩) m cap]] w (SaysN 0 5 w) := by
  have t2 := Try.underlying26
  have B0 : Hid (Below w.heap.size w (w.alloc (.cells #[.slice (some ⟨b, o, none⟩) m cap] 26))) := Lib.hid ((Below.refl w.heap.size w).alloc (Nat.le_refl _) _)
  have BX : Hid (Box1 (w.alloc (.cells #[.slice (some ⟨b, o, none⟩) m cap] 26)) w.heap.size 26 (.slice (some ⟨b, o, none⟩) m cap)) := Lib.hid (Box1.new _ _ _)
  have HC := Lib.hid hc
  have HD := Lib.hid hd
  have HM := Lib.hid hm
  have Z : Hid (∀ wx, Calls Try.prog 71 #[.agg #[.slice (some ⟨b, o, none⟩) m cap]] wx fun e w' => e = .returned (.bool false) ∧ Below wx.heap.size wx w') := Lib.hid fun wx => by
    have := isZeroM_any (some ⟨b, o, none⟩) m cap wx
    rw [decide_eq_false (by omega)] at this
    exact this
  clear hc hd hm
  go_enter Try.func44, Try.ntmps44
  go_wp2_with fail
  refine (A.out _ B0.out).mono ?_
  rintro e w2 ⟨rfl, b2⟩
  have B2 := Lib.hid (B0.out.step1 b2)
  have X2 := Lib.hid (BX.out.up b2)
  have c1 := X2.out.c
  clear b2
  go_wp2_with fail
  refine (Z.out w2).mono ?_
  rintro e w3 ⟨rfl, b3⟩
  have B3 := Lib.hid (B2.out.step1 b3)
  have c1 := (X2.out.up b3).c
  clear b3 X2
  go_wp2_with fail
  refine (degreeM_any _ m cap 0 w3 (fun h => by have := HM.out; omega) (by omega) (fun _ => ⟨b, o, v, rfl, (B3.out.cell (p := ⟨b, o, none⟩) (World.block_lt_of_cell? w _ HC.out)).trans HC.out, HD.out.below B3.out⟩)).mono ?_
  rintro e w4 ⟨rfl, b4⟩
  have B4 := Lib.hid (B3.out.step1 b4)
  clear b4
  go_wp2_with fail
  go_ret2
  exact ⟨rfl, B4.out⟩


/-- What the loop of the specification keeps. -/
structure NlI (w : World) (va S : Value) (VS : Nat → Value) (Y : Nat → List Int) (M B : Nat) (W : World) : Prop where
  bel : Below w.heap.size w W
  box : Box1 W w.heap.size 26 va
  fam : Fam W B S M VS Y

set_option maxHeartbeats 2000000 in
theorem specNil_ok (b o m cap : Nat) (v : Value) (x : Int) (n J : Nat) (y cd : Int) (X : Nat → List Int) (VA : Nat → Value) (Ba : Nat) (w : World) (hm : 0 < m) (hc : w.cell? ⟨b, o, none⟩ = some v) (hd : DegE w v x) (hx : 1 ≤ x ∧ x ≤ 40) (hn0 : 0 < n) (hn4 : n ≤ 40)
    (hle : ∀ j : Nat, j + 1 < n → ((j : Int) + 2) * x ≤ 40) (hgt : 40 < ((n : Int) + 1) * x) (hF : Fam w Ba (.slice (some ⟨b, o, none⟩) m cap) m VA X)
    (T : Hid (∀ j, j + 1 < n → ∀ wx S VS B, Below w.heap.size w wx → Fam wx B S (npw X m j).2 VS (npw X m j).1 → Calls Try.prog 47 #[S, .slice (some ⟨b, o, none⟩) m cap] wx (TermsPost (npL X m j) wx)))
    (hJ : J ≤ n) (hne : ∀ i, i < J → (npw X m i).2 ≠ 0) (hend : (J < n ∧ (npw X m J).2 = 0 ∧ y = (J : Int) + 1 ∧ cd = 0) ∨ (J = n ∧ y = 0 ∧ cd = 3))
    (A : Hid (∀ wx, Below w.heap.size w wx → Calls Try.prog 56 #[.agg #[.slice (some ⟨b, o, none⟩) m cap]] wx (SaysB true wx))) :
    Calls Try.prog 43 #[.agg #[.slice (some ⟨b, o, none⟩) m cap]] w (SaysN y cd w) := by
  have HF := Lib.hid hF
  have HLE := Lib.hid hle
  have HGT := Lib.hid hgt
  have HNE := Lib.hid hne
  have HEND := Lib.hid hend
  have hx0 : (x == 0) = false := by rw [beq_eq_false_iff_ne]; omega
  clear hF hle hgt hne hend
  have t2 := Try.underlying26
  have B0 : Hid (Below w.heap.size w (w.alloc (.cells #[.slice (some ⟨b, o, none⟩) m cap] 26))) := Lib.hid ((Below.refl w.heap.size w).alloc (Nat.le_refl _) _)
  have BX : Hid (Box1 (w.alloc (.cells #[.slice (some ⟨b, o, none⟩) m cap] 26)) w.heap.size 26 (.slice (some ⟨b, o, none⟩) m cap)) := Lib.hid (Box1.new _ _ _)
  have hz : ((m : Int) == 0) = false := by rw [beq_eq_false_iff_ne]; omega
  have hp : (0 : Int) < (m : Int) := by omega
  have HC := Lib.hid hc
  have HD := Lib.hid hd
  clear hc hd hm
  go_enter Try.func43, Try.ntmps43
  go_wp2_with fail
  refine (A.out _ B0.out).mono ?_
  rintro e w2 ⟨rfl, b2⟩
  have B2 := Lib.hid (B0.out.step1 b2)
  have X2 := Lib.hid (BX.out.up b2)
  have c1 := X2.out.c
  have c2 : w2.cell? ⟨b, o, none⟩ = some v := (B2.out.cell (p := ⟨b, o, none⟩) (World.block_lt_of_cell? w _ HC.out)).trans HC.out
  have D2 := Lib.hid (HD.out.below B2.out)
  clear b2
  go_wp2_with fail
  refine (l01Degree_is D2 0).mono ?_
  rintro e w3' ⟨rfl, qq, hw3⟩
  obtain ⟨w3, rfl⟩ : ∃ w3, w3 = w3' := ⟨_, rfl⟩
  have b23 : Below w2.heap.size w2 w3 := by rw [hw3]; exact below_drewN (Below.refl _ _) qq
  have N3 : Hid (NlI w (.slice (some ⟨b, o, none⟩) m cap) (.slice (some ⟨b, o, none⟩) m cap) VA (npw X m 0).1 (npw X m 0).2 Ba w3) := Lib.hid ⟨B2.out.step1 b23, X2.out.up b23, HF.out.below (B2.out.step1 b23)⟩
  have c1 := N3.out.box.c
  clear hw3 c2 b23 X2 D2
  go_wp2_with fail
  go_loopw [5, 6] (fun S kv wr => ∃ (j : Nat) (VS : Nat → Value) (B : Nat), j < n ∧ j ≤ J ∧ kv = .int .i64 ((j + 1 : Nat) : Int) ∧ Hid (NlI w (.slice (some ⟨b, o, none⟩) m cap) S VS (npw X m j).1 (npw X m j).2 B wr)) (fun _ kv _ => n + 1 - (intOf kv).toNat)
  case atStart => exact ⟨0, _, _, hn0, Nat.zero_le _, rfl, N3⟩
  case round =>
    clear N3 c1
    obtain ⟨j, VS, B, hj, hjJ, rfl, hI⟩ := hrel
    obtain ⟨sa, sc, e⟩ := hI.out.fam.rdss.head
    by_cases hz : (npw X m j).2 = 0
    · rw [hz] at e
      subst e
      have HY : Hid (y = ((j + 1 : Nat) : Int) ∧ cd = 0) := Lib.hid (by
        have hJ2 : j = J := by
          by_cases h : j < J
          · exact absurd hz (HNE.out j h)
          · omega
        rcases HEND.out with h | h <;> omega)
      have BI := Lib.hid hI.out.bel
      clear hz hI
      go_wp2_with fail
      go_ret2
      exact ⟨by rw [HY.out.1, HY.out.2]; rfl, BI.out⟩
    · have hM : 0 < (npw X m j).2 := by omega
      have hJ2 : j < J := by
        rcases HEND.out with h | h
        · by_cases e2 : j = J
          · subst e2; exact absurd h.2.1 hz
          · omega
        · omega
      have BI := Lib.hid hI.out.bel
      have c1 := hI.out.box.c
      have hpos : ((npw X m j).2 : Int) > 0 := by omega
      have hposd : (0 : Int) < ((npw X m j).2 : Int) := by omega
      subst e
      obtain ⟨k1, hk1⟩ : ∃ k1 : Nat, j + 1 = k1 := ⟨_, rfl⟩
      obtain ⟨P, hP⟩ : ∃ P, ((k1 : Int) + 1) * x = P := ⟨_, rfl⟩
      have hP0 : 0 ≤ P ∧ P ≤ 1640 := by
        rw [← hP]
        refine ⟨Int.mul_nonneg (by omega) (by omega), ?_⟩
        have : ((k1 : Int) + 1) * x ≤ 41 * 40 := Int.mul_le_mul (by omega) hx.2 (by omega) (by omega)
        omega
      have hw : wrap64 (((k1 : Int) + 1) * x) = P := by rw [hP]; unfold wrap64; omega
      have hk40 : k1 ≤ 40 := by omega
      by_cases hlt : j + 1 < n
      · have hP4 : ¬ 40 < P := by
          have := HLE.out j hlt
          rw [← hP, ← hk1]
          have e3 : ((j + 1 : Nat) : Int) + 1 = (j : Int) + 2 := by omega
          rw [e3]
          omega
        have ST := Lib.hid (T.out j hlt wr _ VS B hI.out.bel hI.out.fam)
        have NX := Lib.hid (fun w5 (hb : Below wr.heap.size wr w5) => hI.out.box.up hb)
        have HK1 := Lib.hid hk1
        have HNX : Hid (npw X m (j + 1) = (rowsOf (npL X m j), (npL X m j).length)) := Lib.hid rfl
        rw [hk1]
        generalize (npw X m j).2 = M at *
        clear hI hk1 hP hP0 hM hz
        go_wp2_with fail
        refine ST.out.mono ?_
        rintro e w5 ⟨V5, VS5, rfl, hF5, hS5, b5⟩
        have N5 : Hid (NlI w (.slice (some ⟨b, o, none⟩) m cap) V5 VS5 (npw X m (j + 1)).1 (npw X m (j + 1)).2 wr.heap.size w5) := Lib.hid ⟨BI.out.step1 b5, NX.out w5 b5, by rw [HNX.out]; exact hF5⟩
        clear hF5 hS5 b5 ST NX c1
        go_wp2_with fail
        go_roundw
        case rel => exact ⟨j + 1, VS5, _, by omega, by omega, by first | rfl | exact congrArg (Value.int .i64) (by have := HK1.out; omega), N5⟩
        case measure => have := HK1.out; simp [intOf]; omega
      · have hn : n = k1 := by omega
        have hP4 : 40 < P := by
          have := HGT.out
          rw [hn, hP] at this
          exact this
        have HY : Hid (y = 0 ∧ cd = 3) := Lib.hid (by rcases HEND.out with h | h <;> omega)
        rw [hk1]
        generalize (npw X m j).2 = M at *
        clear hI hk1 hP hP0 hM hz
        go_wp2_with fail
        go_ret2
        exact ⟨by rw [HY.out.1, HY.out.2]; rfl, BI.out⟩

set_option maxHeartbeats 2000000 in
theorem implNil_hit (b o m cap : Nat) (v : Value) (x : Int) (n J : Nat) (X : Nat → List Int) (w : World) (hm : 0 < m) (hr : RdSS w (.slice (some ⟨b, o, none⟩) m cap) m X) (hc : w.cell? ⟨b, o, none⟩ = some v) (hd : DegE w v x) (hx1 : 1 ≤ x) (hx : x ≤ 40) (hn0 : 0 < n) (hn4 : n ≤ 40) (hq : Int.tdiv 40 x = (n : Int))
    (T : Hid (∀ j, j + 1 < n → ∀ wx S, Below w.heap.size w wx → RdSS wx S (npw X m j).2 (npw X m j).1 → Calls Try.prog 50 #[.agg #[S], .agg #[.slice (some ⟨b, o, none⟩) m cap]] wx (ResT (npL X m j) wx)))
    (hJ : J < n) (hz : (npw X m J).2 = 0) (hne : ∀ i, i < J → (npw X m i).2 ≠ 0)
    (A : Hid (∀ wx, Below w.heap.size w wx → Calls Try.prog 59 #[.agg #[.slice (some ⟨b, o, none⟩) m cap]] wx (SaysB true wx))) :
    Calls Try.prog 44 #[.agg #[.slice (some ⟨b, o, none⟩) m cap]] w (SaysN ((J : Int) + 1) 0 w) := by
  have PW : Hid (∀ wx, Below w.heap.size w wx → Calls Try.prog 76 #[.agg #[.slice (some ⟨b, o, none⟩) m cap], .int .i64 (n : Int), .func (.func 50) #[] #[]] wx (PwPost wx X m n)) := Lib.hid fun wx hb =>
    powersOf_any X _ m cap n wx (hr.below hb) hn0 hn4 (Lib.hid fun j hj wy S hb2 hs => T.out j hj wy S (hb.step1 hb2) hs)
  have IX : Hid (∀ (wx : World) (g cp : Nat) (US : Nat → Value), g < wx.heap.size → (∀ j, j < n → wx.cell? ⟨g, j, none⟩ = some (US j)) → (∀ j, j < n → ∃ (a : Option Addr) (c : Nat), US j = .slice a (npw X m j).2 c) → Calls Try.prog 75 #[.slice (some ⟨g, 0, none⟩) n cp, .func (.func 71) #[] #[]] wx fun e w' => e = .returned (.int .i64 ((J : Nat) : Int)) ∧ Below wx.heap.size wx w') := Lib.hid fun wx g cp US hg h3 h4 =>
    idxZero_any g n cp US (fun j => (npw X m j).2) J ((J : Nat) : Int) wx hg h3 h4 hn4 (by omega) hne (.inl ⟨hJ, hz, rfl⟩)
  have hx0 : (x == 0) = false := by rw [beq_eq_false_iff_ne]; omega
  have hxn : ¬ x = 0 := by omega
  have HQ := Lib.hid hq
  have hq2 : wrap64 (Int.tdiv 40 x) = (n : Int) := by rw [hq]; unfold wrap64; omega
  have hq3 : IntKind.i64.wrap (Int.tdiv 40 x) = (n : Int) := by rw [hq, IntKind.wrap_i64]; omega
  have HJ : Hid (J ≤ 40) := Lib.hid (by omega)
  clear hr T hne hJ hz hx1 hq
  have t2 := Try.underlying26
  have B0 : Hid (Below w.heap.size w (w.alloc (.cells #[.slice (some ⟨b, o, none⟩) m cap] 26))) := Lib.hid ((Below.refl w.heap.size w).alloc (Nat.le_refl _) _)
  have BX : Hid (Box1 (w.alloc (.cells #[.slice (some ⟨b, o, none⟩) m cap] 26)) w.heap.size 26 (.slice (some ⟨b, o, none⟩) m cap)) := Lib.hid (Box1.new _ _ _)
  have HC := Lib.hid hc
  have HD := Lib.hid hd
  have HX := Lib.hid hx
  have HM := Lib.hid hm
  have Z : Hid (∀ wx, Calls Try.prog 71 #[.agg #[.slice (some ⟨b, o, none⟩) m cap]] wx fun e w' => e = .returned (.bool false) ∧ Below wx.heap.size wx w') := Lib.hid fun wx => by
    have := isZeroM_any (some ⟨b, o, none⟩) m cap wx
    rw [decide_eq_false (by omega)] at this
    exact this
  clear hc hd hx hm
  go_enter Try.func44, Try.ntmps44
  go_wp2_with fail
  refine (A.out _ B0.out).mono ?_
  rintro e w2 ⟨rfl, b2⟩
  have B2 := Lib.hid (B0.out.step1 b2)
  have X2 := Lib.hid (BX.out.up b2)
  have c1 := X2.out.c
  clear b2
  go_wp2_with fail
  refine (Z.out w2).mono ?_
  rintro e w3 ⟨rfl, b3⟩
  have B3 := Lib.hid (B2.out.step1 b3)
  have X3 := Lib.hid (X2.out.up b3)
  have c1 := X3.out.c
  clear b3 X2
  go_wp2_with fail
  refine (degreeM_any _ m cap x w3 (fun h => by have := HM.out; omega) HX.out (fun _ => ⟨b, o, v, rfl, (B3.out.cell (p := ⟨b, o, none⟩) (World.block_lt_of_cell? w _ HC.out)).trans HC.out, HD.out.below B3.out⟩)).mono ?_
  rintro e w4 ⟨rfl, b4⟩
  have B4 := Lib.hid (B3.out.step1 b4)
  have X4 := Lib.hid (X3.out.up b4)
  have c1 := X4.out.c
  clear b4 X3 B3 B2 c1
  have KEEP : Hid (∀ wx, Below w4.heap.size w4 wx → (wx.cell? ⟨w.heap.size, 0, none⟩ = some (.slice (some ⟨b, o, none⟩) m cap) ∧ Below w4.heap.size w4 wx)) := Lib.hid (fun wx hb => ⟨(X4.out.up hb).c, hb⟩)
  go_wp2_with fail
  go_region_held3 (fun wx => wx.cell? ⟨w.heap.size, 0, none⟩ = some (.slice (some ⟨b, o, none⟩) m cap) ∧ Below w4.heap.size w4 wx)
    (first | exact KEEP.out _ (Below.refl _ _).drew | exact KEEP.out _ (by assumption))
    (first
      | (go_at_call 76; refine (PW.out _ (Below.step1 B4.out ?_)).mono ?_; (first | assumption | exact (Below.refl _ _).drew); rintro e w6 ⟨g6, cp6, US6, rfl, hg6, hc6, hs6, b6⟩; have z6 : Below w4.heap.size w4 w6 := Below.step1 (by first | assumption | exact (Below.refl _ _).drew) b6)
      | (go_at_call 75; refine (IX.out _ _ _ _ hg6 hc6 hs6).mono ?_; rintro e w7 ⟨rfl, b7⟩; have z7 := z6.step1 b7))
  have B7 := Lib.hid (B4.out.step1 z7)
  clear z7 z6 b6 b7 hg6 hc6 hs6 X4 B4 KEEP PW IX
  have hj4 := HJ.out
  go_wp2_with fail
  go_ret2
  exact ⟨rfl, B7.out⟩

set_option maxHeartbeats 2000000 in
theorem implNil_miss (b o m cap : Nat) (v : Value) (x : Int) (n J : Nat) (X : Nat → List Int) (w : World) (hm : 0 < m) (hr : RdSS w (.slice (some ⟨b, o, none⟩) m cap) m X) (hc : w.cell? ⟨b, o, none⟩ = some v) (hd : DegE w v x) (hx1 : 1 ≤ x) (hx : x ≤ 40) (hn0 : 0 < n) (hn4 : n ≤ 40) (hq : Int.tdiv 40 x = (n : Int))
    (T : Hid (∀ j, j + 1 < n → ∀ wx S, Below w.heap.size w wx → RdSS wx S (npw X m j).2 (npw X m j).1 → Calls Try.prog 50 #[.agg #[S], .agg #[.slice (some ⟨b, o, none⟩) m cap]] wx (ResT (npL X m j) wx)))
    (hJ : J = n) (hne : ∀ i, i < J → (npw X m i).2 ≠ 0)
    (A : Hid (∀ wx, Below w.heap.size w wx → Calls Try.prog 59 #[.agg #[.slice (some ⟨b, o, none⟩) m cap]] wx (SaysB true wx))) :
    Calls Try.prog 44 #[.agg #[.slice (some ⟨b, o, none⟩) m cap]] w (SaysN 0 3 w) := by
  have PW : Hid (∀ wx, Below w.heap.size w wx → Calls Try.prog 76 #[.agg #[.slice (some ⟨b, o, none⟩) m cap], .int .i64 (n : Int), .func (.func 50) #[] #[]] wx (PwPost wx X m n)) := Lib.hid fun wx hb =>
    powersOf_any X _ m cap n wx (hr.below hb) hn0 hn4 (Lib.hid fun j hj wy S hb2 hs => T.out j hj wy S (hb.step1 hb2) hs)
  have IX : Hid (∀ (wx : World) (g cp : Nat) (US : Nat → Value), g < wx.heap.size → (∀ j, j < n → wx.cell? ⟨g, j, none⟩ = some (US j)) → (∀ j, j < n → ∃ (a : Option Addr) (c : Nat), US j = .slice a (npw X m j).2 c) → Calls Try.prog 75 #[.slice (some ⟨g, 0, none⟩) n cp, .func (.func 71) #[] #[]] wx fun e w' => e = .returned (.int .i64 (-1)) ∧ Below wx.heap.size wx w') := Lib.hid fun wx g cp US hg h3 h4 =>
    idxZero_any g n cp US (fun j => (npw X m j).2) J (-1) wx hg h3 h4 hn4 (by omega) hne (.inr ⟨hJ, rfl⟩)
  have hx0 : (x == 0) = false := by rw [beq_eq_false_iff_ne]; omega
  have hxn : ¬ x = 0 := by omega
  have HQ := Lib.hid hq
  have hq2 : wrap64 (Int.tdiv 40 x) = (n : Int) := by rw [hq]; unfold wrap64; omega
  have hq3 : IntKind.i64.wrap (Int.tdiv 40 x) = (n : Int) := by rw [hq, IntKind.wrap_i64]; omega
  have HJ : Hid (J ≤ 40) := Lib.hid (by omega)
  clear hr T hne hJ hx1 hq
  have t2 := Try.underlying26
  have B0 : Hid (Below w.heap.size w (w.alloc (.cells #[.slice (some ⟨b, o, none⟩) m cap] 26))) := Lib.hid ((Below.refl w.heap.size w).alloc (Nat.le_refl _) _)
  have BX : Hid (Box1 (w.alloc (.cells #[.slice (some ⟨b, o, none⟩) m cap] 26)) w.heap.size 26 (.slice (some ⟨b, o, none⟩) m cap)) := Lib.hid (Box1.new _ _ _)
  have HC := Lib.hid hc
  have HD := Lib.hid hd
  have HX := Lib.hid hx
  have HM := Lib.hid hm
  have Z : Hid (∀ wx, Calls Try.prog 71 #[.agg #[.slice (some ⟨b, o, none⟩) m cap]] wx fun e w' => e = .returned (.bool false) ∧ Below wx.heap.size wx w') := Lib.hid fun wx => by
    have := isZeroM_any (some ⟨b, o, none⟩) m cap wx
    rw [decide_eq_false (by omega)] at this
    exact this
  clear hc hd hx hm
  go_enter Try.func44, Try.ntmps44
  go_wp2_with fail
  refine (A.out _ B0.out).mono ?_
  rintro e w2 ⟨rfl, b2⟩
  have B2 := Lib.hid (B0.out.step1 b2)
  have X2 := Lib.hid (BX.out.up b2)
  have c1 := X2.out.c
  clear b2
  go_wp2_with fail
  refine (Z.out w2).mono ?_
  rintro e w3 ⟨rfl, b3⟩
  have B3 := Lib.hid (B2.out.step1 b3)
  have X3 := Lib.hid (X2.out.up b3)
  have c1 := X3.out.c
  clear b3 X2
  go_wp2_with fail
  refine (degreeM_any _ m cap x w3 (fun h => by have := HM.out; omega) HX.out (fun _ => ⟨b, o, v, rfl, (B3.out.cell (p := ⟨b, o, none⟩) (World.block_lt_of_cell? w _ HC.out)).trans HC.out, HD.out.below B3.out⟩)).mono ?_
  rintro e w4 ⟨rfl, b4⟩
  have B4 := Lib.hid (B3.out.step1 b4)
  have X4 := Lib.hid (X3.out.up b4)
  have c1 := X4.out.c
  clear b4 X3 B3 B2 c1
  have KEEP : Hid (∀ wx, Below w4.heap.size w4 wx → (wx.cell? ⟨w.heap.size, 0, none⟩ = some (.slice (some ⟨b, o, none⟩) m cap) ∧ Below w4.heap.size w4 wx)) := Lib.hid (fun wx hb => ⟨(X4.out.up hb).c, hb⟩)
  go_wp2_with fail
  go_region_held3 (fun wx => wx.cell? ⟨w.heap.size, 0, none⟩ = some (.slice (some ⟨b, o, none⟩) m cap) ∧ Below w4.heap.size w4 wx)
    (first | exact KEEP.out _ (Below.refl _ _).drew | exact KEEP.out _ (by assumption))
    (first
      | (go_at_call 76; refine (PW.out _ (Below.step1 B4.out ?_)).mono ?_; (first | assumption | exact (Below.refl _ _).drew); rintro e w6 ⟨g6, cp6, US6, rfl, hg6, hc6, hs6, b6⟩; have z6 : Below w4.heap.size w4 w6 := Below.step1 (by first | assumption | exact (Below.refl _ _).drew) b6)
      | (go_at_call 75; refine (IX.out _ _ _ _ hg6 hc6 hs6).mono ?_; rintro e w7 ⟨rfl, b7⟩; have z7 := z6.step1 b7))
  have B7 := Lib.hid (B4.out.step1 z7)
  clear z7 z6 b6 b7 hg6 hc6 hs6 X4 B4 KEEP PW IX
  have hj4 := HJ.out
  go_wp2_with fail
  go_ret2
  exact ⟨rfl, B7.out⟩

theorem tdiv40 {x : Int} (h1 : 1 ≤ x) : ∃ n : Nat, Int.tdiv 40 x = (n : Int) ∧ n ≤ 40 ∧ (n : Int) * x ≤ 40 ∧ 40 < ((n : Int) + 1) * x := by
  obtain ⟨d, rfl⟩ : ∃ d : Nat, x = (d : Int) := ⟨x.toNat, by omega⟩
  have hd : 0 < d := by omega
  refine ⟨40 / d, ?_, Nat.div_le_self _ _, ?_, ?_⟩
  · rw [Int.tdiv_eq_ediv_of_nonneg (by omega)]; rfl
  · have := Nat.div_mul_le_self 40 d
    exact_mod_cast this
  · have h3 := Nat.div_add_mod 40 d
    have h4 := Nat.mod_lt 40 hd
    have h2 : 40 < (40 / d + 1) * d := by
      rw [Nat.add_mul, Nat.one_mul, Nat.mul_comm (40 / d) d]
      omega
    exact_mod_cast h2
/-- The first power that is 0, if there is one ahead of n. -/
theorem first_zero (M : Nat → Nat) : ∀ n : Nat, ∃ J, J ≤ n ∧ (∀ i, i < J → M i ≠ 0) ∧ ((J < n ∧ M J = 0) ∨ J = n)
  | 0 => ⟨0, Nat.le_refl _, fun i hi => absurd hi (Nat.not_lt_zero _), .inr rfl⟩
  | n + 1 => by
    obtain ⟨J, h1, h2, h3⟩ := first_zero M n
    rcases h3 with h3 | h3
    · exact ⟨J, by omega, h2, .inl ⟨by omega, h3.2⟩⟩
    · subst h3
      by_cases e : M J = 0
      · exact ⟨J, by omega, h2, .inl ⟨by omega, e⟩⟩
      · refine ⟨J + 1, Nat.le_refl _, fun i hi => ?_, .inr rfl⟩
        by_cases c : i = J
        · subst c; exact e
        · exact h2 i (by omega)

theorem NilM_both (X : Nat → List Int) (m : Nat) : ∃ y cd : Int,
    (∀ V VA B w, Fam w B V m VA X → Calls Try.prog 43 #[.agg #[V]] w (SaysN y cd w)) ∧
    (∀ V w, RdSS w V m X → Calls Try.prog 44 #[.agg #[V]] w (SaysN y cd w)) := by
  by_cases hok : okMl X m
  · by_cases hm : m = 0
    · subst hm
      refine ⟨1, 0, fun V VA B w h => ?_, fun V w h => ?_⟩
      · obtain ⟨a, cap, rfl⟩ := h.rdss.head
        exact specNil_zero a cap w (Lib.hid fun wx hx => (isM_yes X 0 hok).1 _ wx (h.rdss.below hx))
      · obtain ⟨a, cap, rfl⟩ := h.head
        exact implNil_zero a cap w (Lib.hid fun wx hx => (isM_yes X 0 hok).2 _ wx (h.below hx))
    · have hm0 : 0 < m := by omega
      have hx := okMl_deg hok hm0
      by_cases hd0 : dgL (X 0) = 0
      · refine ⟨0, 5, fun V VA B w h => ?_, fun V w h => ?_⟩
        · obtain ⟨b, o, v, cap, rfl, hc, hd⟩ := headD hok hm0 h.rdss
          exact specNil_deg0 b o m cap v w hm0 hc (by rw [hd0] at hd; exact hd) (Lib.hid fun wx hx => (isM_yes X m hok).1 _ wx (h.rdss.below hx))
        · obtain ⟨b, o, v, cap, rfl, hc, hd⟩ := headD hok hm0 h
          exact implNil_deg0 b o m cap v w hm0 hc (by rw [hd0] at hd; exact hd) (Lib.hid fun wx hx => (isM_yes X m hok).2 _ wx (h.below hx))
      · have hx1 : 1 ≤ dgL (X 0) := by omega
        obtain ⟨n, hq, hn4, hle, hgt⟩ := tdiv40 hx1
        have hn0 : 0 < n := by
          rcases Nat.eq_zero_or_pos n with e | e
          · subst e; simp at hgt; omega
          · exact e
        have hall := np_all hok hx.1 hle
        have hfac : ∀ j, j + 1 < n → Fac (npw X m j).1 X (npw X m j).2 m := fun j hj => np_fac hok (hall j (by omega)) (np_le hx.1 hj hle)
        obtain ⟨J, hJ, hne, hend⟩ := first_zero (fun j => (npw X m j).2) n
        have SPEC : ∀ y cd : Int, ((J < n ∧ (npw X m J).2 = 0 ∧ y = (J : Int) + 1 ∧ cd = 0) ∨ (J = n ∧ y = 0 ∧ cd = 3)) → ∀ V VA B w, Fam w B V m VA X → Calls Try.prog 43 #[.agg #[V]] w (SaysN y cd w) := fun y cd he V VA B w h => by
          obtain ⟨b, o, v, cap, rfl, hc, hd⟩ := headD hok hm0 h.rdss
          exact specNil_ok b o m cap v _ n J y cd X VA B w hm0 hc hd ⟨hx1, hx.2⟩ hn0 hn4 (fun j hj => np_le hx.1 hj hle) hgt h (Lib.hid fun j hj wx S VS B2 hb hf => specTimes (hfac j hj) _ _ VS VA B2 B wx hf (h.below hb)) hJ hne he (Lib.hid fun wx hx => (isM_yes X m hok).1 _ wx (h.rdss.below hx))
        have TI : ∀ b o cap w, RdSS w (.slice (some ⟨b, o, none⟩) m cap) m X → Hid (∀ j, j + 1 < n → ∀ wx S, Below w.heap.size w wx → RdSS wx S (npw X m j).2 (npw X m j).1 → Calls Try.prog 50 #[.agg #[S], .agg #[.slice (some ⟨b, o, none⟩) m cap]] wx (ResT (npL X m j) wx)) := fun b o cap w h =>
          Lib.hid fun j hj wx S hb hs => implTimes (hfac j hj) _ _ wx hs (h.below hb)
        rcases hend with ⟨h1, h2⟩ | h1
        · refine ⟨(J : Int) + 1, 0, SPEC _ _ (.inl ⟨h1, h2, rfl, rfl⟩), fun V w h => ?_⟩
          obtain ⟨b, o, v, cap, rfl, hc, hd⟩ := headD hok hm0 h
          exact implNil_hit b o m cap v _ n J X w hm0 h hc hd hx1 hx.2 hn0 hn4 hq (TI b o cap w h) h1 h2 hne (Lib.hid fun wx hx => (isM_yes X m hok).2 _ wx (h.below hx))
        · refine ⟨0, 3, SPEC _ _ (.inr ⟨h1, rfl, rfl⟩), fun V w h => ?_⟩
          obtain ⟨b, o, v, cap, rfl, hc, hd⟩ := headD hok hm0 h
          exact implNil_miss b o m cap v _ n J X w hm0 h hc hd hx1 hx.2 hn0 hn4 hq (TI b o cap w h) h1 hne (Lib.hid fun wx hx => (isM_yes X m hok).2 _ wx (h.below hx))
  · refine ⟨0, 1, fun V VA B w h => ?_, fun V w h => ?_⟩
    · obtain ⟨a, cap, rfl⟩ := h.rdss.head
      exact specNil_bad a m cap w (Lib.hid fun wx hx => (isM_no X m hok).1 _ wx (h.rdss.below hx))
    · obtain ⟨a, cap, rfl⟩ := h.head
      exact implNil_bad a m cap w (Lib.hid fun wx hx => (isM_no X m hok).2 _ wx (h.below hx))
end Go.Proofs.Ytfgkpkdoemnnmaa.Ml
end
