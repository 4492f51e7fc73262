/-
  spec.IsDecomposable and impl.IsDecomposable answer the same.
-/
import Derived.Test.YthklgkccldklaaaNDeg
import Derived.Test.YthklgkccldklaaaNBin
import Derived.Test.YthklgkccldklaaaWOnes
namespace Go.Proofs.Ythklgkccldklaaa.Ml
open Go.RowKit
set_option linter.unusedVariables false
set_option maxRecDepth 100000

/-- A call that answers a truth and a code, and leaves what there was. -/
def SaysBC (x : Bool) (c : Int) (w : World) (e : Ending) (w' : World) : Prop := e = .returned (.tuple #[.bool x, .int .i64 c]) ∧ Below w.heap.size w w'
def okTwo (d : Nat) : Bool := if d = 0 then true else (decide (d &&& (d - 1) ≠ 0) == decide (1 < pcl 64 d))
theorem two_b : ∀ d, d < 41 → okTwo d = true := by decide +kernel
theorem two_ones {d : Nat} (h0 : 0 < d) (h : d ≤ 40) : (bits .and .i64 (d : Int) ((d : Int) - 1) != 0) = decide (1 < pcl 64 d) := by
  have h1 := two_b d (by omega)
  unfold okTwo at h1
  rw [if_neg (by omega)] at h1
  have h2 := eq_of_beq h1
  rw [show (d : Int) - 1 = ((d - 1 : Nat) : Int) by omega, i64_and d (d - 1) (by omega) (by omega), ← h2]
  by_cases c : d &&& (d - 1) = 0
  · rw [c]; simp
  · rw [decide_eq_true c, bne_iff_ne]
    omega
theorem rd_new (w : World) (x : Int) : RdL (w.alloc (.cells #[.int .i64 x] 2)) (.slice (some ⟨w.heap.size, 0, none⟩) 1 1) [x] :=
  rd_of_own (B := w.heap.size) (zs := [x]) ⟨rfl, .inr ⟨w.heap.size, 1, #[.int .i64 x], rfl, Nat.le_refl _, heap_alloc_new w _, Nat.le_refl _, by unfold maxLen; omega, rfl, rfl⟩⟩ rfl

theorem dgL_nonneg {l : List Int} (h : goodE l) : 0 ≤ dgL l := by
  have hs : ∀ j, j < 10 → 1 ≤ sp j ∧ sp j ≤ 1023 := fun j hj => by
    have : j = 0 ∨ j = 1 ∨ j = 2 ∨ j = 3 ∨ j = 4 ∨ j = 5 ∨ j = 6 ∨ j = 7 ∨ j = 8 ∨ j = 9 := by omega
    rcases this with rfl | rfl | rfl | rfl | rfl | rfl | rfl | rfl | rfl | rfl <;> decide
  have key : ∀ n, n ≤ l.length → 0 ≤ dgr (gOf l) n ∧ dgr (gOf l) n ≤ (n : Int) * 1023000000000000 := fun n => by
    induction n with
    | zero => intro _; exact ⟨Int.le_refl _, by simp [dgr]⟩
    | succ n ih =>
      intro hn
      have h10 := h.1.1
      obtain ⟨h1, h2⟩ := ih (by omega)
      obtain ⟨g1, g2⟩ := h.1.2.2 n (by omega)
      obtain ⟨p1, p2⟩ := hs n (by omega)
      have q1 : 0 ≤ gOf l n * (sp n : Int) := Int.mul_nonneg g1 (by omega)
      have q2 : gOf l n * (sp n : Int) ≤ 1000000000000 * 1023 := Int.mul_le_mul g2 (by omega) (by omega) (by omega)
      have e : dgr (gOf l) (n + 1) = wrap64 (dgr (gOf l) n + wrap64 (gOf l n * (sp n : Int))) := rfl
      rw [e]
      generalize gOf l n * (sp n : Int) = pr at q1 q2 ⊢
      generalize dgr (gOf l) n = y at h1 h2 ⊢
      have w1 : wrap64 pr = pr := by unfold wrap64; omega
      rw [w1]
      have w2 : wrap64 (y + pr) = y + pr := by unfold wrap64; omega
      rw [w2]
      omega
  exact (key l.length (Nat.le_refl _)).1
theorem specDec_bad (a : Option Addr) (m cap : Nat) (w : World) (A : Hid (∀ wx, Below w.heap.size w wx → Calls Try.prog 28 #[.agg #[.slice a m cap]] wx (SaysB false wx))) :
    Calls Try.prog 18 #[.agg #[.slice a m cap]] w (SaysBC false 1 w) := by
  have t2 := Try.underlying24
  have B0 : Hid (Below w.heap.size w (w.alloc (.cells #[.slice a m cap] 24))) := Lib.hid ((Below.refl w.heap.size w).alloc (Nat.le_refl _) _)
  go_enter Try.func18, Try.ntmps18
  go_wp2_with fail
  refine (A.out _ B0.out).mono ?_
  rintro e w2 ⟨rfl, b2⟩
  have B2 := Lib.hid (B0.out.step1 b2)
  clear b2
  go_wp2_with fail
  go_ret2
  exact ⟨rfl, B2.out⟩
theorem implDec_bad (a : Option Addr) (m cap : Nat) (w : World) (A : Hid (∀ wx, Below w.heap.size w wx → Calls Try.prog 30 #[.agg #[.slice a m cap]] wx (SaysB false wx))) :
    Calls Try.prog 19 #[.agg #[.slice a m cap]] w (SaysBC false 1 w) := by
  have t2 := Try.underlying24
  have B0 : Hid (Below w.heap.size w (w.alloc (.cells #[.slice a m cap] 24))) := Lib.hid ((Below.refl w.heap.size w).alloc (Nat.le_refl _) _)
  go_enter Try.func19, Try.ntmps19
  go_wp2_with fail
  refine (A.out _ B0.out).mono ?_
  rintro e w2 ⟨rfl, b2⟩
  have B2 := Lib.hid (B0.out.step1 b2)
  clear b2
  go_wp2_with fail
  go_ret2
  exact ⟨rfl, B2.out⟩
theorem specDec_zero (a : Option Addr) (cap : Nat) (w : World) (A : Hid (∀ wx, Below w.heap.size w wx → Calls Try.prog 28 #[.agg #[.slice a 0 cap]] wx (SaysB true wx))) :
    Calls Try.prog 18 #[.agg #[.slice a 0 cap]] w (SaysBC true 0 w) := by
  have t2 := Try.underlying24
  have B0 : Hid (Below w.heap.size w (w.alloc (.cells #[.slice a 0 cap] 24))) := Lib.hid ((Below.refl w.heap.size w).alloc (Nat.le_refl _) _)
  have BX : Hid (Box1 (w.alloc (.cells #[.slice a 0 cap] 24)) w.heap.size 24 (.slice a 0 cap)) := Lib.hid (Box1.new _ _ _)
  go_enter Try.func18, Try.ntmps18
  go_wp2_with fail
  refine (A.out _ B0.out).mono ?_
  rintro e w2 ⟨rfl, b2⟩
  have B2 := Lib.hid (B0.out.step1 b2)
  have c1 := (BX.out.up b2).c
  clear b2
  go_wp2_with fail
  go_ret2
  exact ⟨rfl, B2.out⟩
theorem implDec_zero (a : Option Addr) (cap : Nat) (w : World) (A : Hid (∀ wx, Below w.heap.size w wx → Calls Try.prog 30 #[.agg #[.slice a 0 cap]] wx (SaysB true wx))) :
    Calls Try.prog 19 #[.agg #[.slice a 0 cap]] w (SaysBC true 0 w) := by
  have t2 := Try.underlying24
  have B0 : Hid (Below w.heap.size w (w.alloc (.cells #[.slice a 0 cap] 24))) := Lib.hid ((Below.refl w.heap.size w).alloc (Nat.le_refl _) _)
  have BX : Hid (Box1 (w.alloc (.cells #[.slice a 0 cap] 24)) w.heap.size 24 (.slice a 0 cap)) := Lib.hid (Box1.new _ _ _)
  go_enter Try.func19, Try.ntmps19
  go_wp2_with fail
  refine (A.out _ B0.out).mono ?_
  rintro e w2 ⟨rfl, b2⟩
  have B2 := Lib.hid (B0.out.step1 b2)
  have c1 := (BX.out.up b2).c
  clear b2
  go_wp2_with fail
  refine (isZeroM_any a 0 cap w2).mono ?_
  rintro e w3 ⟨rfl, b3⟩
  have B3 := Lib.hid (B2.out.step1 b3)
  clear b3
  go_wp2_with fail
  go_ret2
  exact ⟨rfl, B3.out⟩


/-- What there is behind the two tests. -/
theorem specDec_deg0 (b o m cap : Nat) (v : Value) (w : World) (hm : 0 < m) (hc : w.cell? ⟨b, o, none⟩ = some v) (hd : DegE w v 0) (A : Hid (∀ wx, Below w.heap.size w wx → Calls Try.prog 28 #[.agg #[.slice (some ⟨b, o, none⟩) m cap]] wx (SaysB true wx))) :
    Calls Try.prog 18 #[.agg #[.slice (some ⟨b, o, none⟩) m cap]] w (SaysBC false 0 w) := by
  have t2 := Try.underlying24
  have B0 : Hid (Below w.heap.size w (w.alloc (.cells #[.slice (some ⟨b, o, none⟩) m cap] 24))) := Lib.hid ((Below.refl w.heap.size w).alloc (Nat.le_refl _) _)
  have BX : Hid (Box1 (w.alloc (.cells #[.slice (some ⟨b, o, none⟩) m cap] 24)) w.heap.size 24 (.slice (some ⟨b, o, none⟩) m cap)) := Lib.hid (Box1.new _ _ _)
  have hz : ((m : Int) == 0) = false := by rw [beq_eq_false_iff_ne]; omega
  have hp : (0 : Int) < (m : Int) := by omega
  have HC := Lib.hid hc
  have HD := Lib.hid hd
  clear hc hd hm
  go_enter Try.func18, Try.ntmps18
  go_wp2_with fail
  refine (A.out _ B0.out).mono ?_
  rintro e w2 ⟨rfl, b2⟩
  have B2 := Lib.hid (B0.out.step1 b2)
  have c1 := (BX.out.up b2).c
  have c2 : w2.cell? ⟨b, o, none⟩ = some v := (B2.out.cell (p := ⟨b, o, none⟩) (World.block_lt_of_cell? w _ HC.out)).trans HC.out
  have D2 := Lib.hid (HD.out.below B2.out)
  clear b2
  go_wp2_with fail
  refine (l01Degree_is D2 0).mono ?_
  rintro e w3 ⟨rfl, q, rfl⟩
  go_wp2_with fail
  go_ret2
  exact ⟨rfl, below_drewN B2.out q⟩
theorem specDec_yes (b o m cap : Nat) (v : Value) (d : Nat) (w : World) (hm : 0 < m) (h0 : 0 < d) (h40 : d ≤ 40) (hone : decide (1 < pcl 64 d) = true) (hc : w.cell? ⟨b, o, none⟩ = some v) (hd : DegE w v d) (A : Hid (∀ wx, Below w.heap.size w wx → Calls Try.prog 28 #[.agg #[.slice (some ⟨b, o, none⟩) m cap]] wx (SaysB true wx))) :
    Calls Try.prog 18 #[.agg #[.slice (some ⟨b, o, none⟩) m cap]] w (SaysBC true 0 w) := by
  have t2 := Try.underlying24
  have B0 : Hid (Below w.heap.size w (w.alloc (.cells #[.slice (some ⟨b, o, none⟩) m cap] 24))) := Lib.hid ((Below.refl w.heap.size w).alloc (Nat.le_refl _) _)
  have BX : Hid (Box1 (w.alloc (.cells #[.slice (some ⟨b, o, none⟩) m cap] 24)) w.heap.size 24 (.slice (some ⟨b, o, none⟩) m cap)) := Lib.hid (Box1.new _ _ _)
  have hz : ((m : Int) == 0) = false := by rw [beq_eq_false_iff_ne]; omega
  have hp : (0 : Int) < (m : Int) := by omega
  have hdz : ((d : Int) == 0) = false := by rw [beq_eq_false_iff_ne]; omega
  have TW := two_ones h0 h40
  rw [hone] at TW
  have HC := Lib.hid hc
  have HD := Lib.hid hd
  have hd40 : (d : Int) ≤ 40 := by omega
  clear hc hd hm hone
  go_enter Try.func18, Try.ntmps18
  go_wp2_with fail
  refine (A.out _ B0.out).mono ?_
  rintro e w2 ⟨rfl, b2⟩
  have B2 := Lib.hid (B0.out.step1 b2)
  have c1 := (BX.out.up b2).c
  have c2 : w2.cell? ⟨b, o, none⟩ = some v := (B2.out.cell (p := ⟨b, o, none⟩) (World.block_lt_of_cell? w _ HC.out)).trans HC.out
  have D2 := Lib.hid (HD.out.below B2.out)
  clear b2
  go_wp2_with fail
  refine (l01Degree_is D2 0).mono ?_
  rintro e w3 ⟨rfl, q, rfl⟩
  go_wp2_with fail
  go_ret2
  exact ⟨rfl, below_drewN B2.out q⟩
theorem specDec_ask (b o m cap : Nat) (v : Value) (d : Nat) (X : Nat → List Int) (w : World) (hR : RdSS w (.slice (some ⟨b, o, none⟩) m cap) m X) (hok : okMl X m) (hm : 0 < m) (h0 : 0 < d) (h40 : d ≤ 40) (hone : decide (1 < pcl 64 d) = false) (hc : w.cell? ⟨b, o, none⟩ = some v) (hd : DegE w v d) (A : Hid (∀ wx, Below w.heap.size w wx → Calls Try.prog 28 #[.agg #[.slice (some ⟨b, o, none⟩) m cap]] wx (SaysB true wx))) :
    Calls Try.prog 18 #[.agg #[.slice (some ⟨b, o, none⟩) m cap]] w (SaysBC (!hasB X m [(d : Int)]) 0 w) := by
  have t2 := Try.underlying24
  have B0 : Hid (Below w.heap.size w (w.alloc (.cells #[.slice (some ⟨b, o, none⟩) m cap] 24))) := Lib.hid ((Below.refl w.heap.size w).alloc (Nat.le_refl _) _)
  have BX : Hid (Box1 (w.alloc (.cells #[.slice (some ⟨b, o, none⟩) m cap] 24)) w.heap.size 24 (.slice (some ⟨b, o, none⟩) m cap)) := Lib.hid (Box1.new _ _ _)
  have hz : ((m : Int) == 0) = false := by rw [beq_eq_false_iff_ne]; omega
  have hp : (0 : Int) < (m : Int) := by omega
  have hdz : ((d : Int) == 0) = false := by rw [beq_eq_false_iff_ne]; omega
  have TW := two_ones h0 h40
  rw [hone] at TW
  have HC := Lib.hid hc
  have HD := Lib.hid hd
  have HR := Lib.hid hR
  have hm2 := hok.1.1
  have hd40 : (d : Int) ≤ 40 := by omega
  clear hc hd hm hone hR hok
  go_enter Try.func18, Try.ntmps18
  go_wp2_with fail
  refine (A.out _ B0.out).mono ?_
  rintro e w2 ⟨rfl, b2⟩
  have B2 := Lib.hid (B0.out.step1 b2)
  have C1 := Lib.hid ((BX.out.up b2))
  have c1 := C1.out.c
  have c2 : w2.cell? ⟨b, o, none⟩ = some v := (B2.out.cell (p := ⟨b, o, none⟩) (World.block_lt_of_cell? w _ HC.out)).trans HC.out
  have D2 := Lib.hid (HD.out.below B2.out)
  clear b2
  go_wp2_with fail
  refine (l01Degree_is D2 0).mono ?_
  rintro e w3' ⟨rfl, q, hw3⟩
  obtain ⟨w3, rfl⟩ : ∃ w3, w3 = w3' := ⟨_, rfl⟩
  have b3 : Below w2.heap.size w2 w3 := by rw [hw3]; exact below_drewN (below_drewN (Below.refl _ _) 0) q
  have B3 := Lib.hid (B2.out.step1 b3)
  have c1 := (C1.out.up b3).c
  have b4 : Below w3.heap.size w3 (w3.alloc (.cells #[.int .i64 (d : Int)] 2)) := (Below.refl _ _).alloc (Nat.le_refl _) _
  have B4 := Lib.hid (B3.out.step1 b4)
  have PL := Lib.hid (l01Place_any _ m X _ [(d : Int)] _ (HR.out.below B4.out) (rd_new w3 (d : Int)) hm2)
  clear b3 b4 hw3 c2
  go_wp2_with fail
  refine PL.out.mono ?_
  rintro e w5' ⟨i, rfl, hi, hb, q5, hw5⟩
  obtain ⟨w5, rfl⟩ : ∃ w5, w5 = w5' := ⟨_, rfl⟩
  have B5 : Hid (Below w.heap.size w w5) := Lib.hid (by rw [hw5]; exact below_drewN B4.out q5)
  have HB : Hid (decide (i < 0) = !hasB X m [(d : Int)]) := Lib.hid (by
    rw [← hb]
    by_cases c : 0 ≤ i
    · rw [decide_eq_true c, decide_eq_false (by omega)]; rfl
    · rw [decide_eq_false c, decide_eq_true (by omega)]; rfl)
  clear hw5 hb PL
  go_wp2_with fail
  go_ret2
  exact ⟨by rw [HB.out]; rfl, B5.out⟩

theorem implDec_deg0 (b o m cap : Nat) (v : Value) (w : World) (hm : 0 < m) (hc : w.cell? ⟨b, o, none⟩ = some v) (hd : DegE w v 0) (A : Hid (∀ wx, Below w.heap.size w wx → Calls Try.prog 30 #[.agg #[.slice (some ⟨b, o, none⟩) m cap]] wx (SaysB true wx))) :
    Calls Try.prog 19 #[.agg #[.slice (some ⟨b, o, none⟩) m cap]] w (SaysBC false 0 w) := by
  have t2 := Try.underlying24
  have B0 : Hid (Below w.heap.size w (w.alloc (.cells #[.slice (some ⟨b, o, none⟩) m cap] 24))) := Lib.hid ((Below.refl w.heap.size w).alloc (Nat.le_refl _) _)
  have BX : Hid (Box1 (w.alloc (.cells #[.slice (some ⟨b, o, none⟩) m cap] 24)) w.heap.size 24 (.slice (some ⟨b, o, none⟩) m cap)) := Lib.hid (Box1.new _ _ _)
  have HC := Lib.hid hc
  have HD := Lib.hid hd
  have HM := Lib.hid hm
  have Z : Hid (∀ wx, Calls Try.prog 31 #[.agg #[.slice (some ⟨b, o, none⟩) m cap]] wx fun e w' => e = .returned (.bool false) ∧ Below wx.heap.size wx w') := Lib.hid fun wx => by
    have := isZeroM_any (some ⟨b, o, none⟩) m cap wx
    rw [decide_eq_false (by omega)] at this
    exact this
  have H40 : Hid ((0 : Int) ≤ 40) := Lib.hid (by omega)
  clear hc hd hm
  go_enter Try.func19, Try.ntmps19
  go_wp2_with fail
  refine (A.out _ B0.out).mono ?_
  rintro e w2 ⟨rfl, b2⟩
  have B2 := Lib.hid (B0.out.step1 b2)
  have X2 := Lib.hid (BX.out.up b2)
  have c1 := X2.out.c
  clear b2
  go_wp2_with fail
  refine (Z.out w2).mono ?_
  rintro e w3 ⟨rfl, b3⟩
  have B3 := Lib.hid (B2.out.step1 b3)
  have X3 := Lib.hid (X2.out.up b3)
  have c1 := X3.out.c
  clear b3 X2
  go_wp2_with fail
  refine (degreeM_any _ m cap (0 : Int) w3 (fun h => by have := HM.out; omega) H40.out (fun _ => ⟨b, o, v, rfl, (B3.out.cell (p := ⟨b, o, none⟩) (World.block_lt_of_cell? w _ HC.out)).trans HC.out, HD.out.below B3.out⟩)).mono ?_
  rintro e w4 ⟨rfl, b4⟩
  have B4 := Lib.hid (B3.out.step1 b4)
  have X4 := Lib.hid (X3.out.up b4)
  clear b4 c1
  go_wp2_with fail
  go_ret2
  exact ⟨rfl, B4.out⟩
theorem implDec_yes (b o m cap : Nat) (v : Value) (d : Nat) (w : World) (hm : 0 < m) (h0 : 0 < d) (h40 : d ≤ 40) (hone : decide (1 < pcl 64 d) = true) (hc : w.cell? ⟨b, o, none⟩ = some v) (hd : DegE w v d) (A : Hid (∀ wx, Below w.heap.size w wx → Calls Try.prog 30 #[.agg #[.slice (some ⟨b, o, none⟩) m cap]] wx (SaysB true wx))) :
    Calls Try.prog 19 #[.agg #[.slice (some ⟨b, o, none⟩) m cap]] w (SaysBC true 0 w) := by
  have hdz : ((d : Int) == 0) = false := by rw [beq_eq_false_iff_ne]; omega
  have CO := Lib.hid (fun wx => countOnes_any d wx (by omega))
  obtain ⟨t, ht⟩ : ∃ t : Nat, pcl 64 d = t := ⟨_, rfl⟩
  rw [ht] at CO hone
  have hd1 : (1 : Int) < (t : Int) := by have := of_decide_eq_true hone; omega
  clear ht
  have t2 := Try.underlying24
  have B0 : Hid (Below w.heap.size w (w.alloc (.cells #[.slice (some ⟨b, o, none⟩) m cap] 24))) := Lib.hid ((Below.refl w.heap.size w).alloc (Nat.le_refl _) _)
  have BX : Hid (Box1 (w.alloc (.cells #[.slice (some ⟨b, o, none⟩) m cap] 24)) w.heap.size 24 (.slice (some ⟨b, o, none⟩) m cap)) := Lib.hid (Box1.new _ _ _)
  have HC := Lib.hid hc
  have HD := Lib.hid hd
  have HM := Lib.hid hm
  have Z : Hid (∀ wx, Calls Try.prog 31 #[.agg #[.slice (some ⟨b, o, none⟩) m cap]] wx fun e w' => e = .returned (.bool false) ∧ Below wx.heap.size wx w') := Lib.hid fun wx => by
    have := isZeroM_any (some ⟨b, o, none⟩) m cap wx
    rw [decide_eq_false (by omega)] at this
    exact this
  have H40 : Hid ((d : Int) ≤ 40) := Lib.hid (by omega)
  clear hc hd hm
  go_enter Try.func19, Try.ntmps19
  go_wp2_with fail
  refine (A.out _ B0.out).mono ?_
  rintro e w2 ⟨rfl, b2⟩
  have B2 := Lib.hid (B0.out.step1 b2)
  have X2 := Lib.hid (BX.out.up b2)
  have c1 := X2.out.c
  clear b2
  go_wp2_with fail
  refine (Z.out w2).mono ?_
  rintro e w3 ⟨rfl, b3⟩
  have B3 := Lib.hid (B2.out.step1 b3)
  have X3 := Lib.hid (X2.out.up b3)
  have c1 := X3.out.c
  clear b3 X2
  go_wp2_with fail
  refine (degreeM_any _ m cap (d : Int) w3 (fun h => by have := HM.out; omega) H40.out (fun _ => ⟨b, o, v, rfl, (B3.out.cell (p := ⟨b, o, none⟩) (World.block_lt_of_cell? w _ HC.out)).trans HC.out, HD.out.below B3.out⟩)).mono ?_
  rintro e w4 ⟨rfl, b4⟩
  have B4 := Lib.hid (B3.out.step1 b4)
  have X4 := Lib.hid (X3.out.up b4)
  clear b4 c1
  clear h0 h40
  go_wp2_with fail
  refine (CO.out _).mono ?_
  rintro e w5 ⟨rfl, rfl⟩
  go_wp2_with fail
  go_ret2
  exact ⟨rfl, B4.out⟩
theorem implDec_ask (b o m cap : Nat) (v : Value) (d : Nat) (X : Nat → List Int) (w : World) (hR : RdSS w (.slice (some ⟨b, o, none⟩) m cap) m X) (hok : okMl X m) (hm : 0 < m) (h0 : 0 < d) (h40 : d ≤ 40) (hone : decide (1 < pcl 64 d) = false) (hc : w.cell? ⟨b, o, none⟩ = some v) (hd : DegE w v d) (A : Hid (∀ wx, Below w.heap.size w wx → Calls Try.prog 30 #[.agg #[.slice (some ⟨b, o, none⟩) m cap]] wx (SaysB true wx))) :
    Calls Try.prog 19 #[.agg #[.slice (some ⟨b, o, none⟩) m cap]] w (SaysBC (!hasB X m [(d : Int)]) 0 w) := by
  have hdz : ((d : Int) == 0) = false := by rw [beq_eq_false_iff_ne]; omega
  have CO := Lib.hid (fun wx => countOnes_any d wx (by omega))
  obtain ⟨t, ht⟩ : ∃ t : Nat, pcl 64 d = t := ⟨_, rfl⟩
  rw [ht] at CO hone
  have hd1 : ¬ (1 : Int) < (t : Int) := by have := of_decide_eq_false hone; omega
  clear ht
  have HR := Lib.hid hR
  have HOK := Lib.hid hok
  have t2 := Try.underlying24
  have B0 : Hid (Below w.heap.size w (w.alloc (.cells #[.slice (some ⟨b, o, none⟩) m cap] 24))) := Lib.hid ((Below.refl w.heap.size w).alloc (Nat.le_refl _) _)
  have BX : Hid (Box1 (w.alloc (.cells #[.slice (some ⟨b, o, none⟩) m cap] 24)) w.heap.size 24 (.slice (some ⟨b, o, none⟩) m cap)) := Lib.hid (Box1.new _ _ _)
  have HC := Lib.hid hc
  have HD := Lib.hid hd
  have HM := Lib.hid hm
  have Z : Hid (∀ wx, Calls Try.prog 31 #[.agg #[.slice (some ⟨b, o, none⟩) m cap]] wx fun e w' => e = .returned (.bool false) ∧ Below wx.heap.size wx w') := Lib.hid fun wx => by
    have := isZeroM_any (some ⟨b, o, none⟩) m cap wx
    rw [decide_eq_false (by omega)] at this
    exact this
  have H40 : Hid ((d : Int) ≤ 40) := Lib.hid (by omega)
  clear hc hd hm
  go_enter Try.func19, Try.ntmps19
  go_wp2_with fail
  refine (A.out _ B0.out).mono ?_
  rintro e w2 ⟨rfl, b2⟩
  have B2 := Lib.hid (B0.out.step1 b2)
  have X2 := Lib.hid (BX.out.up b2)
  have c1 := X2.out.c
  clear b2
  go_wp2_with fail
  refine (Z.out w2).mono ?_
  rintro e w3 ⟨rfl, b3⟩
  have B3 := Lib.hid (B2.out.step1 b3)
  have X3 := Lib.hid (X2.out.up b3)
  have c1 := X3.out.c
  clear b3 X2
  go_wp2_with fail
  refine (degreeM_any _ m cap (d : Int) w3 (fun h => by have := HM.out; omega) H40.out (fun _ => ⟨b, o, v, rfl, (B3.out.cell (p := ⟨b, o, none⟩) (World.block_lt_of_cell? w _ HC.out)).trans HC.out, HD.out.below B3.out⟩)).mono ?_
  rintro e w4 ⟨rfl, b4⟩
  have B4 := Lib.hid (B3.out.step1 b4)
  have X4 := Lib.hid (X3.out.up b4)
  clear b4 c1
  clear h0 h40
  go_wp2_with fail
  refine (CO.out _).mono ?_
  rintro e w5 ⟨rfl, rfl⟩
  have c1 := X4.out.c
  have b6 : Below w4.heap.size w4 (w4.alloc (.cells #[.int .i64 (d : Int)] 2)) := (Below.refl _ _).alloc (Nat.le_refl _) _
  have B6 := Lib.hid (B4.out.step1 b6)
  have HT := Lib.hid (hasTerm_any (some ⟨b, o, none⟩) m cap X _ [(d : Int)] _ (HR.out.below B6.out) (rd_new w4 (d : Int)) HOK.out.1.1 (step_lt X m HOK.out.1.2.2))
  clear b6
  go_wp2_with fail
  refine HT.out.mono ?_
  rintro e w7 ⟨rfl, b7⟩
  have B7 := Lib.hid (B6.out.step1 b7)
  have e1 : decide ((1 : Int) < (t : Int)) = false := decide_eq_false (by omega)
  clear b7
  go_wp2_with fail
  go_ret2
  exact ⟨by simp [e1], B7.out⟩

theorem DecM_both (X : Nat → List Int) (m : Nat) : ∃ (x : Bool) (c : Int),
    (∀ V w, RdSS w V m X → Calls Try.prog 18 #[.agg #[V]] w (SaysBC x c w)) ∧
    (∀ V w, RdSS w V m X → Calls Try.prog 19 #[.agg #[V]] w (SaysBC x c w)) := by
  by_cases hok : okMl X m
  · have S1 : ∀ V w, RdSS w V m X → Hid (∀ wx, Below w.heap.size w wx → Calls Try.prog 28 #[.agg #[V]] wx (SaysB true wx)) := fun V w h => Lib.hid fun wx hx => (isM_yes X m hok).1 _ wx (h.below hx)
    have I1 : ∀ V w, RdSS w V m X → Hid (∀ wx, Below w.heap.size w wx → Calls Try.prog 30 #[.agg #[V]] wx (SaysB true wx)) := fun V w h => Lib.hid fun wx hx => (isM_yes X m hok).2 _ wx (h.below hx)
    by_cases hm : m = 0
    · subst hm
      refine ⟨true, 0, fun V w h => ?_, fun V w h => ?_⟩
      · obtain ⟨a, cap, rfl⟩ := h.head
        exact specDec_zero a cap w (S1 _ w h)
      · obtain ⟨a, cap, rfl⟩ := h.head
        exact implDec_zero a cap w (I1 _ w h)
    · have h40 := (hok.2 0 (by omega)).1.2
      have hn0 : 0 ≤ dgL (X 0) := dgL_nonneg (hok.2 0 (by omega)).1
      obtain ⟨d, hd⟩ := Int.eq_ofNat_of_zero_le hn0
      rw [hd] at h40
      by_cases h0 : d = 0
      · subst h0
        refine ⟨false, 0, fun V w h => ?_, fun V w h => ?_⟩
        · obtain ⟨b, o, v, cap, rfl, c, dd⟩ := headD hok (by omega) h
          rw [hd] at dd
          exact specDec_deg0 b o m cap v w (by omega) c dd (S1 _ w h)
        · obtain ⟨b, o, v, cap, rfl, c, dd⟩ := headD hok (by omega) h
          rw [hd] at dd
          exact implDec_deg0 b o m cap v w (by omega) c dd (I1 _ w h)
      · cases hone : decide (1 < pcl 64 d) with
        | true =>
          refine ⟨true, 0, fun V w h => ?_, fun V w h => ?_⟩
          · obtain ⟨b, o, v, cap, rfl, c, dd⟩ := headD hok (by omega) h
            rw [hd] at dd
            exact specDec_yes b o m cap v d w (by omega) (by omega) (by omega) hone c dd (S1 _ w h)
          · obtain ⟨b, o, v, cap, rfl, c, dd⟩ := headD hok (by omega) h
            rw [hd] at dd
            exact implDec_yes b o m cap v d w (by omega) (by omega) (by omega) hone c dd (I1 _ w h)
        | false =>
          refine ⟨!hasB X m [(d : Int)], 0, fun V w h => ?_, fun V w h => ?_⟩
          · obtain ⟨b, o, v, cap, rfl, c, dd⟩ := headD hok (by omega) h
            rw [hd] at dd
            exact specDec_ask b o m cap v d X w h hok (by omega) (by omega) (by omega) hone c dd (S1 _ w h)
          · obtain ⟨b, o, v, cap, rfl, c, dd⟩ := headD hok (by omega) h
            rw [hd] at dd
            exact implDec_ask b o m cap v d X w h hok (by omega) (by omega) (by omega) hone c dd (I1 _ w h)
  · refine ⟨false, 1, fun V w h => ?_, fun V w h => ?_⟩
    · obtain ⟨a, cap, rfl⟩ := h.head
      exact specDec_bad a m cap w (Lib.hid fun wx hx => (isM_no X m hok).1 _ wx (h.below hx))
    · obtain ⟨a, cap, rfl⟩ := h.head
      exact implDec_bad a m cap w (Lib.hid fun wx hx => (isM_no X m hok).2 _ wx (h.below hx))
end Go.Proofs.Ythklgkccldklaaa.Ml
