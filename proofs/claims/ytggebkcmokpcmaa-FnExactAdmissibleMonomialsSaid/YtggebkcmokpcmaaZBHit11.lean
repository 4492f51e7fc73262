/-
  Joined: YIsB.
-/
import Derived.Test.YtggebkcmokpcmaaZBHit10
section
namespace Go.Proofs.Ytggebkcmokpcmaa
open Go.RowKit
set_option linter.unusedVariables false
set_option maxRecDepth 100000

theorem l08Is_k (k : Int) (a : Option Addr) (m cap : Nat) (w : World) (hk : k < 1 ∨ 4 < k) :
    Calls Try.prog 67 #[.agg #[.int .i64 k, .slice a m cap]] w (SaysB false w) := by
  have t2 := Try.underlying31
  have B0 : Hid (Below w.heap.size w (w.alloc (.cells #[.int .i64 k, .slice a m cap] 31))) := Lib.hid ((Below.refl w.heap.size w).alloc (Nat.le_refl _) _)
  have IN := Lib.hid (fun wx => l01In_no k 1 4 wx hk)
  clear hk
  go_enter Try.func67, Try.ntmps67
  go_wp2_with (go_at_call 64; refine (IN.out _).mono ?_; rintro e w' ⟨rfl, rfl⟩)
  go_ret
  exact ⟨rfl, B0.out⟩

theorem l08Is_long (k : Int) (a : Option Addr) (m cap : Nat) (w : World) (hk : 1 ≤ k ∧ k ≤ 4) (hm : 2000 < m) :
    Calls Try.prog 67 #[.agg #[.int .i64 k, .slice a m cap]] w (SaysB false w) := by
  have t2 := Try.underlying31
  have B0 : Hid (Below w.heap.size w (w.alloc (.cells #[.int .i64 k, .slice a m cap] 31))) := Lib.hid ((Below.refl w.heap.size w).alloc (Nat.le_refl _) _)
  have IN := Lib.hid (fun wx => l01In_yes k 1 4 wx hk.1 hk.2)
  have hm' : (2000 : Int) < (m : Int) := by omega
  clear hk
  go_enter Try.func67, Try.ntmps67
  go_wp2_with (go_at_call 64; refine (IN.out _).mono ?_; rintro e w' ⟨rfl, rfl⟩)
  go_ret
  exact ⟨rfl, B0.out⟩

theorem l08Is_wild (k : Int) (V : Value) (m : Nat) (X : Nat → List Int) (w : World) (h : RdSS w V m X) (hk : 1 ≤ k ∧ k ≤ 4) (hm : m ≤ 2000) (hasc : ¬ ∀ i, i < m → stepOk X i) :
    Calls Try.prog 67 #[.agg #[.int .i64 k, V]] w (SaysB false w) := by
  obtain ⟨a, cap, rfl⟩ := h.head
  have t2 := Try.underlying31
  have hm' : (m : Int) ≤ 2000 := by omega
  have B0 : Hid (Below w.heap.size w (w.alloc (.cells #[.int .i64 k, .slice a m cap] 31))) := Lib.hid ((Below.refl w.heap.size w).alloc (Nat.le_refl _) _)
  have IN := Lib.hid (fun wx => l01In_yes k 1 4 wx hk.1 hk.2)
  have A := Lib.hid (asc_no _ m X _ (h.below B0.out) hasc)
  clear h hasc hk
  go_enter Try.func67, Try.ntmps67
  go_wp2_with (first | (go_at_call 64; refine (IN.out _).mono ?_; rintro e w' ⟨rfl, rfl⟩) | (go_at_call 90; refine A.out.mono ?_; rintro e w' ⟨rfl, q, rfl⟩))
  go_ret
  exact ⟨rfl, below_drewN B0.out q⟩

set_option maxHeartbeats 2000000 in
theorem l08Is_go (k : Int) (V : Value) (m z : Nat) (r : Bool) (X : Nat → List Int) (w : World) (h : RdSS w V m X) (hk : 1 ≤ k ∧ k ≤ 4) (hm : m ≤ 2000) (hasc : ∀ i, i < m → stepOk X i) (hz : z ≤ m) (hgood : ∀ i, i < z → stepY k X i)
    (hend : (z = m ∧ r = true) ∨ (z < m ∧ ¬ stepY k X z ∧ r = false)) :
    Calls Try.prog 67 #[.agg #[.int .i64 k, V]] w (SaysB r w) := by
  have h' := h
  obtain ⟨⟨a, cap, rfl⟩, hsm, VS, hc, hr⟩ := h
  have t2 := Try.underlying31
  have hm' : (m : Int) ≤ 2000 := by omega
  have B0 : Hid (Below w.heap.size w (w.alloc (.cells #[.int .i64 k, .slice a m cap] 31))) := Lib.hid ((Below.refl w.heap.size w).alloc (Nat.le_refl _) _)
  have BX : Hid (Box (w.alloc (.cells #[.int .i64 k, .slice a m cap] 31)) w.heap.size 31 (.int .i64 k) (.slice a m cap)) := Lib.hid (Box.new _ _ _ _)
  have IN := Lib.hid (fun wx => l01In_yes k 1 4 wx hk.1 hk.2)
  have A := Lib.hid (asc_yes _ m X _ (h'.below B0.out) hasc)
  have HR := Lib.hid (fun i hi => (hr i hi).below B0.out)
  have HO := Lib.hid hgood
  have HE := Lib.hid hend
  have HK := Lib.hid hk
  clear h' hasc hr hgood hend hk
  by_cases h0 : m = 0
  · subst h0
    obtain ⟨_, rfl⟩ := HE.out.resolve_right (fun h => by omega)
    clear hc HR HO HE HK
    have d1 := BX.out.c1
    go_enter Try.func67, Try.ntmps67
    go_wp2_with (first | (go_at_call 64; refine (IN.out _).mono ?_; rintro e w' ⟨rfl, rfl⟩) | (go_at_call 90; refine A.out.mono ?_; rintro e w' ⟨rfl, q, rfl⟩))
    refine wp_loop_rounds 1 ?_
    rw [rounds_succ]
    go_wp2
    go_ret
    exact ⟨rfl, below_drewN B0.out q⟩
  · obtain ⟨b, off, ⟨cap', e⟩, hc'⟩ := hc.resolve_left h0
    cases e
    have hb : b < w.heap.size := World.block_lt_of_cell? w ⟨b, off + 0, none⟩ (hc' 0 (by omega))
    have HC : Hid (∀ i, i < m → (w.alloc (.cells #[.int .i64 k, .slice (some ⟨b, off, none⟩) m cap] 31)).cell? ⟨b, off + i, none⟩ = some (VS i)) := Lib.hid (fun i hi => (B0.out.cell (p := ⟨b, off + i, none⟩) hb).trans (hc' i hi))
    clear hc hc' hb
    go_enter Try.func67, Try.ntmps67
    go_wp2_with (first | (go_at_call 64; refine (IN.out _).mono ?_; rintro e w' ⟨rfl, rfl⟩) | (go_at_call 90; refine A.out.mono ?_; rintro e w' ⟨rfl, q, rfl⟩))
    clear A IN
    generalize (w.alloc (.cells #[.int .i64 k, .slice (some ⟨b, off, none⟩) m cap] 31)) = w1 at *
    go_loopw [3, 4, 5] (fun c _ _ wr => ∃ i q : Nat, i ≤ z ∧ c = .int .i64 i ∧ Hid (wr = w1.drewN q)) (fun c _ _ _ => m - (intOf c).toNat)
    case atStart => exact ⟨0, q, by omega, rfl, Lib.hid rfl⟩
    case round =>
      obtain ⟨i, q, hi, rfl, hw⟩ := hrel
      have d0 : wr.cell? ⟨w.heap.size, 0, none⟩ = some (.int .i64 k) := by rw [hw.out]; exact BX.out.c0
      have d1 : wr.cell? ⟨w.heap.size, 1, none⟩ = some (.slice (some ⟨b, off, none⟩) m cap) := by rw [hw.out]; exact BX.out.c1
      by_cases him : i < m
      · have hlt' : (i : Int) < (m : Int) := by omega
        have hpm : (0 : Int) < (m : Int) := by omega
        obtain ⟨v1, hv1⟩ : ∃ v, v = VS i := ⟨_, rfl⟩
        obtain ⟨v2, hv2⟩ : ∃ v, v = VS 0 := ⟨_, rfl⟩
        have c1 : wr.cell? ⟨b, off + i, none⟩ = some v1 := by rw [hw.out, hv1]; exact HC.out i him
        have c2 : wr.cell? ⟨b, off, none⟩ = some v2 := by rw [hw.out, hv2]; exact HC.out 0 (by omega)
        have r1 : RdI wr v1 (X i).length (fun j => (X i)[j]?.getD 0) := by rw [hw.out, hv1]; exact HR.out i him
        have r2 : RdI wr v2 (X 0).length (fun j => (X 0)[j]?.getD 0) := by rw [hw.out, hv2]; exact HR.out 0 (by omega)
        have R1 := Lib.hid r1
        have R2 := Lib.hid r2
        obtain ⟨a1, q1, rfl, hm1, hc1⟩ := r1
        clear hv1 hv2 r2
        by_cases hl : ((X i).length : Int) = k
        · have hlb : (((X i).length : Int) != k) = false := by rw [hl]; exact bne_self_eq_false _
          have hn4 : (X i).length ≤ 4 := by have := HK.out.2; omega
          obtain ⟨b1, o1, rfl, hcc⟩ := hc1.resolve_left (by have := HK.out.1; omega)
          have H1 : Hid (∀ wx, (∃ p, wx = wr.drewN p) → ∀ j, j < (X i).length → wx.cell? ⟨b1, o1 + j, none⟩ = some (.int .i64 (gOf (X i) j))) := Lib.hid (by rintro wx ⟨p, rfl⟩ j hj; exact hcc j hj)
          have DK : Hid (∀ wx, (∃ p, wx = wr.drewN p) → wx.cell? ⟨w.heap.size, 1, none⟩ = some (.slice (some ⟨b, off, none⟩) m cap) ∧ wx.cell? ⟨b, off + i, none⟩ = some (.slice (some ⟨b1, o1, none⟩) (X i).length q1) ∧ wx.cell? ⟨b, off, none⟩ = some v2) := Lib.hid (by rintro wx ⟨p, rfl⟩; exact ⟨d1, c1, c2⟩)
          clear hc1 hcc hl
          obtain ⟨y, hy⟩ : ∃ y, y = gOf (X i) := ⟨_, rfl⟩
          rw [← hy] at H1
          have HY := Lib.hid hy
          clear hy
          by_cases hin : ∀ j, j < (X i).length → 0 ≤ y j ∧ y j ≤ 40
          · have D1 : Hid (DegIs wr (.slice (some ⟨b1, o1, none⟩) (X i).length q1) (sumL (X i))) := Lib.hid (degIs_exp R1.out hn4 (by rw [← HY.out]; exact hin))
            have HIN := Lib.hid hin
            have XI : Hid (sumL (X i) ≤ 40 → isX (X i)) := Lib.hid (fun h => isX_iff.2 ⟨by rw [← HY.out]; exact hin, h⟩)
            obtain ⟨n1, hn1⟩ : ∃ n1, n1 = (X i).length := ⟨_, rfl⟩
            have HKL : Hid ((n1 : Int) = k) := Lib.hid (by rw [hn1]; simpa using hlb)
            have HNL := Lib.hid hn1
            rw [← hn1] at hlb c1 H1 DK HIN D1
            have D20 : Hid (0 < i → DegIs wr v2 (sumL (X 0))) := Lib.hid (fun h0 => by
              have s0 := HO.out 0 (by omega)
              exact degIs_exp R2.out (by have := s0.1; have := HK.out.2; omega) (isX_iff.1 s0.2.1).1)
            have hn14 : n1 ≤ 4 := by rw [hn1]; exact hn4
            clear hin hn1 hn4 R1 R2 HY
            go_wp2_with fail
            go_quiet (fail)
            go_wp2_with fail
            clear d0 d1 c1 c2
            obtain ⟨wo, hwo⟩ : ∃ wo, wo = wr := ⟨_, rfl⟩
            subst hwo
            go_loopw [4] (fun c wi => ∃ j p : Nat, j ≤ n1 ∧ c = .int .i64 j ∧ Hid (wi = wo.drewN p)) (fun c _ => n1 - (intOf c).toNat)
            case atStart => exact ⟨0, nq, by omega, rfl, Lib.hid rfl⟩
            case round =>
              obtain ⟨j, p, hj, rfl, hp⟩ := hrel
              obtain ⟨d1, c1, c2⟩ := DK.out wr ⟨p, hp.out⟩
              by_cases hjn : j < n1
              · have hjn' : (j : Int) < (n1 : Int) := by omega
                have e1 := H1.out wr ⟨p, hp.out⟩ j hjn
                have IN := Lib.hid (fun wx => l01In_yes (y j) 0 40 wx (HIN.out j hjn).1 (HIN.out j hjn).2)
                generalize y j = x at e1 IN
                clear c2
                go_wp2_with (go_at_call 64; refine (IN.out _).mono ?_; rintro e w' ⟨rfl, rfl⟩)
                go_roundw
                case rel => exact ⟨j + 1, p, by omega, by go_num, hp⟩
                case measure => simp [intOf]; omega
              · obtain rfl : j = n1 := by omega
                have E1 : Hid (DegIs wr (.slice (some ⟨b1, o1, none⟩) j q1) (sumL (X i))) := Lib.hid (by rw [hp.out]; exact D1.out.drewN p)
                by_cases h40 : sumL (X i) ≤ 40
                · have E2 : Hid (DegIs wr v2 (sumL (X 0))) := Lib.hid (by
                    by_cases e : i = 0
                    · subst e
                      have hq : v2 = .slice (some ⟨b1, o1, none⟩) j q1 := by rw [Nat.add_zero] at c1; rw [c1] at c2; exact (Option.some.inj c2).symm
                      rw [hq]; exact E1.out
                    · rw [hp.out]; exact (D20.out (by omega)).drewN p)
                  by_cases hlt : i < z
                  · have hx := (HO.out i hlt).2.2
                    rw [hx] at E1 h40
                    generalize sumL (X 0) = s at E1 E2 h40
                    have h40d : decide (40 < s) = false := decide_eq_false (by omega)
                    clear h40 hx
                    go_wp2_with fail
                    refine (l03Degree_is E1 0).mono ?_
                    rintro e w3 ⟨rfl, p2, hw3⟩
                    have HW3 : Hid (w3 = wo.drewN (p + p2)) := Lib.hid (by rw [hw3, hp.out]; simp [World.drewN_drewN])
                    obtain ⟨d1, c1, c2⟩ := DK.out w3 ⟨_, HW3.out⟩
                    have E3 : Hid (DegIs w3 v2 s) := Lib.hid (by rw [hw3]; exact (E2.out.drewN 0).drewN p2)
                    clear hw3 E1 E2 c1
                    go_wp2_with fail
                    refine (l03Degree_is E3 0).mono ?_
                    rintro e w4 ⟨rfl, p3, hw4⟩
                    have HW4 : Hid (w4 = wo.drewN (p + p2 + p3)) := Lib.hid (by rw [hw4, HW3.out]; simp [World.drewN_drewN])
                    clear hw4 E3 d1 c2
                    go_wp2_with fail
                    go_roundw
                    case rel => exact ⟨i + 1, q + (p + p2 + p3), by omega, by go_num, Lib.hid (by rw [HW4.out, hw.out]; simp only [World.drewN_drewN])⟩
                    case measure => simp [intOf]; omega
                  · obtain rfl : i = z := by omega
                    obtain ⟨_, hbad, rfl⟩ := HE.out.resolve_left (fun h => by omega)
                    have hx : (sumL (X i) != sumL (X 0)) = true := by
                      rw [bne_iff_ne]
                      exact fun e => hbad ⟨by rw [← HNL.out]; exact HKL.out, XI.out h40, e⟩
                    generalize sumL (X 0) = s0 at E2 hx
                    generalize sumL (X i) = s at E1 h40 hx
                    have h40d : decide (40 < s) = false := decide_eq_false (by omega)
                    clear h40 hbad
                    go_wp2_with fail
                    refine (l03Degree_is E1 0).mono ?_
                    rintro e w3 ⟨rfl, p2, hw3⟩
                    have HW3 : Hid (w3 = wo.drewN (p + p2)) := Lib.hid (by rw [hw3, hp.out]; simp [World.drewN_drewN])
                    obtain ⟨d1, c1, c2⟩ := DK.out w3 ⟨_, HW3.out⟩
                    have E3 : Hid (DegIs w3 v2 s0) := Lib.hid (by rw [hw3]; exact (E2.out.drewN 0).drewN p2)
                    clear hw3 E1 E2 c1
                    go_wp2_with fail
                    refine (l03Degree_is E3 0).mono ?_
                    rintro e w4 ⟨rfl, p3, hw4⟩
                    have HW4 : Hid (w4 = wo.drewN (p + p2 + p3)) := Lib.hid (by rw [hw4, HW3.out]; simp [World.drewN_drewN])
                    clear hw4 E3 d1 c2
                    go_wp2_with fail
                    go_ret
                    exact ⟨rfl, by rw [HW4.out, hw.out, World.drewN_drewN]; exact below_drewN B0.out _⟩
                · obtain rfl : i = z := by
                    apply Decidable.byContradiction
                    intro e
                    exact h40 (isX_iff.1 (HO.out i (by omega)).2.1).2
                  obtain ⟨_, _, rfl⟩ := HE.out.resolve_left (fun h => by omega)
                  generalize sumL (X i) = s at E1 h40
                  have h40d : decide (40 < s) = true := decide_eq_true (by omega)
                  clear h40 XI D20
                  go_wp2_with fail
                  refine (l03Degree_is E1 0).mono ?_
                  rintro e w3 ⟨rfl, p2, hw3⟩
                  have HW3 : Hid (w3 = wo.drewN (p + p2)) := Lib.hid (by rw [hw3, hp.out]; simp [World.drewN_drewN])
                  clear hw3 E1 c1 d1 c2
                  go_wp2_with fail
                  go_ret
                  exact ⟨rfl, by rw [HW3.out, hw.out, World.drewN_drewN]; exact below_drewN B0.out _⟩
          · obtain rfl : i = z := by
              apply Decidable.byContradiction
              intro e
              exact hin (by rw [HY.out]; exact (isX_iff.1 (HO.out i (by omega)).2.1).1)
            obtain ⟨_, _, rfl⟩ := HE.out.resolve_left (fun h => by omega)
            obtain ⟨z2, hz2, hbad2, hgood2⟩ := first_bad0 (fun j => 0 ≤ y j ∧ y j ≤ 40) (X i).length hin
            have HG2 := Lib.hid hgood2
            have HB2 := Lib.hid hbad2
            obtain ⟨n1, hn1⟩ : ∃ n1, n1 = (X i).length := ⟨_, rfl⟩
            rw [← hn1] at hlb c1 H1 DK hz2
            have hn14 : n1 ≤ 4 := by rw [hn1]; exact hn4
            clear hin hn1 hn4 R1 R2 HY hgood2 hbad2
            go_wp2_with fail
            go_quiet (fail)
            go_wp2_with fail
            clear d0 d1 c1 c2
            obtain ⟨wo, hwo⟩ : ∃ wo, wo = wr := ⟨_, rfl⟩
            subst hwo
            go_loopw [4] (fun c wi => ∃ j p : Nat, j ≤ z2 ∧ c = .int .i64 j ∧ Hid (wi = wo.drewN p)) (fun c _ => n1 - (intOf c).toNat)
            case atStart => exact ⟨0, nq, by omega, rfl, Lib.hid rfl⟩
            case round =>
              obtain ⟨j, p, hj, rfl, hp⟩ := hrel
              obtain ⟨d1, c1, c2⟩ := DK.out wr ⟨p, hp.out⟩
              have hjn : j < n1 := by omega
              have hjn' : (j : Int) < (n1 : Int) := by omega
              have e1 := H1.out wr ⟨p, hp.out⟩ j hjn
              by_cases hjz : j < z2
              · have IN := Lib.hid (fun wx => l01In_yes (y j) 0 40 wx (HG2.out j hjz).1 (HG2.out j hjz).2)
                generalize y j = x at e1 IN
                clear c2
                go_wp2_with (go_at_call 64; refine (IN.out _).mono ?_; rintro e w' ⟨rfl, rfl⟩)
                go_roundw
                case rel => exact ⟨j + 1, p, by omega, by go_num, hp⟩
                case measure => simp [intOf]; omega
              · obtain rfl : j = z2 := by omega
                have IN := Lib.hid (fun wx => l01In_no (y j) 0 40 wx (by have := HB2.out; omega))
                clear HB2
                generalize y j = x at e1 IN
                clear c2
                go_wp2_with (go_at_call 64; refine (IN.out _).mono ?_; rintro e w' ⟨rfl, rfl⟩)
                go_ret
                exact ⟨rfl, by rw [hp.out, hw.out, World.drewN_drewN]; exact below_drewN B0.out _⟩
        · obtain rfl : i = z := by
            apply Decidable.byContradiction
            intro e
            exact hl (HO.out i (by omega)).1
          obtain ⟨_, _, rfl⟩ := HE.out.resolve_left (fun h => by omega)
          have hlb : (((X i).length : Int) != k) = true := by rw [bne_iff_ne]; exact hl
          generalize (X i).length = n1 at hlb c1
          clear hl R1 R2 hc1 c2
          go_wp2_with fail
          go_quiet (fail)
          go_wp2_with fail
          go_ret
          exact ⟨rfl, by rw [hw.out, World.drewN_drewN]; exact below_drewN B0.out _⟩
      · obtain rfl : i = m := by omega
        obtain rfl : r = true := by
          rcases HE.out with ⟨_, h⟩ | ⟨h, _⟩
          · exact h
          · omega
        go_wp2_with fail
        go_ret
        exact ⟨rfl, by rw [hw.out]; exact below_drewN B0.out _⟩

theorem implIsP_k (k : Int) (a : Option Addr) (m cap : Nat) (w : World) (hk : k < 1 ∨ 4 < k) :
    Calls Try.prog 57 #[.agg #[.int .i64 k, .slice a m cap]] w (SaysB false w) := by
  have t2 := Try.underlying31
  have B0 : Hid (Below w.heap.size w (w.alloc (.cells #[.int .i64 k, .slice a m cap] 31))) := Lib.hid ((Below.refl w.heap.size w).alloc (Nat.le_refl _) _)
  by_cases h1 : k < 1
  · clear hk
    go_enter Try.func57, Try.ntmps57
    go_wp2
    go_ret
    exact ⟨rfl, B0.out⟩
  · have h4 : 4 < k := by omega
    clear hk
    go_enter Try.func57, Try.ntmps57
    go_wp2
    go_ret
    exact ⟨rfl, B0.out⟩

theorem implIsP_wild (k : Int) (V : Value) (m : Nat) (X : Nat → List Int) (w : World) (h : RdSS w V m X) (hk : 1 ≤ k ∧ k ≤ 4) (hok : ¬ okTerms X m) :
    Calls Try.prog 57 #[.agg #[.int .i64 k, V]] w (SaysB false w) := by
  obtain ⟨a, cap, rfl⟩ := h.head
  have t2 := Try.underlying31
  have B0 : Hid (Below w.heap.size w (w.alloc (.cells #[.int .i64 k, .slice a m cap] 31))) := Lib.hid ((Below.refl w.heap.size w).alloc (Nat.le_refl _) _)
  have A := Lib.hid (implTerm_no _ m X _ (h.below B0.out) hok)
  have h1 : ¬ k < 1 := by omega
  have h4 : ¬ 4 < k := by omega
  clear h hok hk
  go_enter Try.func57, Try.ntmps57
  go_wp2_with fail
  refine A.out.mono ?_
  rintro e w' ⟨rfl, rfl⟩
  go_wp2_with fail
  go_ret
  exact ⟨rfl, B0.out⟩
end Go.Proofs.Ytggebkcmokpcmaa
end
