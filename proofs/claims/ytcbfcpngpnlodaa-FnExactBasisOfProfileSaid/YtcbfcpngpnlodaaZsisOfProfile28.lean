/-
  Joined: NIs.
-/
import Derived.Test.YtcbfcpngpnlodaaZsisOfProfile22
import Derived.Test.YtcbfcpngpnlodaaZsisOfProfile26
import Derived.Test.YtcbfcpngpnlodaaZsisOfProfile27
import Derived.Deep.RegionHeld3
section
namespace Go.Proofs.Ytcbfcpngpnlodaa
open Go.RowKit
set_option linter.unusedVariables false
set_option maxRecDepth 100000

/-- The degree of an exponent list. -/
def dgL (xs : List Int) : Int := dgr (gOf xs) xs.length
def isE (xs : List Int) : Prop := okExp (gOf xs) xs.length
/-- An exponent list of a degree of at most 40. -/
def goodE (xs : List Int) : Prop := isE xs ∧ dgL xs ≤ 40
def stepM (X : Nat → List Int) (i : Nat) : Prop := goodE (X i) ∧ dgL (X i) = dgL (X 0)
/-- An element. -/
def okMl (X : Nat → List Int) (m : Nat) : Prop := okTerms X m ∧ ∀ i, i < m → stepM X i

/-- v reads as an exponent list of the degree x. -/
def DegE (w : World) (v : Value) (x : Int) : Prop := ∃ n G, RdI w v n G ∧ okExp G n ∧ dgr G n = x
theorem DegE.below {w w' : World} {v : Value} {x : Int} (h : DegE w v x) (k : Below w.heap.size w w') : DegE w' v x := by
  obtain ⟨n, G, h1, h2, h3⟩ := h
  exact ⟨n, G, h1.below k, h2, h3⟩
theorem DegE.drewN {w : World} {v : Value} {x : Int} (h : DegE w v x) (q : Nat) : DegE (w.drewN q) v x := h
theorem degE_list {w : World} {v : Value} {xs : List Int} (h : RdI w v xs.length (fun j => xs[j]?.getD 0)) (hw : isE xs) : DegE w v (dgL xs) :=
  ⟨_, _, h, hw, rfl⟩

theorem l01Degree_is {w : World} {v : Value} {x : Int} (h : Hid (DegE w v x)) (q : Nat) :
    Calls Try.prog 94 #[v] (w.drewN q) fun e w' => e = .returned (.int .i64 x) ∧ ∃ p, w' = (w.drewN q).drewN p := by
  obtain ⟨n, G, h1, h2, rfl⟩ := h.out
  exact (l01Degree_any v n G _ (h1.drewN q) h2.1).mono fun e w' ⟨he, hw⟩ => ⟨he, 0, hw.symm⟩
theorem degreeOf_is {w : World} {v : Value} {x : Int} (h : DegE w v x) :
    Calls Try.prog 96 #[v] w fun e w' => e = .returned (.tuple #[.int .i64 (dgV x), .int .i64 (dgC x)]) ∧ w = w' := by
  obtain ⟨n, G, h1, h2, rfl⟩ := h
  exact implDegree_ok v n G w h1 h2
theorem dgV_small {x : Int} (h : x ≤ 40) : dgV x = x := by unfold dgV; rw [if_neg (by omega)]
theorem dgC_small {x : Int} (h : x ≤ 40) : dgC x = 0 := by unfold dgC; rw [if_neg (by omega)]

theorem isZeroM_any (a : Option Addr) (m cap : Nat) (w : World) :
    Calls Try.prog 106 #[.agg #[.slice a m cap]] w fun e w' => e = .returned (.bool (decide (m = 0))) ∧ Below w.heap.size w w' := by
  have t2 := Try.underlying40
  have B0 : Hid (Below w.heap.size w (w.alloc (.cells #[.slice a m cap] 40))) := Lib.hid ((Below.refl w.heap.size w).alloc (Nat.le_refl _) _)
  by_cases h0 : m = 0
  · subst h0
    go_enter Try.func106, Try.ntmps106
    go_wp2
    go_ret
    exact ⟨rfl, B0.out⟩
  · have hz : ((m : Int) == 0) = false := by rw [beq_eq_false_iff_ne]; omega
    have hd : Hid (decide (m = 0) = false) := Lib.hid (decide_eq_false h0)
    rw [hd.out]
    clear h0 hd
    go_enter Try.func106, Try.ntmps106
    go_wp2
    go_ret
    exact ⟨rfl, B0.out⟩

/-- The degree: that of the first word. -/
theorem degreeM_any (a : Option Addr) (m cap : Nat) (x : Int) (w : World) (h0 : m = 0 → x = 0) (hx : x ≤ 40) (h1 : 0 < m → ∃ b off v, a = some ⟨b, off, none⟩ ∧ w.cell? ⟨b, off, none⟩ = some v ∧ DegE w v x) :
    Calls Try.prog 97 #[.agg #[.slice a m cap]] w fun e w' => e = .returned (.int .i64 x) ∧ Below w.heap.size w w' := by
  have t2 := Try.underlying40
  have B0 : Hid (Below w.heap.size w (w.alloc (.cells #[.slice a m cap] 40))) := Lib.hid ((Below.refl w.heap.size w).alloc (Nat.le_refl _) _)
  have BX : Hid (Box1 (w.alloc (.cells #[.slice a m cap] 40)) w.heap.size 40 (.slice a m cap)) := Lib.hid (Box1.new _ _ _)
  have Z := Lib.hid (isZeroM_any a m cap (w.alloc (.cells #[.slice a m cap] 40)))
  by_cases hm : m = 0
  · subst hm
    obtain rfl := h0 rfl
    clear h0 h1 BX
    go_enter Try.func97, Try.ntmps97
    go_wp2_with fail
    refine Z.out.mono ?_
    rintro e w2 ⟨rfl, b2⟩
    have B2 := Lib.hid (B0.out.trans (b2.mono B0.out.size))
    clear b2
    go_wp2_with fail
    go_ret
    exact ⟨rfl, B2.out⟩
  · obtain ⟨b, off, v, rfl, hc, hd⟩ := h1 (by omega)
    have hdz : decide (m = 0) = false := decide_eq_false hm
    rw [hdz] at Z
    have hp : (0 : Int) < (m : Int) := by omega
    have HC := Lib.hid hc
    have HD := Lib.hid hd
    clear h0 h1 hc hd hdz hm
    go_enter Try.func97, Try.ntmps97
    go_wp2_with fail
    refine Z.out.mono ?_
    rintro e w2 ⟨rfl, b2⟩
    have B2 := Lib.hid (B0.out.trans (b2.mono B0.out.size))
    have c1 := (BX.out.up b2).c
    have c2 : w2.cell? ⟨b, off, none⟩ = some v := (B2.out.cell (p := ⟨b, off, none⟩) (World.block_lt_of_cell? w _ HC.out)).trans HC.out
    have D2 := Lib.hid (HD.out.below B2.out)
    clear b2 BX Z
    go_wp2_with fail
    refine (by simpa only [dgV_small hx, dgC_small hx] using degreeOf_is D2.out : Calls Try.prog 96 #[v] w2 fun e w' => e = .returned (.tuple #[.int .i64 x, .int .i64 0]) ∧ w2 = w').mono ?_
    rintro e w3 ⟨rfl, rfl⟩
    go_wp2_with fail
    go_ret
    exact ⟨rfl, B2.out⟩

theorem l04Is_long (V : Value) (m : Nat) (X : Nat → List Int) (w : World) (h : RdSS w V m X) (hm : 2000 < m) :
    Calls Try.prog 67 #[.agg #[V]] w (SaysB false w) := by
  obtain ⟨⟨a, cap, rfl⟩, hsm, VS, hc, hr⟩ := h
  clear hc hr
  have t2 := Try.underlying40
  have hm' : (2000 : Int) < (m : Int) := by omega
  have B0 : Hid (Below w.heap.size w (w.alloc (.cells #[.slice a m cap] 40))) := Lib.hid ((Below.refl w.heap.size w).alloc (Nat.le_refl _) _)
  go_enter Try.func67, Try.ntmps67
  go_wp2
  go_ret
  exact ⟨rfl, B0.out⟩

theorem l04Is_wild (V : Value) (m : Nat) (X : Nat → List Int) (w : World) (h : RdSS w V m X) (hm : m ≤ 2000) (hasc : ¬ ∀ i, i < m → stepOk X i) :
    Calls Try.prog 67 #[.agg #[V]] w (SaysB false w) := by
  obtain ⟨a, cap, rfl⟩ := h.head
  have t2 := Try.underlying40
  have hm' : (m : Int) ≤ 2000 := by omega
  have B0 : Hid (Below w.heap.size w (w.alloc (.cells #[.slice a m cap] 40))) := Lib.hid ((Below.refl w.heap.size w).alloc (Nat.le_refl _) _)
  have A := Lib.hid (asc_no _ m X _ (h.below B0.out) hasc)
  clear h hasc
  go_enter Try.func67, Try.ntmps67
  go_wp2_with fail
  refine A.out.mono ?_
  rintro e w' ⟨rfl, q, rfl⟩
  go_wp2_with fail
  go_ret
  exact ⟨rfl, below_drewN B0.out q⟩

theorem l04Is_go (V : Value) (m z : Nat) (r : Bool) (X : Nat → List Int) (w : World) (h : RdSS w V m X) (hm : m ≤ 2000) (hasc : ∀ i, i < m → stepOk X i) (hz : z ≤ m) (hgood : ∀ i, i < z → stepM X i)
    (hend : (z = m ∧ r = true) ∨ (z < m ∧ ¬ stepM X z ∧ r = false)) :
    Calls Try.prog 67 #[.agg #[V]] w (SaysB r w) := by
  have h' := h
  obtain ⟨⟨a, cap, rfl⟩, hsm, VS, hc, hr⟩ := h
  have t2 := Try.underlying40
  have hm' : (m : Int) ≤ 2000 := by omega
  have B0 : Hid (Below w.heap.size w (w.alloc (.cells #[.slice a m cap] 40))) := Lib.hid ((Below.refl w.heap.size w).alloc (Nat.le_refl _) _)
  have BX : Hid (Box1 (w.alloc (.cells #[.slice a m cap] 40)) w.heap.size 40 (.slice a m cap)) := Lib.hid (Box1.new _ _ _)
  have A := Lib.hid (asc_yes _ m X _ (h'.below B0.out) hasc)
  have HR := Lib.hid (fun i hi => (hr i hi).below B0.out)
  have HO := Lib.hid hgood
  have HE := Lib.hid hend
  clear h' hasc hr hgood hend
  by_cases h0 : m = 0
  · subst h0
    obtain ⟨_, rfl⟩ := HE.out.resolve_right (fun h => by omega)
    clear hc HR HO HE BX
    go_enter Try.func67, Try.ntmps67
    go_wp2_with fail
    refine A.out.mono ?_
    rintro e w' ⟨rfl, q, rfl⟩
    go_wp2_with fail
    refine wp_loop_rounds 1 ?_
    rw [rounds_succ]
    go_wp2
    go_ret
    exact ⟨rfl, below_drewN B0.out q⟩
  · obtain ⟨b, off, ⟨cap', e⟩, hc'⟩ := hc.resolve_left h0
    cases e
    have hb : b < w.heap.size := World.block_lt_of_cell? w ⟨b, off + 0, none⟩ (hc' 0 (by omega))
    have HC : Hid (∀ i, i < m → (w.alloc (.cells #[.slice (some ⟨b, off, none⟩) m cap] 40)).cell? ⟨b, off + i, none⟩ = some (VS i)) := Lib.hid (fun i hi => (B0.out.cell (p := ⟨b, off + i, none⟩) hb).trans (hc' i hi))
    clear hc hc' hb
    go_enter Try.func67, Try.ntmps67
    go_wp2_with fail
    refine A.out.mono ?_
    rintro e w' ⟨rfl, q, rfl⟩
    clear A
    generalize (w.alloc (.cells #[.slice (some ⟨b, off, none⟩) m cap] 40)) = w1 at *
    go_wp2_with fail
    go_loopw [3] (fun c wr => ∃ k q : Nat, k ≤ z ∧ c = .int .i64 k ∧ Hid (wr = w1.drewN q)) (fun c _ => m - (intOf c).toNat)
    case atStart => exact ⟨0, q, by omega, rfl, Lib.hid rfl⟩
    case round =>
      obtain ⟨k, q, hk, rfl, hw⟩ := hrel
      have d0 : wr.cell? ⟨w.heap.size, 0, none⟩ = some (.slice (some ⟨b, off, none⟩) m cap) := by rw [hw.out]; exact BX.out.c
      by_cases hkm : k < m
      · have hlt' : (k : Int) < (m : Int) := by omega
        have hpm : (0 : Int) < (m : Int) := by omega
        obtain ⟨v1, hv1⟩ : ∃ v, v = VS k := ⟨_, rfl⟩
        obtain ⟨v2, hv2⟩ : ∃ v, v = VS 0 := ⟨_, rfl⟩
        have c1 : wr.cell? ⟨b, off + k, none⟩ = some v1 := by rw [hw.out, hv1]; exact HC.out k hkm
        have c2 : wr.cell? ⟨b, off, none⟩ = some v2 := by rw [hw.out, hv2]; exact HC.out 0 (by omega)
        have r1 : RdI wr v1 (X k).length (fun j => (X k)[j]?.getD 0) := by rw [hw.out, hv1]; exact HR.out k hkm
        have r2 : RdI wr v2 (X 0).length (fun j => (X 0)[j]?.getD 0) := by rw [hw.out, hv2]; exact HR.out 0 (by omega)
        have R1 := Lib.hid r1
        have R2 := Lib.hid r2
        clear hv1 hv2 r1 r2
        by_cases hwd : isE (X k)
        · have E1 : Hid (∀ n, Calls Try.prog 93 #[v1] (wr.drewN n) fun e w' => e = .returned (.bool true) ∧ ∃ p, w' = (wr.drewN n).drewN p) :=
            Lib.hid (fun n => (l01Exp_yes v1 _ _ _ (R1.out.drewN n) hwd).mono fun e w' ⟨he, hw⟩ => ⟨he, 0, hw.symm⟩)
          have p1 : Hid (DegE wr v1 (dgL (X k))) := Lib.hid (degE_list R1.out hwd)
          by_cases h40 : dgL (X k) ≤ 40
          · have hw0 : isE (X 0) := by
              by_cases e : k = 0
              · subst e; exact hwd
              · exact (HO.out 0 (by omega)).1.1
            have p2 : Hid (DegE wr v2 (dgL (X 0))) := Lib.hid (degE_list R2.out hw0)
            by_cases hlt : k < z
            · have hx := (HO.out k hlt).2
              rw [hx] at p1 h40
              generalize dgL (X 0) = x at p1 p2 h40
              have h40d : decide (40 < x) = false := decide_eq_false (by omega)
              clear h40
              clear R1 R2 hwd hw0 hx
              go_wp2_with fail
              go_quiet (first | (go_at_call 93; exact Calls.quiet_of (E1.out _)) | (go_at_call 94; exact Calls.quiet_of (l01Degree_is (by assumption) _)))
              go_wp2_with fail
              go_roundw
              case rel => exact ⟨k + 1, q + nq, by omega, by go_num, Lib.hid (by rw [hw.out]; exact World.drewN_drewN ..)⟩
              case measure => simp [intOf]; omega
            · obtain rfl : k = z := by omega
              obtain ⟨_, hbad, rfl⟩ := HE.out.resolve_left (fun h => by omega)
              have hx : (dgL (X k) != dgL (X 0)) = true := by
                rw [bne_iff_ne]
                exact fun e => hbad ⟨⟨hwd, h40⟩, e⟩
              generalize dgL (X 0) = x at p2 hx
              generalize dgL (X k) = y at p1 hx h40
              have h40d : decide (40 < y) = false := decide_eq_false (by omega)
              clear h40
              clear R1 R2 hwd hw0 hbad
              go_wp2_with fail
              go_quiet (first | (go_at_call 93; exact Calls.quiet_of (E1.out _)) | (go_at_call 94; exact Calls.quiet_of (l01Degree_is (by assumption) _)))
              go_wp2_with fail
              go_ret
              exact ⟨rfl, by rw [hw.out, World.drewN_drewN]; exact below_drewN B0.out _⟩
          · obtain rfl : k = z := by
              apply Decidable.byContradiction
              intro e
              exact h40 (HO.out k (by omega)).1.2
            obtain ⟨_, _, rfl⟩ := HE.out.resolve_left (fun h => by omega)
            have h40' : 40 < dgL (X k) := by omega
            generalize dgL (X k) = y at p1 h40 h40'
            clear R1 R2 hwd c2 h40
            go_wp2_with fail
            go_quiet (first | (go_at_call 93; exact Calls.quiet_of (E1.out _)) | (go_at_call 94; exact Calls.quiet_of (l01Degree_is (by assumption) _)))
            go_wp2_with fail
            go_ret
            exact ⟨rfl, by rw [hw.out, World.drewN_drewN]; exact below_drewN B0.out _⟩
        · obtain rfl : k = z := by
            apply Decidable.byContradiction
            intro e
            exact hwd (HO.out k (by omega)).1.1
          obtain ⟨_, _, rfl⟩ := HE.out.resolve_left (fun h => by omega)
          have E1 : Hid (∀ n, Calls Try.prog 93 #[v1] (wr.drewN n) fun e w' => e = .returned (.bool false) ∧ ∃ p, w' = (wr.drewN n).drewN p) :=
            Lib.hid (fun n => (l01Exp_no v1 _ _ _ (R1.out.drewN n) hwd).mono fun e w' ⟨he, hw⟩ => ⟨he, 0, hw.symm⟩)
          clear R1 R2 hwd
          go_wp2_with fail
          go_quiet ((go_at_call 93; exact Calls.quiet_of (E1.out _)))
          go_wp2_with fail
          go_ret
          exact ⟨rfl, by rw [hw.out, World.drewN_drewN]; exact below_drewN B0.out _⟩
      · obtain rfl : k = m := by omega
        obtain rfl : r = true := by
          rcases HE.out with ⟨_, h⟩ | ⟨h, _⟩
          · exact h
          · omega
        go_wp2_with fail
        go_ret
        exact ⟨rfl, by rw [hw.out]; exact below_drewN B0.out _⟩
end Go.Proofs.Ytcbfcpngpnlodaa
end
