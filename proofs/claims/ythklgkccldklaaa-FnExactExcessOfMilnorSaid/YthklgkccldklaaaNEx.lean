/-
  spec.ExcessOfMilnor and impl.ExcessOfMilnor answer the same.
-/
import Derived.Test.YthklgkccldklaaaNDeg
namespace Go.Proofs.Ythklgkccldklaaa.Ml
open Go.RowKit
set_option linter.unusedVariables false
set_option maxRecDepth 100000

/-- The sum of the first i numbers. -/
def eS (G : Nat → Int) : Nat → Int
  | 0 => 0
  | i + 1 => eS G i + G i
theorem eS_bound {G : Nat → Int} {n : Nat} (h : okNums G n) : ∀ i, i ≤ n → 0 ≤ eS G i ∧ eS G i ≤ (i : Int) * 1000000000000
  | 0, _ => ⟨Int.le_refl 0, by simp [eS]⟩
  | i + 1, hi => by
    have h1 := eS_bound h i (by omega)
    have h2 := h i (by omega)
    rw [eS]
    omega
/-- The least of 40 and the sums of the first i lists. -/
def exM (X : Nat → List Int) : Nat → Int
  | 0 => 40
  | i + 1 => if eS (gOf (X i)) (X i).length < exM X i then eS (gOf (X i)) (X i).length else exM X i

theorem specEx_bad (a : Option Addr) (m cap : Nat) (w : World) (A : Hid (∀ wx, Below w.heap.size w wx → Calls Try.prog 28 #[.agg #[.slice a m cap]] wx (SaysB false wx))) :
    Calls Try.prog 15 #[.agg #[.slice a m cap]] w (SaysN 0 1 w) := by
  have t2 := Try.underlying24
  have B0 : Hid (Below w.heap.size w (w.alloc (.cells #[.slice a m cap] 24))) := Lib.hid ((Below.refl w.heap.size w).alloc (Nat.le_refl _) _)
  go_enter Try.func15, Try.ntmps15
  go_wp2_with fail
  refine (A.out _ B0.out).mono ?_
  rintro e w2 ⟨rfl, b2⟩
  have B2 := Lib.hid (B0.out.step1 b2)
  clear b2
  go_wp2_with fail
  go_ret2
  exact ⟨rfl, B2.out⟩
theorem implEx_bad (a : Option Addr) (m cap : Nat) (w : World) (A : Hid (∀ wx, Below w.heap.size w wx → Calls Try.prog 30 #[.agg #[.slice a m cap]] wx (SaysB false wx))) :
    Calls Try.prog 17 #[.agg #[.slice a m cap]] w (SaysN 0 1 w) := by
  have t2 := Try.underlying24
  have B0 : Hid (Below w.heap.size w (w.alloc (.cells #[.slice a m cap] 24))) := Lib.hid ((Below.refl w.heap.size w).alloc (Nat.le_refl _) _)
  go_enter Try.func17, Try.ntmps17
  go_wp2_with fail
  refine (A.out _ B0.out).mono ?_
  rintro e w2 ⟨rfl, b2⟩
  have B2 := Lib.hid (B0.out.step1 b2)
  clear b2
  go_wp2_with fail
  go_ret2
  exact ⟨rfl, B2.out⟩
theorem specEx_zero (a : Option Addr) (cap : Nat) (w : World) (A : Hid (∀ wx, Below w.heap.size w wx → Calls Try.prog 28 #[.agg #[.slice a 0 cap]] wx (SaysB true wx))) :
    Calls Try.prog 15 #[.agg #[.slice a 0 cap]] w (SaysN 0 5 w) := by
  have t2 := Try.underlying24
  have B0 : Hid (Below w.heap.size w (w.alloc (.cells #[.slice a 0 cap] 24))) := Lib.hid ((Below.refl w.heap.size w).alloc (Nat.le_refl _) _)
  have BX : Hid (Box1 (w.alloc (.cells #[.slice a 0 cap] 24)) w.heap.size 24 (.slice a 0 cap)) := Lib.hid (Box1.new _ _ _)
  go_enter Try.func15, Try.ntmps15
  go_wp2_with fail
  refine (A.out _ B0.out).mono ?_
  rintro e w2 ⟨rfl, b2⟩
  have B2 := Lib.hid (B0.out.step1 b2)
  have c1 := (BX.out.up b2).c
  clear b2
  go_wp2_with fail
  go_ret2
  exact ⟨rfl, B2.out⟩
theorem implEx_zero (a : Option Addr) (cap : Nat) (w : World) (A : Hid (∀ wx, Below w.heap.size w wx → Calls Try.prog 30 #[.agg #[.slice a 0 cap]] wx (SaysB true wx))) :
    Calls Try.prog 17 #[.agg #[.slice a 0 cap]] w (SaysN 0 5 w) := by
  have t2 := Try.underlying24
  have B0 : Hid (Below w.heap.size w (w.alloc (.cells #[.slice a 0 cap] 24))) := Lib.hid ((Below.refl w.heap.size w).alloc (Nat.le_refl _) _)
  have BX : Hid (Box1 (w.alloc (.cells #[.slice a 0 cap] 24)) w.heap.size 24 (.slice a 0 cap)) := Lib.hid (Box1.new _ _ _)
  go_enter Try.func17, Try.ntmps17
  go_wp2_with fail
  refine (A.out _ B0.out).mono ?_
  rintro e w2 ⟨rfl, b2⟩
  have B2 := Lib.hid (B0.out.step1 b2)
  have c1 := (BX.out.up b2).c
  clear b2
  go_wp2_with fail
  refine (isZeroM_any a 0 cap w2).mono ?_
  rintro e w3 ⟨rfl, b3⟩
  have B3 := Lib.hid (B2.out.step1 b3)
  clear b3
  go_wp2_with fail
  go_ret2
  exact ⟨rfl, B3.out⟩

set_option maxHeartbeats 1000000 in
theorem specEx_ok (b o m cap : Nat) (X : Nat → List Int) (w : World) (h : RdSS w (.slice (some ⟨b, o, none⟩) m cap) m X) (hok : okMl X m) (hm : 0 < m) (A : Hid (∀ wx, Below w.heap.size w wx → Calls Try.prog 28 #[.agg #[.slice (some ⟨b, o, none⟩) m cap]] wx (SaysB true wx))) :
    Calls Try.prog 15 #[.agg #[.slice (some ⟨b, o, none⟩) m cap]] w (SaysN (exM X m) 0 w) := by
  have t2 := Try.underlying24
  have B0 : Hid (Below w.heap.size w (w.alloc (.cells #[.slice (some ⟨b, o, none⟩) m cap] 24))) := Lib.hid ((Below.refl w.heap.size w).alloc (Nat.le_refl _) _)
  have BX : Hid (Box1 (w.alloc (.cells #[.slice (some ⟨b, o, none⟩) m cap] 24)) w.heap.size 24 (.slice (some ⟨b, o, none⟩) m cap)) := Lib.hid (Box1.new _ _ _)
  have hz : ((m : Int) == 0) = false := by rw [beq_eq_false_iff_ne]; omega
  have HR := Lib.hid h
  have HOK := Lib.hid hok
  have hm2 : m ≤ 2000 := hok.1.1
  clear h hok
  go_enter Try.func15, Try.ntmps15
  go_wp2_with fail
  refine (A.out _ B0.out).mono ?_
  rintro e w2 ⟨rfl, b2⟩
  have B2 := Lib.hid (B0.out.step1 b2)
  have C1 := Lib.hid ((BX.out.up b2).c)
  have R2 := Lib.hid (HR.out.below B2.out)
  have c1 := C1.out
  clear b2 B0 BX HR
  go_wp2_with fail
  clear c1
  go_loopw [5, 4, 6, 7] (fun ci le _ _ wr => ∃ i : Nat, i ≤ m ∧ ci = .int .i64 i ∧ le = .int .i64 (exM X i) ∧ Hid (wr = w2)) (fun ci _ _ _ _ => m - (intOf ci).toNat)
  case atStart => exact ⟨0, by omega, rfl, rfl, Lib.hid rfl⟩
  case round =>
    obtain ⟨i, hi, rfl, rfl, hw⟩ := hrel
    have c1 : wr.cell? ⟨w.heap.size, 0, none⟩ = some (.slice (some ⟨b, o, none⟩) m cap) := by rw [hw.out]; exact C1.out
    by_cases hlt : i < m
    · have hlt' : (i : Int) < (m : Int) := by omega
      obtain ⟨_, hml, VS, hc, hr⟩ := R2.out
      obtain ⟨b', o', ⟨cap', e'⟩, hc2⟩ := hc.resolve_left (by omega)
      clear hc
      cases e'
      have c2 : wr.cell? ⟨b, o + i, none⟩ = some (VS i) := by rw [hw.out]; exact hc2 i hlt
      have hri := hr i hlt
      have OKE := Lib.hid ((HOK.out.2 i hlt).1.1)
      have EX : Hid (exM X (i + 1) = if eS (gOf (X i)) (X i).length < exM X i then eS (gOf (X i)) (X i).length else exM X i) := Lib.hid rfl
      obtain ⟨xs, hxs⟩ : ∃ xs, X i = xs := ⟨_, rfl⟩
      rw [hxs] at hri OKE EX
      generalize VS i = vi at c2 hri
      obtain ⟨ai, ci, rfl, hl, hcc⟩ := hri
      have HCC := Lib.hid hcc
      obtain ⟨mi, hmi⟩ : ∃ z, exM X i = z := ⟨_, rfl⟩
      rw [hmi] at EX ⊢
      clear hc2 hr hcc hmi hxs hml
      go_wp2_with fail
      go_loopw [7, 6] (fun ck s wq => ∃ k : Nat, k ≤ xs.length ∧ ck = .int .i64 k ∧ s = .int .i64 (eS (gOf xs) k) ∧ Hid (wq = wr)) (fun ck _ _ => xs.length - (intOf ck).toNat)
      case atStart => exact ⟨0, by omega, rfl, rfl, Lib.hid rfl⟩
      case round =>
        obtain ⟨k, hk, rfl, rfl, hwq⟩ := hrel
        rename World => wz
        by_cases hkl : k < xs.length
        · have hkl' : (k : Int) < (xs.length : Int) := by omega
          obtain ⟨bl, ol, rfl, hcell⟩ := HCC.out.resolve_left (by omega)
          have d1 : wz.cell? ⟨w.heap.size, 0, none⟩ = some (.slice (some ⟨b, o, none⟩) m cap) := by rw [hwq.out]; exact c1
          have d2 : wz.cell? ⟨b, o + i, none⟩ = some (.slice (some ⟨bl, ol, none⟩) xs.length ci) := by rw [hwq.out]; exact c2
          have d3 : wz.cell? ⟨bl, ol + k, none⟩ = some (.int .i64 (xs[k]?.getD 0)) := by rw [hwq.out, hw.out]; exact hcell k hkl
          have b1 := eS_bound OKE.out.2.2 k hk
          have b2 := eS_bound OKE.out.2.2 (k + 1) (by omega)
          have b3 := OKE.out.1
          have ES : eS (gOf xs) (k + 1) = eS (gOf xs) k + xs[k]?.getD 0 := rfl
          rw [ES] at b2
          have HES := Lib.hid ES
          obtain ⟨y, hy⟩ : ∃ y, xs[k]?.getD 0 = y := ⟨_, rfl⟩
          obtain ⟨s, hs⟩ : ∃ s, eS (gOf xs) k = s := ⟨_, rfl⟩
          rw [hy] at d3 b2 HES
          rw [hs] at b1 b2 HES ⊢
          have hwr : wrap64 (s + y) = s + y := by unfold wrap64; omega
          clear hcell hy hs ES b1 b2
          go_wp2_with fail
          go_roundw
          case rel => exact ⟨k + 1, by omega, by go_num, by rw [HES.out]; first | rfl | rw [hwr], hwq⟩
          case measure => simp [intOf]; omega
        · obtain rfl : k = xs.length := by omega
          have hkl' : ¬ ((xs.length : Nat) : Int) < (xs.length : Int) := by omega
          have d1 : wz.cell? ⟨w.heap.size, 0, none⟩ = some (.slice (some ⟨b, o, none⟩) m cap) := by rw [hwq.out]; exact c1
          have d2 : wz.cell? ⟨b, o + i, none⟩ = some (.slice ai xs.length ci) := by rw [hwq.out]; exact c2
          have hww : Hid (wz = w2) := Lib.hid (hwq.out.trans hw.out)
          obtain ⟨s, hs⟩ : ∃ s, eS (gOf xs) xs.length = s := ⟨_, rfl⟩
          rw [hs] at EX ⊢
          clear hs
          by_cases hmin : s < mi
          · have EX2 : Hid (exM X (i + 1) = s) := Lib.hid (by rw [EX.out, if_pos hmin])
            have hmin2 : s ≤ mi := by omega
            go_wp2_with fail
            go_roundw
            case rel => exact ⟨i + 1, by omega, by go_num, by rw [EX2.out], hww⟩
            case measure => simp [intOf]; omega
          · have EX2 : Hid (exM X (i + 1) = mi) := Lib.hid (by rw [EX.out, if_neg hmin])
            have hmin2 : mi ≤ s := by omega
            go_wp2_with fail
            go_roundw
            case rel => exact ⟨i + 1, by omega, by go_num, by rw [EX2.out], hww⟩
            case measure => simp [intOf]; omega
    · obtain rfl : i = m := by omega
      have hlt' : ¬ ((i : Nat) : Int) < (i : Int) := by omega
      have B9 : Hid (Below w.heap.size w wr) := Lib.hid (by rw [hw.out]; exact B2.out)
      go_wp2_with fail
      go_ret2
      exact ⟨rfl, B9.out⟩

set_option maxHeartbeats 1000000 in
theorem implEx_ok (b o m cap : Nat) (X : Nat → List Int) (w : World) (h : RdSS w (.slice (some ⟨b, o, none⟩) m cap) m X) (hok : okMl X m) (hm : 0 < m) (A : Hid (∀ wx, Below w.heap.size w wx → Calls Try.prog 30 #[.agg #[.slice (some ⟨b, o, none⟩) m cap]] wx (SaysB true wx))) :
    Calls Try.prog 17 #[.agg #[.slice (some ⟨b, o, none⟩) m cap]] w (SaysN (exM X m) 0 w) := by
  have t2 := Try.underlying24
  have B0 : Hid (Below w.heap.size w (w.alloc (.cells #[.slice (some ⟨b, o, none⟩) m cap] 24))) := Lib.hid ((Below.refl w.heap.size w).alloc (Nat.le_refl _) _)
  have BX : Hid (Box1 (w.alloc (.cells #[.slice (some ⟨b, o, none⟩) m cap] 24)) w.heap.size 24 (.slice (some ⟨b, o, none⟩) m cap)) := Lib.hid (Box1.new _ _ _)
  have Z : Hid (∀ wx, Calls Try.prog 31 #[.agg #[.slice (some ⟨b, o, none⟩) m cap]] wx fun e w' => e = .returned (.bool false) ∧ Below wx.heap.size wx w') := Lib.hid fun wx => by
    have := isZeroM_any (some ⟨b, o, none⟩) m cap wx
    rw [decide_eq_false (by omega)] at this
    exact this
  have HR := Lib.hid h
  have HOK := Lib.hid hok
  have hm2 : m ≤ 2000 := hok.1.1
  clear h hok
  go_enter Try.func17, Try.ntmps17
  go_wp2_with fail
  refine (A.out _ B0.out).mono ?_
  rintro e w2' ⟨rfl, b2⟩
  have B2' := Lib.hid (B0.out.step1 b2)
  have C1' := Lib.hid (BX.out.up b2)
  have c1 := C1'.out.c
  clear b2 B0 BX
  go_wp2_with fail
  refine (Z.out w2').mono ?_
  rintro e w2 ⟨rfl, b2⟩
  have B2 := Lib.hid (B2'.out.step1 b2)
  have C1 := Lib.hid ((C1'.out.up b2).c)
  have R2 := Lib.hid (HR.out.below B2.out)
  clear c1 b2 B2' C1' HR
  have c1 := C1.out
  go_wp2_with fail
  clear c1
  go_loopw [18, 4, 6, 7, 9] (fun ci le _ _ _ wr => ∃ i : Nat, i ≤ m ∧ ci = .int .i64 i ∧ le = .int .i64 (exM X i) ∧ Hid (wr = w2)) (fun ci _ _ _ _ _ => m - (intOf ci).toNat)
  case atStart => exact ⟨0, by omega, rfl, rfl, Lib.hid rfl⟩
  case round =>
    obtain ⟨i, hi, rfl, rfl, hw⟩ := hrel
    by_cases hlt : i < m
    · have hlt' : (i : Int) < (m : Int) := by omega
      obtain ⟨_, hml, VS, hc, hr⟩ := R2.out
      obtain ⟨b', o', ⟨cap', e'⟩, hc2⟩ := hc.resolve_left (by omega)
      clear hc
      cases e'
      have c2 : wr.cell? ⟨b, o + i, none⟩ = some (VS i) := by rw [hw.out]; exact hc2 i hlt
      have hri := hr i hlt
      have OKE := Lib.hid ((HOK.out.2 i hlt).1.1)
      have EX : Hid (exM X (i + 1) = if eS (gOf (X i)) (X i).length < exM X i then eS (gOf (X i)) (X i).length else exM X i) := Lib.hid rfl
      obtain ⟨xs, hxs⟩ : ∃ xs, X i = xs := ⟨_, rfl⟩
      rw [hxs] at hri OKE EX
      generalize VS i = vi at c2 hri
      obtain ⟨ai, ci, rfl, hl, hcc⟩ := hri
      have HCC := Lib.hid hcc
      obtain ⟨mi, hmi⟩ : ∃ z, exM X i = z := ⟨_, rfl⟩
      rw [hmi] at EX ⊢
      clear hc2 hr hcc hmi hxs hml
      go_wp2_with fail
      go_loopw [24, 7, 9] (fun ck s _ wq => ∃ k : Nat, k ≤ xs.length ∧ ck = .int .i64 k ∧ s = .int .i64 (eS (gOf xs) k) ∧ Hid (wq = wr)) (fun ck _ _ _ => xs.length - (intOf ck).toNat)
      case atStart => exact ⟨0, by omega, rfl, rfl, Lib.hid rfl⟩
      case round =>
        obtain ⟨k, hk, rfl, rfl, hwq⟩ := hrel
        rename World => wz
        by_cases hkl : k < xs.length
        · have hkl' : (k : Int) < (xs.length : Int) := by omega
          obtain ⟨bl, ol, rfl, hcell⟩ := HCC.out.resolve_left (by omega)
          have d3 : wz.cell? ⟨bl, ol + k, none⟩ = some (.int .i64 (xs[k]?.getD 0)) := by rw [hwq.out, hw.out]; exact hcell k hkl
          have b1 := eS_bound OKE.out.2.2 k hk
          have b2 := eS_bound OKE.out.2.2 (k + 1) (by omega)
          have b3 := OKE.out.1
          have ES : eS (gOf xs) (k + 1) = eS (gOf xs) k + xs[k]?.getD 0 := rfl
          rw [ES] at b2
          have HES := Lib.hid ES
          obtain ⟨y, hy⟩ : ∃ y, xs[k]?.getD 0 = y := ⟨_, rfl⟩
          obtain ⟨s, hs⟩ : ∃ s, eS (gOf xs) k = s := ⟨_, rfl⟩
          rw [hy] at d3 b2 HES
          rw [hs] at b1 b2 HES ⊢
          have hwr : wrap64 (s + y) = s + y := by unfold wrap64; omega
          clear hcell hy hs ES b1 b2
          go_wp2_with fail
          go_roundw
          case rel => exact ⟨k + 1, by omega, by go_num, by rw [HES.out]; first | rfl | rw [hwr], hwq⟩
          case measure => simp [intOf]; omega
        · obtain rfl : k = xs.length := by omega
          have hkl' : ¬ ((xs.length : Nat) : Int) < (xs.length : Int) := by omega
          have hww : Hid (wz = w2) := Lib.hid (hwq.out.trans hw.out)
          obtain ⟨s, hs⟩ : ∃ s, eS (gOf xs) xs.length = s := ⟨_, rfl⟩
          rw [hs] at EX ⊢
          clear hs
          by_cases hmin : s < mi
          · have EX2 : Hid (exM X (i + 1) = s) := Lib.hid (by rw [EX.out, if_pos hmin])
            have hmin2 : s ≤ mi := by omega
            go_wp2_with fail
            go_roundw
            case rel => exact ⟨i + 1, by omega, by go_num, by rw [EX2.out], hww⟩
            case measure => simp [intOf]; omega
          · have EX2 : Hid (exM X (i + 1) = mi) := Lib.hid (by rw [EX.out, if_neg hmin])
            have hmin2 : mi ≤ s := by omega
            go_wp2_with fail
            go_roundw
            case rel => exact ⟨i + 1, by omega, by go_num, by rw [EX2.out], hww⟩
            case measure => simp [intOf]; omega
    · obtain rfl : i = m := by omega
      have hlt' : ¬ ((i : Nat) : Int) < (i : Int) := by omega
      have B9 : Hid (Below w.heap.size w wr) := Lib.hid (by rw [hw.out]; exact B2.out)
      go_wp2_with fail
      go_ret2
      exact ⟨rfl, B9.out⟩

theorem ExM_both (X : Nat → List Int) (m : Nat) : ∃ x c : Int,
    (∀ V w, RdSS w V m X → Calls Try.prog 15 #[.agg #[V]] w (SaysN x c w)) ∧
    (∀ V w, RdSS w V m X → Calls Try.prog 17 #[.agg #[V]] w (SaysN x c w)) := by
  by_cases hok : okMl X m
  · by_cases hm : m = 0
    · subst hm
      refine ⟨0, 5, fun V w h => ?_, fun V w h => ?_⟩
      · obtain ⟨a, cap, rfl⟩ := h.head
        exact specEx_zero a cap w (Lib.hid fun wx hx => (isM_yes X 0 hok).1 _ wx (h.below hx))
      · obtain ⟨a, cap, rfl⟩ := h.head
        exact implEx_zero a cap w (Lib.hid fun wx hx => (isM_yes X 0 hok).2 _ wx (h.below hx))
    · refine ⟨exM X m, 0, fun V w h => ?_, fun V w h => ?_⟩
      · obtain ⟨b, o, v, cap, rfl, c, d⟩ := headD hok (by omega) h
        exact specEx_ok b o m cap X w h hok (by omega) (Lib.hid fun wx hx => (isM_yes X m hok).1 _ wx (h.below hx))
      · obtain ⟨b, o, v, cap, rfl, c, d⟩ := headD hok (by omega) h
        exact implEx_ok b o m cap X w h hok (by omega) (Lib.hid fun wx hx => (isM_yes X m hok).2 _ wx (h.below hx))
  · refine ⟨0, 1, fun V w h => ?_, fun V w h => ?_⟩
    · obtain ⟨a, cap, rfl⟩ := h.head
      exact specEx_bad a m cap w (Lib.hid fun wx hx => (isM_no X m hok).1 _ wx (h.below hx))
    · obtain ⟨a, cap, rfl⟩ := h.head
      exact implEx_bad a m cap w (Lib.hid fun wx hx => (isM_no X m hok).2 _ wx (h.below hx))
end Go.Proofs.Ythklgkccldklaaa.Ml
