/-
  Joined: NGood, QInS.
-/
import Derived.Test.YtcbfcpngpnlodaaZsisOfProfile28
import Derived.Test.YtcbfcpngpnlodaaZsisOfProfile29
import Derived.Test.YtcbfcpngpnlodaaZsisOfProfile30
section
namespace Go.Proofs.Ytcbfcpngpnlodaa
open Go.RowKit
set_option linter.unusedVariables false
set_option maxRecDepth 100000

theorem sp_ten (j : Nat) (h : j < 10) : 1 ≤ sp j ∧ sp j ≤ 1023 ∧ (5 ≤ j → 63 ≤ sp j) := by
  have : j = 0 ∨ j = 1 ∨ j = 2 ∨ j = 3 ∨ j = 4 ∨ j = 5 ∨ j = 6 ∨ j = 7 ∨ j = 8 ∨ j = 9 := by omega
  rcases this with rfl | rfl | rfl | rfl | rfl | rfl | rfl | rfl | rfl | rfl <;> decide
theorem wrap_same {x : Int} (h0 : -9223372036854775808 ≤ x) (h1 : x < 9223372036854775808) : wrap64 x = x := by unfold wrap64; omega
/-- A number's part in a degree. -/
theorem dgr_part (G : Nat → Int) : ∀ n, n ≤ 10 → okNums G n → 0 ≤ dgr G n ∧ dgr G n ≤ (n : Int) * 1023000000000000 ∧ ∀ i, i < n → G i * (sp i : Int) ≤ dgr G n
  | 0, _, _ => ⟨Int.le_refl _, by simp [dgr], fun i hi => absurd hi (Nat.not_lt_zero _)⟩
  | n + 1, hn, h => by
    obtain ⟨h1, h2, h3⟩ := dgr_part G n (by omega) fun i hi => h i (by omega)
    obtain ⟨p1, p2, _⟩ := sp_ten n (by omega)
    obtain ⟨g1, g2⟩ := h n (Nat.lt_succ_self n)
    have q1 : 0 ≤ G n * (sp n : Int) := Int.mul_nonneg g1 (by omega)
    have q2 : G n * (sp n : Int) ≤ 1000000000000 * 1023 := Int.mul_le_mul g2 (by omega) (by omega) (by omega)
    have e : dgr G (n + 1) = wrap64 (dgr G n + wrap64 (G n * (sp n : Int))) := rfl
    obtain ⟨pr, hpr⟩ : ∃ pr, G n * (sp n : Int) = pr := ⟨_, rfl⟩
    rw [e]
    rw [hpr] at q1 q2 ⊢
    generalize dgr G n = y at h1 h2 h3
    rw [wrap_same (x := pr) (by omega) (by omega), wrap_same (x := y + pr) (by omega) (by omega)]
    refine ⟨by omega, by omega, fun i hi => ?_⟩
    by_cases k : i = n
    · subst k; rw [hpr]; omega
    · have := h3 i (by omega); omega
theorem good_part {l : List Int} (h : goodE l) (i : Nat) : 0 ≤ l[i]?.getD 0 ∧ l[i]?.getD 0 * (sp i : Int) ≤ dgL l ∧ 0 ≤ dgL l := by
  obtain ⟨⟨h1, _, h3⟩, h2⟩ := h
  obtain ⟨d1, _, d3⟩ := dgr_part (gOf l) l.length h1 h3
  by_cases k : i < l.length
  · exact ⟨(h3 i k).1, d3 i k, d1⟩
  · rw [List.getElem?_eq_none (by omega)]
    refine ⟨Int.le_refl 0, ?_, d1⟩
    show 0 * (sp i : Int) ≤ dgL l
    rw [Int.zero_mul]
    exact d1
theorem good_forty {l : List Int} (h : goodE l) (i : Nat) (hi : i < l.length) : 0 ≤ l[i]?.getD 0 ∧ l[i]?.getD 0 ≤ 40 := by
  obtain ⟨a, b, _⟩ := good_part h i
  have h40 := h.2
  obtain ⟨p1, _, _⟩ := sp_ten i (by have := h.1.1; omega)
  have : l[i]?.getD 0 * 1 ≤ l[i]?.getD 0 * (sp i : Int) := Int.mul_le_mul_of_nonneg_left (by omega) a
  omega
end Go.Proofs.Ytcbfcpngpnlodaa
end
section
namespace Go.Proofs.Ytcbfcpngpnlodaa
open Go.RowKit
set_option linter.unusedVariables false
set_option maxRecDepth 100000

/-- The i-th term is in the part. -/
def stepT (X : Nat → List Int) (n : Nat) (H : Nat → Int) (i : Nat) : Prop := inL (X i).length (fun j => (X i)[j]?.getD 0) H n

theorem specIP_bad (a : Option Addr) (m cap : Nat) (v : Value) (w : World) (A : Hid (∀ wx, Below w.heap.size w wx → Calls Try.prog 67 #[.agg #[.slice a m cap]] wx (SaysB false wx))) :
    Calls Try.prog 33 #[.agg #[.slice a m cap], v] w (SaysV (.tuple #[.bool false, .int .i64 1]) w) := by
  have t2 := Try.underlying40
  have B0 : Hid (Below w.heap.size w (w.alloc (.cells #[.slice a m cap] 40))) := Lib.hid ((Below.refl w.heap.size w).alloc (Nat.le_refl _) _)
  go_enter Try.func33, Try.ntmps33
  go_wp2_with fail
  refine (A.out _ B0.out).mono ?_
  rintro e w' ⟨rfl, b2⟩
  have B2 := Lib.hid (B0.out.step1 b2)
  clear b2
  go_wp2_with fail
  go_ret2
  exact ⟨rfl, B2.out⟩
theorem specIP_no (a : Option Addr) (m cap n : Nat) (H : Nat → Int) (v : Value) (w : World) (hv : RdI w v n H) (h2 : ¬ okPr H n) (A : Hid (∀ wx, Below w.heap.size w wx → Calls Try.prog 67 #[.agg #[.slice a m cap]] wx (SaysB true wx))) :
    Calls Try.prog 33 #[.agg #[.slice a m cap], v] w (SaysV (.tuple #[.bool false, .int .i64 1]) w) := by
  have t2 := Try.underlying40
  have B0 : Hid (Below w.heap.size w (w.alloc (.cells #[.slice a m cap] 40))) := Lib.hid ((Below.refl w.heap.size w).alloc (Nat.le_refl _) _)
  have C := Lib.hid (fun (wx : World) (hb : Below w.heap.size w wx) => l07Is_no v n H wx (hv.below hb) h2)
  clear hv h2
  go_enter Try.func33, Try.ntmps33
  go_wp2_with fail
  refine (A.out _ B0.out).mono ?_
  rintro e w' ⟨rfl, b2⟩
  have B2 := Lib.hid (B0.out.step1 b2)
  clear b2
  go_wp2_with fail
  refine (C.out _ B2.out).mono ?_
  rintro e w3 ⟨rfl, rfl⟩
  go_wp2_with fail
  go_ret2
  exact ⟨rfl, B2.out⟩

set_option maxHeartbeats 2000000 in
theorem specIP_some (a : Option Addr) (m cap n z : Nat) (r : Bool) (X : Nat → List Int) (H : Nat → Int) (v : Value) (w : World) (h : RdSS w (.slice a m cap) m X) (hok : okMl X m) (hv : RdI w v n H) (h2 : okPr H n) (hz : z ≤ m) (hgood : ∀ i, i < z → stepT X n H i)
    (hend : (z = m ∧ r = true) ∨ (z < m ∧ ¬ stepT X n H z ∧ r = false)) (A : Hid (∀ wx, Below w.heap.size w wx → Calls Try.prog 67 #[.agg #[.slice a m cap]] wx (SaysB true wx))) :
    Calls Try.prog 33 #[.agg #[.slice a m cap], v] w (SaysV (.tuple #[.bool r, .int .i64 0]) w) := by
  have t2 := Try.underlying40
  have B0 : Hid (Below w.heap.size w (w.alloc (.cells #[.slice a m cap] 40))) := Lib.hid ((Below.refl w.heap.size w).alloc (Nat.le_refl _) _)
  have BX : Hid (Box1 (w.alloc (.cells #[.slice a m cap] 40)) w.heap.size 40 (.slice a m cap)) := Lib.hid (Box1.new _ _ _)
  have C := Lib.hid (fun (wx : World) (hb : Below w.heap.size w wx) => l07Is_yes v n H wx (hv.below hb) h2)
  have HV := Lib.hid hv
  have HR := Lib.hid h
  have HOK := Lib.hid hok
  have HP := Lib.hid h2
  have HO := Lib.hid hgood
  have HE := Lib.hid hend
  have hm2 : m ≤ 2000 := hok.1.1
  clear h hok hv h2 hgood hend
  go_enter Try.func33, Try.ntmps33
  go_wp2_with fail
  refine (A.out _ B0.out).mono ?_
  rintro e w2 ⟨rfl, b2⟩
  have B2 := Lib.hid (B0.out.step1 b2)
  have BX2 := Lib.hid (BX.out.up b2)
  clear b2 B0 BX
  go_wp2_with fail
  refine (C.out _ B2.out).mono ?_
  rintro e w3 ⟨rfl, rfl⟩
  go_wp2_with fail
  go_loopw [6] (fun c wr => ∃ i : Nat, i ≤ z ∧ c = .int .i64 i ∧ Hid (Below w2.heap.size w2 wr)) (fun c _ => m - (intOf c).toNat)
  case atStart => exact ⟨0, by omega, rfl, Lib.hid (Below.refl _ _)⟩
  case round =>
    obtain ⟨i, hi, rfl, hw⟩ := hrel
    have c1 := (BX2.out.up hw.out).c
    have BR := Lib.hid (B2.out.step1 hw.out)
    by_cases hlt : i < m
    · have hlt' : (i : Int) < (m : Int) := by omega
      obtain ⟨_, hml, VS, hc, hr⟩ := HR.out.below BR.out
      obtain ⟨b', o', ⟨cap', e'⟩, hc2⟩ := hc.resolve_left (by omega)
      clear hc
      cases e'
      have c2 := hc2 i hlt
      have hri := hr i hlt
      have hl10 := (HOK.out.2 i hlt).1.1.1
      by_cases hiz : i < z
      · have LI := Lib.hid (l07In_yes (VS i) v (X i).length n _ H wr (by omega) hri (HV.out.below BR.out) HP.out (HO.out i hiz))
        generalize VS i = vi at c2 LI
        clear hc2 hr hri hml hl10
        go_wp2_with fail
        refine LI.out.mono ?_
        rintro e w4 ⟨rfl, q, rfl⟩
        have W4 := Lib.hid (below_drewN hw.out q)
        go_wp2_with fail
        go_roundw
        case rel => exact ⟨i + 1, by omega, by go_num, W4⟩
        case measure => simp [intOf]; omega
      · obtain rfl : i = z := by omega
        obtain ⟨_, hbad, rfl⟩ := HE.out.resolve_left (fun h => by omega)
        have LI := Lib.hid (l07In_no (VS i) v (X i).length n _ H wr (by omega) hri (HV.out.below BR.out) HP.out hbad)
        generalize VS i = vi at c2 LI
        clear hc2 hr hri hml hl10
        go_wp2_with fail
        refine LI.out.mono ?_
        rintro e w4 ⟨rfl, q, rfl⟩
        have W4 := Lib.hid (below_drewN BR.out q)
        go_wp2_with fail
        go_ret2
        exact ⟨rfl, W4.out⟩
    · have hlt' : ¬ (i : Int) < (m : Int) := by omega
      obtain ⟨_, rfl⟩ := HE.out.resolve_right (fun h => by omega)
      go_wp2_with fail
      go_ret2
      exact ⟨rfl, BR.out⟩
end Go.Proofs.Ytcbfcpngpnlodaa
end
