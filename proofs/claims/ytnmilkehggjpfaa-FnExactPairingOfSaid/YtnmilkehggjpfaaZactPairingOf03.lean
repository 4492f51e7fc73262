/-
  Joined: NBin.
-/
import Derived.Test.YtnmilkehggjpfaaZBMil27
import Derived.Test.YtnmilkehggjpfaaZBMil24
import Derived.Test.YtnmilkehggjpfaaZBMil05
section
namespace Go.Proofs.Ytnmilkehggjpfaa.Ml
open Go.RowKit
set_option linter.unusedVariables false
set_option maxRecDepth 100000

theorem lexCmp_zero : ∀ xs ys : List Int, lexCmp xs ys = 0 ↔ xs = ys
  | [], [] => by simp [lexCmp]
  | [], _ :: _ => by simp [lexCmp]
  | _ :: _, [] => by simp [lexCmp]
  | a :: l, b :: l' => by
    unfold lexCmp
    by_cases h : a = b
    · rw [if_pos h, lexCmp_zero l l']
      subst h
      simp
    · rw [if_neg h]
      constructor
      · intro e; split at e <;> omega
      · intro e; exact absurd (List.cons.inj e).1 h

/-- The list ys is one of the first m. -/
def hasR (X : Nat → List Int) (m : Nat) (ys : List Int) : Prop := ∃ i, i < m ∧ X i = ys
noncomputable def hasB (X : Nat → List Int) (m : Nat) (ys : List Int) : Bool := @decide (hasR X m ys) (Classical.propDecidable _)
theorem hasB_true {X : Nat → List Int} {m : Nat} {ys : List Int} : hasB X m ys = true ↔ hasR X m ys := @decide_eq_true_iff _ (Classical.propDecidable _)
theorem hasB_false {X : Nat → List Int} {m : Nat} {ys : List Int} (h : ¬ hasR X m ys) : hasB X m ys = false := by
  cases e : hasB X m ys with
  | false => rfl
  | true => exact absurd (hasB_true.1 e) h

theorem found_at {X : Nat → List Int} {m lo : Nat} {ys : List Int} (hasc : ∀ j, j < m → ∀ i, i < j → lexLt (X i) (X j) = true) (h1 : ∀ t, t < lo → lexCmp (X t) ys < 0) (h2 : ∀ t, lo ≤ t → t < m → 0 ≤ lexCmp (X t) ys) (hlo : lo < m) :
    hasB X m ys = decide (lexCmp (X lo) ys = 0) := by
  by_cases h : lexCmp (X lo) ys = 0
  · rw [decide_eq_true h]
    exact hasB_true.2 ⟨lo, hlo, (lexCmp_zero _ _).1 h⟩
  · rw [decide_eq_false h]
    refine hasB_false ?_
    rintro ⟨i, hi, rfl⟩
    rcases Nat.lt_trichotomy i lo with k | k | k
    · have := h1 i k
      rw [(lexCmp_zero _ _).2 rfl] at this
      omega
    · subst k
      exact h ((lexCmp_zero _ _).2 rfl)
    · have h3 := (lexCmp_lt _ _).2 (hasc i hi lo k)
      have h4 := h2 lo (Nat.le_refl _) hlo
      omega
theorem found_none {X : Nat → List Int} {m : Nat} {ys : List Int} (h1 : ∀ t, t < m → lexCmp (X t) ys < 0) : hasB X m ys = false := by
  refine hasB_false ?_
  rintro ⟨i, hi, rfl⟩
  have := h1 i hi
  rw [(lexCmp_zero _ _).2 rfl] at this
  omega

/-- Where the search ends. -/
def BinPost (X : Nat → List Int) (m : Nat) (ys : List Int) (w : World) (e : Ending) (w' : World) : Prop := ∃ i : Nat, e = .returned (.tuple #[.int .i64 i, .bool (hasB X m ys)]) ∧ w = w'

theorem bsearch_any (V : Value) (m : Nat) (X : Nat → List Int) (t : Value) (ys : List Int) (w : World) (h : RdSS w V m X) (ht : RdL w t ys) (hm : m ≤ 2000) (hasc : ∀ j, j < m → ∀ i, i < j → lexLt (X i) (X j) = true) :
    Calls Try.prog 100 #[V, t, .func (.func 101) #[] #[]] w (BinPost X m ys w) := by
  obtain ⟨⟨a, cap, rfl⟩, hsm, VS, hc, hr⟩ := h
  have HA := Lib.hid hasc
  have CM := Lib.hid (fun i (hi : i < m) => slicesCompare_any (VS i) t (X i) ys w (hr i hi) ht)
  clear hasc hr ht hsm
  by_cases h0 : m = 0
  · subst h0
    have N := Lib.hid (found_none (X := X) (m := 0) (ys := ys) (fun t ht => absurd ht (Nat.not_lt_zero _)))
    clear hc
    go_enter Try.func100, Try.ntmps100
    go_wp2
    refine wp_loop_rounds 1 ?_
    rw [rounds_succ]
    go_wp2
    go_ret2
    exact ⟨0, by rw [N.out]; rfl, rfl⟩
  · obtain ⟨b, off, ⟨cap', e⟩, hc'⟩ := hc.resolve_left h0
    cases e
    have HC := Lib.hid hc'
    clear hc hc' h0
    go_enter Try.func100, Try.ntmps100
    go_wp2
    go_loop [9, 10, 11] (fun i j _ => ∃ lo hi : Nat, i = .int .i64 lo ∧ j = .int .i64 hi ∧ lo ≤ hi ∧ hi ≤ m ∧ Hid (∀ t, t < lo → lexCmp (X t) ys < 0) ∧ Hid (∀ t, hi ≤ t → t < m → 0 ≤ lexCmp (X t) ys)) (fun i j _ => (intOf j).toNat - (intOf i).toNat)
    case atStart => exact ⟨0, m, rfl, rfl, Nat.zero_le _, Nat.le_refl _, Lib.hid (fun t ht => absurd ht (Nat.not_lt_zero _)), Lib.hid (fun t h1 h2 => by omega)⟩
    case round =>
      obtain ⟨lo, hi, rfl, rfl, hlh, hin, H1, H2⟩ := hrel
      by_cases hlt : lo < hi
      · obtain ⟨md, hmd⟩ : ∃ md : Nat, md = (lo + hi) / 2 := ⟨_, rfl⟩
        have e2 : ((lo : Int) + (hi : Int)) / 2 = (md : Int) := by omega
        have hb1 : lo ≤ md := by omega
        have hb2 : md < hi := by omega
        clear hmd
        have c1 := HC.out md (by omega)
        have C1 := Lib.hid (CM.out md (by omega))
        by_cases hneg : lexCmp (X (md)) ys < 0
        · have I1 : Hid (∀ t, t < md + 1 → lexCmp (X t) ys < 0) := Lib.hid (fun t ht => by
            by_cases e : t = md
            · rw [e]; exact hneg
            · have h5 := (lexCmp_lt _ _).1 hneg
              exact (lexCmp_lt _ _).2 (lexLt_trans _ _ _ (HA.out (md) (by omega) t (by omega)) h5))
          have hlt' : (lo : Int) < (hi : Int) := by omega
          generalize VS (md) = vm at c1 C1
          generalize lexCmp (X (md)) ys = cc at C1 hneg
          go_wp2_with fail
          refine C1.out.mono ?_
          rintro e w2 ⟨rfl, rfl⟩
          go_wp2_with fail
          go_round
          case rel => exact ⟨md + 1, hi, by go_num, rfl, by omega, hin, I1, H2⟩
          case measure => simp [intOf]; omega
        · have I2 : Hid (∀ t, md ≤ t → t < m → 0 ≤ lexCmp (X t) ys) := Lib.hid (fun t h1 h2 => by
            by_cases e : t = md
            · rw [e]; omega
            · refine Int.not_lt.1 fun h3 => hneg ?_
              have h5 := (lexCmp_lt _ _).1 h3
              exact (lexCmp_lt _ _).2 (lexLt_trans _ _ _ (HA.out t h2 (md) (by omega)) h5))
          have hlt' : (lo : Int) < (hi : Int) := by omega
          generalize VS (md) = vm at c1 C1
          generalize lexCmp (X (md)) ys = cc at C1 hneg
          go_wp2_with fail
          refine C1.out.mono ?_
          rintro e w2 ⟨rfl, rfl⟩
          go_wp2_with fail
          go_round
          case rel => exact ⟨lo, md, rfl, rfl, by omega, by omega, H1, I2⟩
          case measure => simp [intOf]; omega
      · obtain rfl : hi = lo := by omega
        by_cases hn : hi < m
        · have FD := Lib.hid (found_at HA.out H1.out H2.out hn)
          have c1 := HC.out hi hn
          have C1 := Lib.hid (CM.out hi hn)
          have hn' : (hi : Int) < (m : Int) := by omega
          generalize VS hi = vm at c1 C1
          generalize lexCmp (X hi) ys = cc at C1 FD
          by_cases hz : cc = 0
          · rw [decide_eq_true hz] at FD
            subst hz
            go_wp2_with fail
            refine C1.out.mono ?_
            rintro e w2 ⟨rfl, rfl⟩
            go_wp2_with fail
            go_ret2
            exact ⟨hi, by rw [FD.out]; rfl, rfl⟩
          · rw [decide_eq_false hz] at FD
            have hz2 : (cc == 0) = false := by rw [beq_eq_false_iff_ne]; exact hz
            go_wp2_with fail
            refine C1.out.mono ?_
            rintro e w2 ⟨rfl, rfl⟩
            go_wp2_with fail
            go_ret2
            exact ⟨hi, by rw [FD.out]; rfl, rfl⟩
        · obtain rfl : hi = m := by omega
          have N := Lib.hid (found_none H1.out)
          go_wp2_with fail
          go_ret2
          exact ⟨hi, by rw [N.out]; rfl, rfl⟩

theorem hasTerm_any (a : Option Addr) (m cap : Nat) (X : Nat → List Int) (t : Value) (ys : List Int) (w : World) (h : RdSS w (.slice a m cap) m X) (ht : RdL w t ys) (hm : m ≤ 2000) (hasc : ∀ j, j < m → ∀ i, i < j → lexLt (X i) (X j) = true) :
    Calls Try.prog 67 #[.agg #[.slice a m cap], t] w (SaysB (hasB X m ys) w) := by
  have t2 := Try.underlying45
  have B0 : Hid (Below w.heap.size w (w.alloc (.cells #[.slice a m cap] 45))) := Lib.hid ((Below.refl w.heap.size w).alloc (Nat.le_refl _) _)
  have BS := Lib.hid (bsearch_any _ m X t ys _ (h.below B0.out) (RdI.below ht B0.out) hm hasc)
  clear h ht hasc
  go_enter Try.func67, Try.ntmps67
  go_wp2_with fail
  refine BS.out.mono ?_
  rintro e w2 ⟨i, rfl, rfl⟩
  go_wp2_with fail
  go_ret
  exact ⟨rfl, B0.out⟩

/-- Where a list stands. -/
def PlacePost (X : Nat → List Int) (m : Nat) (ys : List Int) (w : World) (e : Ending) (w' : World) : Prop := ∃ i : Int, e = .returned (.int .i64 i) ∧ -1 ≤ i ∧ (decide (0 ≤ i) = hasB X m ys) ∧ ∃ q, w' = w.drewN q

theorem l01Place_any (V : Value) (m : Nat) (X : Nat → List Int) (t : Value) (ys : List Int) (w : World) (h : RdSS w V m X) (ht : RdL w t ys) (hm : m ≤ 2000) :
    Calls Try.prog 99 #[V, t] w (PlacePost X m ys w) := by
  obtain ⟨⟨a, cap, rfl⟩, hsm, VS, hc, hr⟩ := h
  have SM := Lib.hid (fun i (hi : i < m) (q : Nat) => l01Same_any (VS i) t (X i) ys (w.drewN q) (hr i hi) ht)
  clear hr ht hsm
  by_cases h0 : m = 0
  · subst h0
    have N := Lib.hid (found_none (X := X) (m := 0) (ys := ys) (fun t ht => absurd ht (Nat.not_lt_zero _)))
    clear hc
    go_enter Try.func99, Try.ntmps99
    go_wp2
    refine wp_loop_rounds 1 ?_
    rw [rounds_succ]
    go_wp2
    go_ret
    exact ⟨-1, rfl, by omega, by rw [N.out]; rfl, 0, rfl⟩
  · obtain ⟨b, off, ⟨cap', e⟩, hc'⟩ := hc.resolve_left h0
    cases e
    have HC := Lib.hid hc'
    clear hc hc' h0
    go_enter Try.func99, Try.ntmps99
    go_wp2
    go_loopw [5] (fun c wr => ∃ k q : Nat, k ≤ m ∧ c = .int .i64 k ∧ Hid (∀ i, i < k → X i ≠ ys) ∧ Hid (wr = w.drewN q)) (fun c _ => m - (intOf c).toNat)
    case atStart => exact ⟨0, 0, by omega, rfl, Lib.hid (fun i hi => absurd hi (Nat.not_lt_zero _)), Lib.hid rfl⟩
    case round =>
      obtain ⟨k, q, hk, rfl, HN, hw⟩ := hrel
      by_cases hlt : k < m
      · have hlt' : (k : Int) < (m : Int) := by omega
        have c1 : wr.cell? ⟨b, off + k, none⟩ = some (VS k) := by rw [hw.out]; exact HC.out k hlt
        have S1 := Lib.hid (SM.out k hlt q)
        rw [← hw.out] at S1
        generalize VS k = v at c1 S1
        by_cases he : X k = ys
        · rw [decide_eq_true he] at S1
          have HY := Lib.hid (hasB_true.2 ⟨k, hlt, he⟩)
          clear he
          go_wp2_with fail
          refine S1.out.mono ?_
          rintro e w2 ⟨rfl, q2, rfl⟩
          go_wp2_with fail
          go_ret
          exact ⟨k, rfl, by omega, by rw [HY.out, decide_eq_true (by omega)], q + q2, by rw [hw.out]; exact World.drewN_drewN ..⟩
        · rw [decide_eq_false he] at S1
          have HN2 : Hid (∀ i, i < k + 1 → X i ≠ ys) := Lib.hid (fun i hi => by
            by_cases e : i = k
            · rw [e]; exact he
            · exact HN.out i (by omega))
          clear he
          go_wp2_with fail
          refine S1.out.mono ?_
          rintro e w2 ⟨rfl, q2, rfl⟩
          go_wp2_with fail
          go_roundw
          case rel => exact ⟨k + 1, q + q2, by omega, by go_num, HN2, Lib.hid (by rw [hw.out]; exact World.drewN_drewN ..)⟩
          case measure => simp [intOf]; omega
      · obtain rfl : k = m := by omega
        have N : Hid (hasB X k ys = false) := Lib.hid (hasB_false (fun ⟨i, hi, e⟩ => HN.out i hi e))
        go_wp2_with fail
        go_ret
        exact ⟨-1, rfl, by omega, by rw [N.out]; rfl, q, hw.out⟩
end Go.Proofs.Ytnmilkehggjpfaa.Ml
end
