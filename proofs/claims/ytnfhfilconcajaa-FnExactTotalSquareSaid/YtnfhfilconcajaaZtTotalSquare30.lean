/-
  Joined: YJoin.
-/
import Derived.Test.YtnfhfilconcajaaZtTotalSquare29
section
namespace Go.Proofs.Ytnfhfilconcajaa
open Go.RowKit Go.Maps
set_option linter.unusedVariables false
set_option maxRecDepth 100000

theorem flat_atY (s : Nat) : ∀ (ks : List (Array Value)), (∀ k ∈ ks, k.size = s) → ∀ i, i < ks.length → ∀ j, j < s → (ks.flatMap Array.toList)[i * s + j]? = (ks[i]?.getD #[]).toList[j]?
  | [], _, i, hi, _, _ => absurd hi (Nat.not_lt_zero _)
  | k :: ks, h, 0, _, j, hj => by
    have hk := h k List.mem_cons_self
    rw [List.flatMap_cons, List.getElem?_append_left (by rw [Array.length_toList]; omega)]
    simp
  | k :: ks, h, i + 1, hi, j, hj => by
    have hk := h k List.mem_cons_self
    have e : (i + 1) * s + j = s + (i * s + j) := by rw [Nat.succ_mul]; omega
    rw [List.flatMap_cons, List.getElem?_append_right (by rw [Array.length_toList, e]; omega), Array.length_toList, hk, e, Nat.add_sub_cancel_left]
    have := flat_atY s ks (fun k' hk' => h k' (List.mem_cons_of_mem _ hk')) i (by simpa using hi) j hj
    simpa using this
theorem rdY_of_own {w : World} {B : Nat} {v : Value} {zs : List (List Int)} (h : OwnY w B v (zs.map pwK)) (hz : ∀ z ∈ zs, z.length = 4) : RdY w v (zs.map pwK) := by
  have hk : ∀ k ∈ zs.map pwK, k.size = 4 := fun k hk => by
    obtain ⟨z, h1, rfl⟩ := List.mem_map.1 hk
    rw [pwK_size, hz z h1]
  unfold OwnY at h
  generalize zs.map pwK = ks at *
  rcases h.2 with ⟨rfl, h0⟩ | ⟨g, cap, cur, rfl, hb, hg, h1, h2, h3, h4⟩
  · exact ⟨none, 0, by rw [h0], by rw [h0]; exact Nat.zero_le _, .inl h0⟩
  · refine ⟨_, cap, rfl, Nat.le_trans h1 h2, .inr ⟨g, 0, rfl, (Array.getElem?_eq_some_iff.1 hg).1, fun i hi j u hj => ?_⟩⟩
    have hks : (ks[i]?.getD #[]).size = 4 := by
      rw [List.getElem?_eq_getElem hi]
      exact hk _ (List.getElem_mem hi)
    have hjs : j < 4 := by
      have := (List.getElem?_eq_some_iff.1 hj).1
      rw [Array.length_toList, hks] at this
      exact this
    have e := flat_atY 4 ks hk i hi j hjs
    rw [hj] at e
    have hlen : i * 4 + j < (ks.flatMap Array.toList).length := (List.getElem?_eq_some_iff.1 e).1
    rw [Nat.zero_add, h.cellAt (i * 4 + j) (by have := h.1; omega)]
    exact e

/-- V reads as lists of monomials. -/
def RdPs (w : World) (V : Value) (P : List (List (List Int))) : Prop :=
  ∃ (a : Option Addr) (cap : Nat) (vs : Nat → Value), V = .slice a P.length cap ∧ P.length ≤ maxLen ∧ (P.length = 0 ∨ ∃ b off, a = some ⟨b, off, none⟩ ∧ b < w.heap.size ∧ ∀ i, i < P.length → w.cell? ⟨b, off + i, none⟩ = some (vs i)) ∧ ∀ i, i < P.length → RdY w (vs i) ((P[i]?.getD []).map pwK)
theorem RdPs.below {w w' : World} {V : Value} {P : List (List (List Int))} (h : RdPs w V P) (k : Below w.heap.size w w') : RdPs w' V P := by
  obtain ⟨a, cap, vs, e, hm, hc, hr⟩ := h
  refine ⟨a, cap, vs, e, hm, ?_, fun i hi => (hr i hi).below k⟩
  rcases hc with h0 | ⟨b, off, e, hb, hc⟩
  · exact .inl h0
  · exact .inr ⟨b, off, e, Nat.lt_of_lt_of_le hb k.size, fun i hi => (k.cell (p := ⟨b, off + i, none⟩) hb).trans (hc i hi)⟩

set_option maxHeartbeats 4000000 in
theorem joined_any (V : Value) (P : List (List (List Int))) (D : Nat) (w : World) (h : RdPs w V P) (hP : ∀ p ∈ P, ∀ t ∈ p, Mono4 D t) (hD : D ≤ 40) (hl : P.length ≤ 1000000) (hl2 : ∀ p ∈ P, p.length ≤ 1000000) :
    Calls Try.prog 60 #[V] w (MonsRes (oddY P.flatten) w) := by
  obtain ⟨a, cap, vs, rfl, hm, hc, hr⟩ := h
  have HC := Lib.hid hc
  have HR := Lib.hid hr
  have HP := Lib.hid hP
  have HL2 := Lib.hid hl2
  have HD := Lib.hid hD
  obtain ⟨w1, hw1⟩ : ∃ w1, w1 = w.alloc (.cells Try.zeroCells96 96) := ⟨_, rfl⟩
  have J0 : Hid (TmJ w D (P.take 0).flatten w1) := Lib.hid (by rw [hw1]; exact ⟨(Below.refl _ w).alloc (Nat.le_refl _) _, SumT.new w _⟩)
  clear hc hr hP hl2 hm hD
  go_enter Try.func60, Try.ntmps60
  go_wp2_with fail
  rw [← hw1]
  clear hw1
  go_loopw [5, 7, 10] (fun _ _ c wr => ∃ i : Nat, i ≤ P.length ∧ c = .int .i64 i ∧ Hid (TmJ w D (P.take i).flatten wr)) (fun _ _ c _ => P.length - (intOf c).toNat)
  case atStart => exact ⟨0, by omega, rfl, J0⟩
  case round =>
    clear J0
    obtain ⟨i, hi2, rfl, hJ⟩ := hrel
    by_cases hlt : i < P.length
    · have hlt' : (i : Int) < (P.length : Int) := by omega
      obtain ⟨b, off, rfl, hbl, hcs⟩ := HC.out.resolve_left (by omega)
      obtain ⟨p, hp⟩ : ∃ p, p = P[i] := ⟨_, rfl⟩
      have hpm : p ∈ P := by rw [hp]; exact List.getElem_mem hlt
      have c1 : wr.cell? ⟨b, off + i, none⟩ = some (vs i) := (hJ.out.bel.cell (p := ⟨b, off + i, none⟩) hbl).trans (hcs i hlt)
      have hri := HR.out i hlt
      rw [List.getElem?_eq_getElem hlt, ← hp] at hri
      obtain ⟨av, cv, ev, hmv, hcv⟩ := (show RdY w (vs i) (p.map pwK) from hri)
      rw [List.length_map] at ev hmv hcv
      rw [ev] at c1
      have HCV := Lib.hid hcv
      have OKP := Lib.hid (HP.out p hpm)
      have hpl := HL2.out p hpm
      have TK : Hid ((P.take (i + 1)).flatten = (P.take i).flatten ++ p) := Lib.hid (by
        have e : P.take (i + 1) = P.take i ++ [p] := by rw [hp, List.take_add_one, List.getElem?_eq_getElem hlt]; rfl
        rw [e, List.flatten_append]
        simp)
      have I0 : Hid (TmJ w D ((P.take i).flatten ++ p.take 0) wr) := Lib.hid (by rw [List.take_zero, List.append_nil]; exact hJ.out)
      generalize (P.take i).flatten = Z at *
      clear hcs hri hcv hp hpm ev hJ
      go_wp2_with fail
      clear c1
      obtain ⟨wo, hwo⟩ : ∃ wo, wo = wr := ⟨_, rfl⟩
      subst hwo
      go_loopw [7, 16] (fun _ c wi => ∃ j : Nat, j ≤ p.length ∧ c = .int .i64 j ∧ Hid (TmJ w D (Z ++ p.take j) wi)) (fun _ c _ => p.length - (intOf c).toNat)
      case atStart => exact ⟨0, by omega, rfl, I0⟩
      case round =>
        clear I0
        obtain ⟨j, hj2, rfl, hI⟩ := hrel
        by_cases hjl : j < p.length
        · have hjl' : (j : Int) < (p.length : Int) := by omega
          obtain ⟨b2, off2, rfl, hbl2, hrg⟩ := HCV.out.resolve_left (by omega)
          obtain ⟨y, hy⟩ : ∃ y, y = p[j] := ⟨_, rfl⟩
          have hym : y ∈ p := by rw [hy]; exact List.getElem_mem hjl
          have hrk := hrg j hjl
          rw [List.getElem?_map, List.getElem?_eq_getElem hjl, ← hy] at hrk
          have hrk2 : w.rangeAt b2 (off2 + j * 4) (pwK y).toList := hrk
          have HRW2 : Hid (wr.rangeAt b2 (off2 + j * 4) (pwK y).toList) := Lib.hid fun q u hq => (hI.out.bel.cell (p := ⟨b2, off2 + j * 4 + q, none⟩) hbl2).trans (hrk2 q u hq)
          have OKY := Lib.hid (OKP.out y hym)
          have SY : Hid ((pwK y).size = 4) := Lib.hid (by rw [pwK_size, OKY.out.len])
          have ONY : Hid ((pwK y).all (·.oneCell') = true) := Lib.hid (pwK_one y)
          have NY : Hid ((wr.alloc (.cells (pwK y) 98)).rangeAt wr.heap.size 0 (pwK y).toList) := Lib.hid (PwAt.new wr y).range
          have B1 : Hid (Below wr.heap.size wr (wr.alloc (.cells (pwK y) 98))) := Lib.hid ((Below.refl _ _).alloc (Nat.le_refl _) _)
          have NXT : Hid (Z ++ p.take (j + 1) = (Z ++ p.take j) ++ [y]) := Lib.hid (by rw [hy, List.take_add_one, List.getElem?_eq_getElem hjl, List.append_assoc]; rfl)
          generalize Z ++ p.take j = us at *
          have AD := Lib.hid (addT_any w.heap.size D us y (wr.alloc (.cells (pwK y) 98)) (hI.out.sum.up B1.out) OKY.out HD.out)
          clear hrg hrk hrk2 hym hy
          go_wp2_with (first | (refine ldKY rfl _ rfl b2 (off2 + j * 4) rfl (pwK y) HRW2.out SY.out ?_) | (refine stKY wr rfl _ _ rfl rfl (pwK y) rfl SY.out ONY.out ?_) | (refine ldKY rfl _ rfl wr.heap.size 0 rfl (pwK y) NY.out SY.out ?_))
          refine AD.out.mono ?_
          rintro e w4 ⟨rfl, hs, hg⟩
          have I9 : Hid (TmJ w D (Z ++ p.take (j + 1)) w4) := Lib.hid (by rw [NXT.out]; exact ⟨(hI.out.bel.step1 B1.out).grown hg (hI.out.bel.step1 B1.out).size (fun q hq => by cases hq; exact Nat.le_refl _), hs⟩)
          clear hs hg hI AD HRW2 NY
          go_wp2_with fail
          go_roundw
          case rel => exact ⟨j + 1, by omega, by go_num, I9⟩
          case measure => simp [intOf]; omega
        · obtain rfl : j = p.length := by omega
          rw [List.take_length] at hI
          have J9 : Hid (TmJ w D (P.take (i + 1)).flatten wr) := Lib.hid (by rw [TK.out]; exact hI.out)
          clear hI
          go_wp2_with fail
          go_roundw
          case rel => exact ⟨i + 1, by omega, by go_num, J9⟩
          case measure => simp [intOf]; omega
    · obtain rfl : i = P.length := by omega
      rw [List.take_length] at hJ
      have MO := Lib.hid (monsT_any _ _ _ wr hJ.out.sum HD.out)
      go_wp2_with fail
      refine MO.out.mono ?_
      rintro e w9 ⟨u, rfl, o9, b9⟩
      have O9 := Lib.hid (own_base o9 hJ.out.bel.size)
      have B9 := Lib.hid (hJ.out.bel.step1 b9)
      clear o9 b9 MO
      go_wp2_with fail
      go_ret
      exact ⟨u, rfl, O9.out, B9.out⟩
end Go.Proofs.Ytnfhfilconcajaa
end
