/-
  spec.l03Text.
-/
import Derived.Test.YtkcjbgfbhkmliaaDoorTxtDec
import Derived.Test.YtkcjbgfbhkmliaaDoorOpenRows
namespace Go.Proofs.YtkcjbgfbhkmliaaDoor
open Go.RowKit
set_option linter.unusedVariables false
set_option maxRecDepth 100000

/-- Ahead of a word; behind k of its letters. -/
def preT (X : Nat → List Int) (i : Nat) : List UInt8 := wordsT X i ++ sepT 43 i
def midT (X : Nat → List Int) (i k : Nat) : List UInt8 := preT X i ++ lettersT (X i) k
def midS (X : Nat → List Int) (i k : Nat) : List UInt8 := midT X i k ++ sepT 32 k
theorem preT_zero (X : Nat → List Int) : preT X 0 = [] := rfl
theorem preT_pos (X : Nat → List Int) {i : Nat} (h : 0 < i) : S (wordsT X i) ++ ⟨#[43]⟩ = S (preT X i) := by
  unfold preT; rw [sepT_pos 43 h]; exact S_app _ [43]
theorem midT_zero (X : Nat → List Int) (i : Nat) : midT X i 0 = preT X i := by unfold midT; rw [lettersT_zero, List.append_nil]
theorem midS_zero (X : Nat → List Int) (i : Nat) : midS X i 0 = midT X i 0 := by unfold midS; rw [sepT_zero, List.append_nil]
theorem midS_pos (X : Nat → List Int) (i : Nat) {k : Nat} (h : 0 < k) : S (midT X i k) ++ ⟨#[32]⟩ = S (midS X i k) := by
  unfold midS; rw [sepT_pos 32 h]; exact S_app _ [32]
theorem midS_sq (X : Nat → List Int) (i k : Nat) : S (midS X i k) ++ ⟨#[83, 113]⟩ = S (midS X i k ++ [83, 113]) := S_app _ [83, 113]
theorem midT_succ (X : Nat → List Int) (i k : Nat) : S (midS X i k ++ [83, 113]) ++ S (decT ((X i).getD k 0)) = S (midT X i (k + 1)) := by
  rw [S_app]
  unfold midS midT
  rw [lettersT_succ]
  simp [letT, List.append_assoc]
theorem midT_last (X : Nat → List Int) (i : Nat) (h : (X i).length ≠ 0) : midT X i (X i).length = wordsT X (i + 1) := by
  rw [wordsT_succ, wordT_pos h]; unfold midT preT; rw [List.append_assoc]
theorem midT_none (X : Nat → List Int) (i : Nat) (h : (X i).length = 0) : S (midT X i 0) ++ ⟨#[49]⟩ = S (wordsT X (i + 1)) := by
  rw [wordsT_succ, wordT_nil h, midT_zero]; unfold preT; rw [← List.append_assoc]; exact S_app _ [49]

theorem sepT_len (c : UInt8) (k : Nat) : (sepT c k).length ≤ 1 := by unfold sepT; split <;> simp
theorem preT_len (X : Nat → List Int) (m i : Nat) (hm : m ≤ 2000) (h : ∀ j, j < m → Small (X j)) (hi : i ≤ m) : (preT X i).length ≤ 202001 := by
  have h1 := wordsT_len X m i h hi
  have h2 := sepT_len 43 i
  have h3 : i * 101 ≤ 2000 * 101 := Nat.mul_le_mul_right _ (by omega)
  unfold preT; rw [List.length_append]; omega
theorem midT_len (X : Nat → List Int) (m i k : Nat) (hm : m ≤ 2000) (h : ∀ j, j < m → Small (X j)) (hi : i < m) (hk : k ≤ (X i).length) : (midT X i k).length ≤ 202101 := by
  have h1 := preT_len X m i hm h (by omega)
  have h2 := lettersT_len (h i hi) k hk
  unfold midT; rw [List.length_append]; omega
theorem midS_len (X : Nat → List Int) (m i k : Nat) (hm : m ≤ 2000) (h : ∀ j, j < m → Small (X j)) (hi : i < m) (hk : k ≤ (X i).length) : (midS X i k).length ≤ 202102 := by
  have h1 := midT_len X m i k hm h hi hk
  have h2 := sepT_len 32 k
  unfold midS; rw [List.length_append]; omega

theorem S_ne {l : List UInt8} (h : l ≠ []) : (S l).toList.isEmpty = false := by
  rw [ByteArray.toList_eq]
  cases l with
  | nil => exact absurd rfl h
  | cons a t => rfl

theorem text_zero (V : Value) (X : Nat → List Int) (w : World) (h : RdSS w V 0 X) :
    Calls Tryd.prog 16 #[V] w fun e w' => e = .returned (.string (S (sumT X 0))) ∧ Below w.heap.size w w' := by
  obtain ⟨⟨a, cap, rfl⟩, _⟩ := h
  go_enter Tryd.func16, Tryd.ntmps16
  go_wp2
  refine wp_loop_rounds 1 ?_
  rw [rounds_succ]
  go_wp2
  go_ret
  exact ⟨rfl, Below.refl _ _⟩

set_option maxHeartbeats 4000000 in
theorem text_some (V : Value) (m : Nat) (X : Nat → List Int) (w : World) (h : RdSS w V m X) (h0 : 0 < m) (hm : m ≤ 2000) (hX : ∀ i, i < m → Small (X i)) :
    Calls Tryd.prog 16 #[V] w fun e w' => e = .returned (.string (S (sumT X m))) ∧ Below w.heap.size w w' := by
  obtain ⟨⟨a, cap, rfl⟩, hsm, VS, hc, hr⟩ := h
  obtain ⟨b, off, ⟨cap', e⟩, hcell⟩ := hc.resolve_left (by omega)
  cases e
  have HC := Lib.hid hcell
  have HR := Lib.hid hr
  have HX := Lib.hid hX
  have hb : b < w.heap.size := World.block_lt_of_cell? w ⟨b, off + 0, none⟩ (hcell 0 h0)
  have NE : Hid ((S (wordsT X m)).toList.isEmpty = false) := Lib.hid (S_ne (wordsT_ne X m h0))
  have ES : Hid (sumT X m = wordsT X m) := Lib.hid (by unfold sumT; rw [if_neg (by omega)])
  clear hc hcell hr hX
  go_enter Tryd.func16, Tryd.ntmps16
  go_wp2
  go_loopw [3, 4] (fun t c wr => ∃ i : Nat, i ≤ m ∧ c = .int .i64 i ∧ t = .string (S (wordsT X i)) ∧ Hid (Below w.heap.size w wr)) (fun _ c _ => m - (intOf c).toNat)
  case atStart => exact ⟨0, by omega, rfl, rfl, Lib.hid (Below.refl _ _)⟩
  case round =>
    obtain ⟨i, hi, rfl, rfl, hB⟩ := hrel
    rename World => w1
    by_cases hlt : i < m
    · have hlt' : (i : Int) < (m : Int) := by omega
      obtain ⟨vk, hvk⟩ : ∃ v, VS i = v := ⟨_, rfl⟩
      have c1 : w1.cell? ⟨b, off + i, none⟩ = some vk := by rw [← hvk]; exact (hB.out.cell (p := ⟨b, off + i, none⟩) hb).trans (HC.out i hlt)
      have RK := (HR.out i hlt).below hB.out
      rw [hvk] at RK
      obtain ⟨av, cv, rfl, hmv, hv⟩ := RK
      have HV := Lib.hid hv
      clear hv hvk
      have Z0 : Hid ((wordsT X i).length ≤ 202000) := Lib.hid (by have := wordsT_len X m i HX.out (by omega); have h3 : i * 101 ≤ 2000 * 101 := Nat.mul_le_mul_right _ (by omega); omega)
      have START : Hid (∀ u : Value, True) := Lib.hid (fun _ => trivial)
      have INNER : Hid (midT X i 0 = preT X i) := Lib.hid (midT_zero X i)
      clear START
      have sz1 : (S (wordsT X i)).size = (wordsT X i).length := S_size _
      have hl20 := (HX.out i hlt).1
      have hbr : b < w1.heap.size := World.block_lt_of_cell? w1 _ c1
      rcases Nat.eq_zero_or_pos i with hi0 | hi0
      · have e0 : ¬ (0 : Int) < (i : Int) := by omega
        have e1 : S (wordsT X i) = S (midT X i 0) := by subst hi0; rw [INNER.out]; rfl
        rw [e1]
        clear e1 sz1 hi0
        go_wp2
        go_loopw [3, 5] (fun t c wr => ∃ k : Nat, k ≤ (X i).length ∧ c = .int .i64 k ∧ t = .string (S (midT X i k)) ∧ Hid (Below w1.heap.size w1 wr)) (fun _ c _ => (X i).length - (intOf c).toNat)
        case atStart => exact ⟨0, by omega, rfl, rfl, Lib.hid (Below.refl _ _)⟩
        case round =>
          obtain ⟨k, hk, rfl, rfl, hBx⟩ := hrel
          have c1x : wr.cell? ⟨b, off + i, none⟩ = some (.slice av (X i).length cv) := (hBx.out.cell (p := ⟨b, off + i, none⟩) hbr).trans c1
          have L0 : Hid ((midT X i k).length ≤ 202101) := Lib.hid (midT_len X m i k hm HX.out hlt hk)
          have L1 : Hid ((midS X i k).length ≤ 202102) := Lib.hid (midS_len X m i k hm HX.out hlt hk)
          by_cases hkl : k < (X i).length
          · have hkl' : (k : Int) < ((X i).length : Int) := by omega
            obtain ⟨bv, ov, rfl, hv⟩ := HV.out.resolve_left (by omega)
            obtain ⟨x, hx⟩ : ∃ x, (X i)[k]?.getD 0 = x := ⟨_, rfl⟩
            have c2x : wr.cell? ⟨bv, ov + k, none⟩ = some (.int .i64 x) := by
              have h1 := hv k hkl
              simp only [hx] at h1
              exact (hBx.out.cell (p := ⟨bv, ov + k, none⟩) (World.block_lt_of_cell? w1 _ h1)).trans h1
            have hx' : (X i).getD k 0 = x := by rw [List.getD_eq_getElem?_getD]; exact hx
            have hx2 := (HX.out i hlt).2 k hkl
            rw [hx'] at hx2
            have D := Lib.hid fun wy => dec_any x hx2.1 hx2.2 wy
            have T1 : S (midS X i k) ++ ⟨#[83, 113]⟩ = S (midS X i k ++ [83, 113]) := midS_sq X i k
            have T2 : S (midS X i k ++ [83, 113]) ++ S (decT x) = S (midT X i (k + 1)) := by rw [← hx']; exact midT_succ X i k
            have l2 : (decT x).length ≤ 2 := dec_len (by omega)
            have l0 := L0.out
            have l1 := L1.out
            have z0 := S_size (midT X i k)
            have z1 := S_size (midS X i k)
            have z2 : (S (midS X i k ++ [83, 113])).size = (midS X i k).length + 2 := by rw [S_size, List.length_append]; rfl
            have z3 := S_size (decT x)
            clear hv hx hx' hx2
            rcases Nat.eq_zero_or_pos k with hk0 | hk0
            · have g0 : ¬ (0 : Int) < (k : Int) := by omega
              have g1 : midT X i k = midS X i k := by subst hk0; exact (midS_zero X i).symm
              rw [g1]
              rw [g1] at z0 l0 L0
              clear g1 hk0
              go_wp2_with fail
              refine (D.out wr).mono ?_
              rintro e w2 ⟨rfl, b2⟩
              go_wp2_with fail
              go_roundw
              case rel => exact ⟨k + 1, by omega, by go_num, rfl, Lib.hid (hBx.out.trans (b2.mono hBx.out.size))⟩
              case measure => simp [intOf]; omega
            · have g0 : (0 : Int) < (k : Int) := by omega
              have g1 : S (midT X i k) ++ ⟨#[32]⟩ = S (midS X i k) := midS_pos X i hk0
              clear hk0
              go_wp2_with fail
              refine (D.out wr).mono ?_
              rintro e w2 ⟨rfl, b2⟩
              go_wp2_with fail
              go_roundw
              case rel => exact ⟨k + 1, by omega, by go_num, rfl, Lib.hid (hBx.out.trans (b2.mono hBx.out.size))⟩
              case measure => simp [intOf]; omega
          · obtain rfl : k = (X i).length := by omega
            have hBw := Lib.hid (hB.out.trans (hBx.out.mono hB.out.size))
            by_cases hl0 : (X i).length = 0
            · have T3 : S (midT X i 0) ++ ⟨#[49]⟩ = S (wordsT X (i + 1)) := midT_none X i hl0
              have l0 := L0.out
              have z0 := S_size (midT X i 0)
              rw [hl0] at c1x l0
              rw [hl0]
              go_wp2_with fail
              go_roundw
              case rel => exact ⟨i + 1, by omega, by go_num, rfl, hBw⟩
              case measure => simp [intOf]; omega
            · have T3 : midT X i (X i).length = wordsT X (i + 1) := midT_last X i hl0
              rw [T3]
              go_wp2_with fail
              go_roundw
              case rel => exact ⟨i + 1, by omega, by go_num, rfl, hBw⟩
              case measure => simp [intOf]; omega
      · have e0 : (0 : Int) < (i : Int) := by omega
        have e1 : S (wordsT X i) ++ ⟨#[43]⟩ = S (midT X i 0) := by rw [INNER.out]; exact preT_pos X hi0
        have e2 : (wordsT X i).length ≤ 202000 := Z0.out
        clear hi0
        go_wp2
        clear e2 e1 sz1
        go_loopw [3, 5] (fun t c wr => ∃ k : Nat, k ≤ (X i).length ∧ c = .int .i64 k ∧ t = .string (S (midT X i k)) ∧ Hid (Below w1.heap.size w1 wr)) (fun _ c _ => (X i).length - (intOf c).toNat)
        case atStart => exact ⟨0, by omega, rfl, rfl, Lib.hid (Below.refl _ _)⟩
        case round =>
          obtain ⟨k, hk, rfl, rfl, hBx⟩ := hrel
          have c1x : wr.cell? ⟨b, off + i, none⟩ = some (.slice av (X i).length cv) := (hBx.out.cell (p := ⟨b, off + i, none⟩) hbr).trans c1
          have L0 : Hid ((midT X i k).length ≤ 202101) := Lib.hid (midT_len X m i k hm HX.out hlt hk)
          have L1 : Hid ((midS X i k).length ≤ 202102) := Lib.hid (midS_len X m i k hm HX.out hlt hk)
          by_cases hkl : k < (X i).length
          · have hkl' : (k : Int) < ((X i).length : Int) := by omega
            obtain ⟨bv, ov, rfl, hv⟩ := HV.out.resolve_left (by omega)
            obtain ⟨x, hx⟩ : ∃ x, (X i)[k]?.getD 0 = x := ⟨_, rfl⟩
            have c2x : wr.cell? ⟨bv, ov + k, none⟩ = some (.int .i64 x) := by
              have h1 := hv k hkl
              simp only [hx] at h1
              exact (hBx.out.cell (p := ⟨bv, ov + k, none⟩) (World.block_lt_of_cell? w1 _ h1)).trans h1
            have hx' : (X i).getD k 0 = x := by rw [List.getD_eq_getElem?_getD]; exact hx
            have hx2 := (HX.out i hlt).2 k hkl
            rw [hx'] at hx2
            have D := Lib.hid fun wy => dec_any x hx2.1 hx2.2 wy
            have T1 : S (midS X i k) ++ ⟨#[83, 113]⟩ = S (midS X i k ++ [83, 113]) := midS_sq X i k
            have T2 : S (midS X i k ++ [83, 113]) ++ S (decT x) = S (midT X i (k + 1)) := by rw [← hx']; exact midT_succ X i k
            have l2 : (decT x).length ≤ 2 := dec_len (by omega)
            have l0 := L0.out
            have l1 := L1.out
            have z0 := S_size (midT X i k)
            have z1 := S_size (midS X i k)
            have z2 : (S (midS X i k ++ [83, 113])).size = (midS X i k).length + 2 := by rw [S_size, List.length_append]; rfl
            have z3 := S_size (decT x)
            clear hv hx hx' hx2
            rcases Nat.eq_zero_or_pos k with hk0 | hk0
            · have g0 : ¬ (0 : Int) < (k : Int) := by omega
              have g1 : midT X i k = midS X i k := by subst hk0; exact (midS_zero X i).symm
              rw [g1]
              rw [g1] at z0 l0 L0
              clear g1 hk0
              go_wp2_with fail
              refine (D.out wr).mono ?_
              rintro e w2 ⟨rfl, b2⟩
              go_wp2_with fail
              go_roundw
              case rel => exact ⟨k + 1, by omega, by go_num, rfl, Lib.hid (hBx.out.trans (b2.mono hBx.out.size))⟩
              case measure => simp [intOf]; omega
            · have g0 : (0 : Int) < (k : Int) := by omega
              have g1 : S (midT X i k) ++ ⟨#[32]⟩ = S (midS X i k) := midS_pos X i hk0
              clear hk0
              go_wp2_with fail
              refine (D.out wr).mono ?_
              rintro e w2 ⟨rfl, b2⟩
              go_wp2_with fail
              go_roundw
              case rel => exact ⟨k + 1, by omega, by go_num, rfl, Lib.hid (hBx.out.trans (b2.mono hBx.out.size))⟩
              case measure => simp [intOf]; omega
          · obtain rfl : k = (X i).length := by omega
            have hBw := Lib.hid (hB.out.trans (hBx.out.mono hB.out.size))
            by_cases hl0 : (X i).length = 0
            · have T3 : S (midT X i 0) ++ ⟨#[49]⟩ = S (wordsT X (i + 1)) := midT_none X i hl0
              have l0 := L0.out
              have z0 := S_size (midT X i 0)
              rw [hl0] at c1x l0
              rw [hl0]
              go_wp2_with fail
              go_roundw
              case rel => exact ⟨i + 1, by omega, by go_num, rfl, hBw⟩
              case measure => simp [intOf]; omega
            · have T3 : midT X i (X i).length = wordsT X (i + 1) := midT_last X i hl0
              rw [T3]
              go_wp2_with fail
              go_roundw
              case rel => exact ⟨i + 1, by omega, by go_num, rfl, hBw⟩
              case measure => simp [intOf]; omega
    · obtain rfl : i = m := by omega
      have ne := NE.out
      go_wp2
      go_ret
      exact ⟨by rw [ES.out]; rfl, hB.out⟩
end Go.Proofs.YtkcjbgfbhkmliaaDoor
