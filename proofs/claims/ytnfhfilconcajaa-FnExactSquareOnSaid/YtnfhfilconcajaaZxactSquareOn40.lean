/-
  Joined: YSqU, YSqQ.
-/
import Derived.Test.YtnfhfilconcajaaZxactSquareOn39
import Derived.Test.YtnfhfilconcajaaZxactSquareOn23
import Derived.Test.YtnfhfilconcajaaZxactSquareOn38
section
namespace Go.Proofs.Ytnfhfilconcajaa
open Go.RowKit
set_option linter.unusedVariables false
set_option maxRecDepth 100000

/-- The lists of Sq^i of some terms. -/
def sqAll (L : List (List Int)) (i : Nat) : List (List Int) := L.flatMap fun x => sqL x i
theorem sqAll_snoc (L : List (List Int)) (x : List Int) (i : Nat) : sqAll (L ++ [x]) i = sqAll L i ++ sqL x i := by simp [sqAll]
theorem sqL_len4 (r : List Int) (i : Nat) (hr : r.length ≤ 4) (hi : i ≤ 40) : (sqL r i).length ≤ 2825761 :=
  Nat.le_trans (sqL_len r i hi) (Nat.le_trans (Nat.pow_le_pow_right (by decide) hr) (Nat.le_of_eq (by rfl)))
theorem sqAll_len (i : Nat) (hi : i ≤ 40) : ∀ L : List (List Int), (∀ x ∈ L, x.length ≤ 4) → (sqAll L i).length ≤ L.length * 2825761
  | [], _ => by simp [sqAll]
  | x :: L, h => by
    have e : sqAll (x :: L) i = sqL x i ++ sqAll L i := by simp [sqAll]
    have h1 := sqL_len4 x i (h x List.mem_cons_self) hi
    have h2 := sqAll_len i hi L fun y hy => h y (List.mem_cons_of_mem _ hy)
    rw [e, List.length_append, List.length_cons]
    omega
theorem sqAll_row {L : List (List Int)} {i : Nat} {z : List Int} (h : ∀ x ∈ L, x.length ≤ 4) (hz : z ∈ sqAll L i) : z.length ≤ 100 := by
  obtain ⟨x, hx, hz⟩ := List.mem_flatMap.1 hz
  have h1 := sqL_row x i z hz
  have h2 := h x hx
  omega

set_option maxHeartbeats 2000000 in
theorem l08Square_any (V : Value) (m : Nat) (VS : Nat → Value) (B : Nat) (X : Nat → List Int) (i : Nat) (w : World) (h : Fam w B V m VS X) (hX : ∀ k, k < m → (X k).length ≤ 4 ∧ ∀ z ∈ X k, 0 ≤ z ∧ z ≤ 1000) (hi : i ≤ 40) (hm : m ≤ 2000) :
    Calls Try.prog 66 #[V, .int .i64 (i : Int)] w (LPostY (oddY (sqAll (rowsL X m) i)) w) := by
  obtain ⟨a, cap, rfl, hsm, hc⟩ := h.head
  have HC := Lib.hid hc
  have HR : Hid (∀ k, k < m → RdN w (VS k) (X k)) := Lib.hid (fun k hk => RdN.of_own (h.inn k hk))
  have HX := Lib.hid hX
  have RL : Hid (∀ k, k ≤ m → ∀ x ∈ rowsL X k, x.length ≤ 4) := Lib.hid (fun k hk x hx => by
    obtain ⟨j, hj, rfl⟩ := mem_rowsL hx
    exact (hX j (by omega)).1)
  have CAL : Hid (∀ k, k < m → ∀ wr, Below w.heap.size w wr → Calls Try.prog 92 #[VS k, .int .i64 0, .int .i64 (i : Int)] wr (LPostY (oddY (sqL (X k) i)) wr)) := Lib.hid (fun k hk wr hb => by
    have := l08Monomial_any (X k) (hX k hk).2 [] i (VS k) wr (by rw [List.nil_append]; exact (hX k hk).1) hi (by rw [List.nil_append]; exact (HR.out k hk).below hb)
    rw [show (sqL (X k) i).map (([] : List Int) ++ ·) = sqL (X k) i by simp] at this
    exact this)
  have I0 : Hid (TiY w (.slice (some ⟨w.heap.size, 0, none⟩) 0 0) (fun _ => undef) (sqAll (rowsL X 0) i) (w.alloc (.cells #[] 53))) := Lib.hid ⟨(Below.refl _ _).alloc (Nat.le_refl _) _, ⟨World.ownsRow_made w #[] 0 (Nat.le_refl _) (Nat.zero_le _) (by simp), fun i hi => absurd hi (Nat.not_lt_zero _)⟩, fun i j hi => absurd hi (Nat.not_lt_zero _)⟩
  clear h hc hX hsm
  go_enter Try.func66, Try.ntmps66
  go_wp2_with fail
  go_loopw [5, 6] (fun S c wr => ∃ (k : Nat) (US : Nat → Value), k ≤ m ∧ c = .int .i64 k ∧ Hid (TiY w S US (sqAll (rowsL X k) i) wr)) (fun _ c _ => m - (intOf c).toNat)
  case atStart => exact ⟨0, _, by omega, rfl, I0⟩
  case round =>
    clear I0
    obtain ⟨k, US, hk, rfl, hI⟩ := hrel
    by_cases hlt : k < m
    · have hlt' : (k : Int) < (m : Int) := by omega
      obtain ⟨b, rfl, hc'⟩ := HC.out.resolve_left (by omega)
      have cb := (hI.out.bel.cell (p := ⟨b, k, none⟩) (World.block_lt_of_cell? w _ (hc' k hlt))).trans (hc' k hlt)
      have CA := Lib.hid (CAL.out k hlt wr hI.out.bel)
      have NX : Hid (sqAll (rowsL X (k + 1)) i = sqAll (rowsL X k) i ++ sqL (X k) i) := Lib.hid (by rw [rowsL_succ, sqAll_snoc])
      have L1 : Hid ((sqAll (rowsL X k) i).length ≤ 100000000000) := Lib.hid (by
        have := sqAll_len i hi (rowsL X k) (RL.out k (by omega))
        rw [rowsL_len] at this
        have h2 : k * 2825761 ≤ 2000 * 2825761 := Nat.mul_le_mul_right _ (by omega)
        have h3 : 2000 * 2825761 ≤ 100000000000 := by decide
        omega)
      have L2 : Hid ((sqL (X k) i).length ≤ 100000000000) := Lib.hid (by have := sqL_len4 (X k) i (HX.out k hlt).1 hi; omega)
      have R1 : Hid (∀ z ∈ sqAll (rowsL X k) i, z.length ≤ 100) := Lib.hid (fun z hz => sqAll_row (RL.out k (by omega)) hz)
      have R2 : Hid (∀ z ∈ sqL (X k) i, z.length ≤ 100) := Lib.hid (fun z hz => by have := sqL_row _ _ z hz; have := (HX.out k hlt).1; omega)
      generalize sqAll (rowsL X k) i = Z at *
      generalize sqL (X k) i = P at *
      generalize VS k = va at *
      clear hc'
      go_wp2_with fail
      refine CA.out.mono ?_
      rintro e w5 ⟨V5, US5, rfl, F5, S5, b5⟩
      have B5 := Lib.hid (hI.out.bel.step1 b5)
      have SM := Lib.hid (sum_famsY (w := w5) (hI.out.fam.below b5) F5 L1.out L2.out R1.out R2.out)
      rw [← NX.out] at SM
      clear F5 S5 b5 CA cb
      go_wp2_with fail
      refine SM.out.mono ?_
      rintro e w6 h6
      obtain ⟨V6, US6, rfl, t6⟩ := h6.ti B5.out
      have I9 := Lib.hid t6
      clear h6 t6 hI
      go_wp2_with fail
      go_roundw
      case rel => exact ⟨k + 1, _, by omega, by go_num, I9⟩
      case measure => simp [intOf]; omega
    · obtain rfl : k = m := by omega
      have F9 := Lib.hid hI.out.fam
      have S9 := Lib.hid hI.out.sep
      have B9 := Lib.hid hI.out.bel
      clear hI
      go_wp2_with fail
      go_ret
      exact ⟨_, _, rfl, F9.out, S9.out, B9.out⟩
end Go.Proofs.Ytnfhfilconcajaa
end
section
namespace Go.Proofs.Ytnfhfilconcajaa
open Go.RowKit Go.Maps
set_option linter.unusedVariables false
set_option maxRecDepth 100000

set_option maxHeartbeats 4000000 in
theorem squareY_any (va : Value) (xs : List (List Int)) (d i : Nat) (w : World) (ha : RdY w va (xs.map pwK)) (hx : ∀ x ∈ xs, Mono4 d x) (hdi : d + i ≤ 40) (hl : xs.length ≤ 100000) :
    Calls Try.prog 67 #[va, .int .i64 (i : Int)] w (MonsRes (oddY (sqAll xs i)) w) := by
  obtain ⟨aa, ca, rfl, hma, hca⟩ := ha
  rw [List.length_map] at hma hca
  rw [List.length_map]
  have HCA := Lib.hid hca
  have HX := Lib.hid hx
  have HPQ := Lib.hid hdi
  have ADD : Hid (∀ x, Mono4 d x → ∀ (g : Nat) (T : List (List Int)) (wx : World), SumT wx g (d + i) T → Calls Try.prog 93 #[.pointer (some ⟨g, 0, none⟩), .agg (pwK x), .int .i64 0, .int .i64 (i : Int)] wx (AddsT g (d + i) (T ++ sqL x i) wx)) := Lib.hid (fun x h4 g T wx hs => by
    have hn : ∀ z ∈ x, 0 ≤ z := by
      obtain ⟨a, b, c, f, rfl, _⟩ := h4
      intro z hz
      simp at hz
      rcases hz with h | h | h | h <;> omega
    have := addSquare_any g (d + i) hdi x hn [] i d T wx (by rw [List.nil_append]; exact h4) rfl hs
    rw [show (sqL x i).map (([] : List Int) ++ ·) = sqL x i by simp, List.nil_append] at this
    exact this)
  obtain ⟨w1, hw1⟩ : ∃ w1, w1 = w.alloc (.cells Try.zeroCells96 96) := ⟨_, rfl⟩
  have J0 : Hid (TmJ w (d + i) (sqAll (xs.take 0) i) w1) := Lib.hid (by rw [hw1]; exact ⟨(Below.refl _ w).alloc (Nat.le_refl _) _, SumT.new w _⟩)
  clear hca hx hdi
  go_enter Try.func67, Try.ntmps67
  go_wp2_with fail
  rw [← hw1]
  clear hw1
  go_loopw [7, 10] (fun _ c wr => ∃ k : Nat, k ≤ xs.length ∧ c = .int .i64 k ∧ Hid (TmJ w (d + i) (sqAll (xs.take k) i) wr)) (fun _ c _ => xs.length - (intOf c).toNat)
  case atStart => exact ⟨0, by omega, rfl, J0⟩
  case round =>
    clear J0
    obtain ⟨k, hi2, rfl, hJ⟩ := hrel
    by_cases hlt : k < xs.length
    · have hlt' : (k : Int) < (xs.length : Int) := by omega
      obtain ⟨b, off, rfl, hbl, hrg⟩ := HCA.out.resolve_left (by omega)
      obtain ⟨x, hx⟩ : ∃ x, x = xs[k] := ⟨_, rfl⟩
      have hxm : x ∈ xs := by rw [hx]; exact List.getElem_mem hlt
      have hrk := hrg k hlt
      rw [List.getElem?_map, List.getElem?_eq_getElem hlt, ← hx] at hrk
      have hrk2 : w.rangeAt b (off + k * 4) (pwK x).toList := hrk
      have HRW : Hid (wr.rangeAt b (off + k * 4) (pwK x).toList) := Lib.hid fun q u hq => (hJ.out.bel.cell (p := ⟨b, off + k * 4 + q, none⟩) hbl).trans (hrk2 q u hq)
      have OKX := Lib.hid (HX.out x hxm)
      have SX : Hid ((pwK x).size = 4) := Lib.hid (by rw [pwK_size, OKX.out.len])
      have ONX : Hid ((pwK x).all (·.oneCell') = true) := Lib.hid (pwK_one x)
      have NX : Hid ((wr.alloc (.cells (pwK x) 98)).rangeAt wr.heap.size 0 (pwK x).toList) := Lib.hid (PwAt.new wr x).range
      have TK : Hid (sqAll (xs.take (k + 1)) i = sqAll (xs.take k) i ++ sqL x i) := Lib.hid (by rw [← sqAll_snoc, hx, List.take_add_one, List.getElem?_eq_getElem hlt]; rfl)
      have B1 : Hid (Below wr.heap.size wr (wr.alloc (.cells (pwK x) 98))) := Lib.hid ((Below.refl _ _).alloc (Nat.le_refl _) _)
      generalize sqAll (xs.take k) i = Z at *
      have AD := Lib.hid (ADD.out x OKX.out w.heap.size Z (wr.alloc (.cells (pwK x) 98)) (hJ.out.sum.up B1.out))
      clear hrg hrk hrk2 hxm hx
      go_wp2_with (first | (refine ldKY rfl _ rfl b (off + k * 4) rfl (pwK x) HRW.out SX.out ?_) | (refine stKY wr rfl _ _ rfl rfl (pwK x) rfl SX.out ONX.out ?_) | (refine ldKY rfl _ rfl wr.heap.size 0 rfl (pwK x) NX.out SX.out ?_))
      refine AD.out.mono ?_
      rintro e w4 ⟨rfl, hs, hg⟩
      have I9 : Hid (TmJ w (d + i) (sqAll (xs.take (k + 1)) i) w4) := Lib.hid (by rw [TK.out]; exact ⟨(hJ.out.bel.step1 B1.out).grown hg (hJ.out.bel.step1 B1.out).size (fun q hq => by cases hq; exact Nat.le_refl _), hs⟩)
      clear hs hg hJ AD HRW NX
      go_wp2_with fail
      go_roundw
      case rel => exact ⟨k + 1, by omega, by go_num, I9⟩
      case measure => simp [intOf]; omega
    · obtain rfl : k = xs.length := by omega
      rw [List.take_length] at hJ
      have MO := Lib.hid (monsT_any _ _ _ wr hJ.out.sum HPQ.out)
      go_wp2_with fail
      refine MO.out.mono ?_
      rintro e w9 ⟨u, rfl, o9, b9⟩
      have O9 := Lib.hid (own_base o9 hJ.out.bel.size)
      have B9 := Lib.hid (hJ.out.bel.step1 b9)
      clear o9 b9 MO
      go_wp2_with fail
      go_ret
      exact ⟨u, rfl, O9.out, B9.out⟩
end Go.Proofs.Ytnfhfilconcajaa
end
