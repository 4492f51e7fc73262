/-
  Masks as the program's integers.
-/
import Derived.Test.YtdojblmffmefgaaDoorMFew
import Derived.Test.YtdojblmffmefgaaDoorMAppend
import Derived.Test.YtdojblmffmefgaaDoorPlainMat
namespace Go.Proofs.YtdojblmffmefgaaDoor
open Go.RowKit
set_option linter.unusedVariables false
set_option maxRecDepth 100000

theorem ofNat64 (a : Nat) (h : a < 2 ^ 64) : (BitVec.ofInt 64 (a : Int)).toNat = a := by
  rw [BitVec.ofInt_natCast, BitVec.toNat_ofNat]; exact Nat.mod_eq_of_lt h

theorem i64_xor (a b : Nat) (ha : a < 2 ^ 63) (hb : b < 2 ^ 63) : bits .xor .i64 (a : Int) (b : Int) = ((a ^^^ b : Nat) : Int) := by
  have hx : a ^^^ b < 2 ^ 63 := Nat.xor_lt_two_pow ha hb
  show IntKind.i64.wrap ((BitVec.ofInt 64 (a : Int) ^^^ BitVec.ofInt 64 (b : Int)).toNat : Int) = _
  rw [BitVec.toNat_xor, ofNat64 a (by omega), ofNat64 b (by omega)]
  exact i64_keep _ (by omega) (by omega)

/-- x & -x. -/
theorem low_form (x : Nat) (h0 : x ≠ 0) (h : x < 2 ^ 60) : bits .and .i64 (x : Int) (wrap64 (-(x : Int))) = ((2 ^ tz x : Nat) : Int) := by
  have hw : wrap64 (-(x : Int)) = -(x : Int) := IntWalk.wrap64_in _ ⟨by omega, by omega⟩
  rw [hw]
  obtain ⟨hl, hk⟩ := Lib.lowest_bit 64 x h0 (by omega)
  have hx : x &&& (2 ^ 64 - x) ≤ x := Nat.and_le_left
  show IntKind.i64.wrap ((BitVec.ofInt 64 (x : Int) &&& BitVec.ofInt 64 (-(x : Int))).toNat : Int) = _
  have e2 : (BitVec.ofInt 64 (-(x : Int))).toNat = 2 ^ 64 - x := by
    rw [BitVec.toNat_ofInt]
    omega
  rw [BitVec.toNat_and, ofNat64 x (by omega), e2]
  have e3 : x &&& (2 ^ 64 - x) = 2 ^ tz x := hl
  rw [e3] at hx ⊢
  exact i64_keep _ (by omega) (by omega)

theorem tz_lt60 (x : Nat) (h0 : x ≠ 0) (h : x < 2 ^ 60) : tz x < 60 := bit_lt h (tz_spec x h0 (Nat.lt_trans h (by decide))).1

theorem pow_le60 {k : Nat} (h : k < 60) : 2 ^ k < 2 ^ 60 := Nat.pow_lt_pow_right (by decide) h

theorem and_pow (x k : Nat) : x &&& 2 ^ k = if x.testBit k = true then 2 ^ k else 0 := by
  apply Nat.eq_of_testBit_eq
  intro i
  rw [Nat.testBit_and, Nat.testBit_two_pow]
  by_cases e : k = i
  · subst e
    cases hb : x.testBit k
    · simp
    · simp
  · cases hb : x.testBit k
    · simp [e]
    · simp [e]

/-- A digit tested by 'and'. -/
theorem bit_test (x k : Nat) (h : x < 2 ^ 60) (hk : k < 60) : (bits .and .i64 (x : Int) ((2 ^ k : Nat) : Int) != 0) = x.testBit k := by
  have hp := pow_le60 hk
  rw [i64_and x (2 ^ k) (by omega) (by omega), and_pow]
  cases hb : x.testBit k with
  | true =>
    have := Nat.two_pow_pos k
    rw [if_pos rfl, bne_iff_ne]
    omega
  | false => simp

/-- A digit tested by a shift. -/
theorem digit_test (x k : Nat) (h : x < 2 ^ 60) (hk : k < 60) : bits .and .i64 ((x : Int) / 2 ^ k) 1 = if x.testBit k then 1 else 0 := by
  have e : ((x : Int) / 2 ^ k) = ((x / 2 ^ k : Nat) : Int) := by rw [Int.natCast_ediv]; simp
  have hle : x / 2 ^ k ≤ x := Nat.div_le_self _ _
  rw [e, show (1 : Int) = ((1 : Nat) : Int) from rfl, i64_and (x / 2 ^ k) 1 (by omega) (by decide), Nat.and_one_is_mod, Nat.testBit_eq_decide_div_mod_eq]
  by_cases hb : x / 2 ^ k % 2 = 1
  · rw [hb]; simp
  · have : x / 2 ^ k % 2 = 0 := by omega
    rw [this]; simp

/-- Masks as integers. -/
def nI (L : List Nat) : List Int := L.map fun (x : Nat) => (x : Int)
theorem nI_length (L : List Nat) : (nI L).length = L.length := by simp [nI]
theorem nI_app (L M : List Nat) : nI (L ++ M) = nI L ++ nI M := by simp [nI]
/-- v reads as the masks R. -/
def RdN (w : World) (v : Value) (R : List Nat) : Prop := RdI w v R.length (fun i => ((R.getD i 0 : Nat) : Int))
theorem RdN.below {w w' : World} {v : Value} {R : List Nat} (h : RdN w v R) (k : Below w.heap.size w w') : RdN w' v R := RdI.below h k
theorem rdn_of_own {w : World} {B : Nat} {v : Value} {R : List Nat} (h : w.ownsRow B 2 1 v R.length ((nI R).map (Value.int .i64))) : RdN w v R := by
  have := rd_of_own (n := R.length) h (nI_length R).symm
  refine this.congr fun i hi => ?_
  simp [nI, List.getD_eq_getElem?_getD, hi]

/-- Rows that are masks and not 0. -/
def okRows (L : List Nat) : Prop := ∀ i, i < L.length → L.getD i 0 ≠ 0 ∧ L.getD i 0 < 2 ^ 60

theorem l02Low_any (x : Nat) (w : World) (h0 : x ≠ 0) (h : x < 2 ^ 60) :
    Calls Tryd.prog 114 #[.int .i64 x] w fun e w' => e = .returned (.int .i64 ((2 ^ tz x : Nat) : Int)) ∧ w = w' := by
  have L := Lib.hid (low_form x h0 h)
  clear h0 h
  go_enter Tryd.func114, Tryd.ntmps114
  go_wp2
  go_ret
  exact ⟨by rw [← L.out]; rfl, rfl⟩

theorem wo_take (L : List Nat) (x j : Nat) (hj : j < L.length) : wo (L.take (j + 1)) x = if (wo (L.take j) x).testBit (tz (L.getD j 0)) = true then wo (L.take j) x ^^^ L.getD j 0 else wo (L.take j) x := by
  have e : L.take (j + 1) = L.take j ++ [L.getD j 0] := by
    rw [List.take_add_one, List.getD_eq_getElem?_getD, List.getElem?_eq_getElem hj]; rfl
  rw [e, wo_append]
  rfl

theorem wo_lt (L : List Nat) (x : Nat) (hx : x < 2 ^ 60) (hL : okRows L) (j : Nat) (hj : j ≤ L.length) : wo (L.take j) x < 2 ^ 60 := by
  induction j with
  | zero => simpa [wo] using hx
  | succ j ih =>
    rw [wo_take L x j (by omega)]
    split
    · exact Nat.xor_lt_two_pow (ih (by omega)) (hL j (by omega)).2
    · exact ih (by omega)

theorem l02Without_any (s : Value) (R : List Nat) (x : Nat) (w : World) (h : RdN w s R) (hx : x < 2 ^ 60) (hR : okRows R) :
    Calls Tryd.prog 99 #[s, .int .i64 x] w fun e w' => e = .returned (.int .i64 ((wo R x : Nat) : Int)) ∧ w = w' := by
  obtain ⟨a, cap, rfl, hm, hc⟩ := h
  have HC := Lib.hid hc
  have HX := Lib.hid hx
  have HR := Lib.hid hR
  unfold maxLen at hm
  generalize hn : R.length = n at *
  have HN := Lib.hid hn
  clear hc hn hx hR
  go_enter Tryd.func99, Tryd.ntmps99
  go_wp2
  go_loop [1, 5] (fun t i => ∃ j : Nat, j ≤ n ∧ i = .int .i64 j ∧ t = .int .i64 ((wo (R.take j) x : Nat) : Int)) (fun _ i => n - (intOf i).toNat)
  case atStart => exact ⟨0, by omega, rfl, rfl⟩
  case round =>
    obtain ⟨j, hj, rfl, rfl⟩ := hrel
    by_cases hlt : j < n
    · have hlt' : (j : Int) < (n : Int) := by omega
      obtain ⟨b, off, rfl, hc⟩ := HC.out.resolve_left (by omega)
      have c1 := hc j hlt
      clear hc
      have HT := Lib.hid (wo_take R x j (by rw [HN.out]; exact hlt))
      have hr := HR.out j (by rw [HN.out]; exact hlt)
      have hxl := wo_lt R x HX.out HR.out j (by rw [HN.out]; omega)
      have BT := Lib.hid (bit_test (wo (R.take j) x) (tz (R.getD j 0)) hxl (tz_lt60 _ hr.1 hr.2))
      have LW := Lib.hid (fun w => l02Low_any (R.getD j 0) w hr.1 hr.2)
      have XR := Lib.hid (i64_xor (wo (R.take j) x) (R.getD j 0) (by omega) (by omega))
      clear hr hxl
      generalize wo (R.take j) x = y at *
      generalize R.getD j 0 = r at *
      cases hb : y.testBit (tz r) with
      | true =>
        have hb2 : (bits .and .i64 (y : Int) ((2 ^ tz r : Nat) : Int) != 0) = true := by rw [BT.out]; exact hb
        have E : Hid (wo (R.take (j + 1)) x = y ^^^ r) := Lib.hid (by rw [HT.out, if_pos hb])
        clear hb
        generalize ((2 ^ tz r : Nat) : Int) = p at *
        go_wp2_with (go_at_call 114; refine (LW.out _).mono ?_; rintro e w' ⟨rfl, rfl⟩)
        go_round
        case rel => exact ⟨j + 1, by omega, by go_num, by rw [E.out, ← XR.out]⟩
        case measure => simp [intOf]; omega
      | false =>
        have hb2 : (bits .and .i64 (y : Int) ((2 ^ tz r : Nat) : Int) != 0) = false := by rw [BT.out]; exact hb
        have E : Hid (wo (R.take (j + 1)) x = y) := Lib.hid (by rw [HT.out, if_neg (by rw [hb]; simp)])
        clear hb
        generalize ((2 ^ tz r : Nat) : Int) = p at *
        go_wp2_with (go_at_call 114; refine (LW.out _).mono ?_; rintro e w' ⟨rfl, rfl⟩)
        go_round
        case rel => exact ⟨j + 1, by omega, by go_num, by rw [E.out]⟩
        case measure => simp [intOf]; omega
    · obtain rfl : j = n := by omega
      have E : Hid (R.take j = R) := Lib.hid (List.take_of_length_le (by rw [HN.out]; exact Nat.le_refl _))
      go_wp2
      go_ret
      exact ⟨by rw [E.out]; rfl, rfl⟩
end Go.Proofs.YtdojblmffmefgaaDoor
