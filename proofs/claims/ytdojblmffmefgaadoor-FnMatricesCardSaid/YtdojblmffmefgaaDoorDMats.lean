/-
  What the law FnMatrices needs of the functions.
-/
import Derived.Test.YtdojblmffmefgaaDoorDLists
import Derived.Test.YtdojblmffmefgaaDoorDTurn
import Derived.Test.YtdojblmffmefgaaDoorMMulI
import Derived.Test.YtdojblmffmefgaaDoorMTimesRow
import Derived.Test.YtdojblmffmefgaaDoorDHas
import Derived.Test.YtdojblmffmefgaaDoorPlainRanks
namespace Go.Proofs.YtdojblmffmefgaaDoor
open Go.RowKit
set_option linter.unusedVariables false
set_option maxRecDepth 100000

theorem specIsMatrix_any (c : Int) (s : Value) (n : Nat) (G : Nat → Int) (w : World) (h : RdI w s n G) :
    Calls Tryd.prog 21 #[.agg #[.int .i64 c, s]] w fun e w' => e = .returned (.bool (isMat c n G)) ∧ Below w.heap.size w w' := by
  obtain ⟨B0, BX, R⟩ := box_start (t := 26) (c := c) h
  have B0 := Lib.hid B0
  have BX := Lib.hid BX
  have I := Lib.hid (specIs_any c s n G _ R)
  obtain ⟨a, cap, rfl, hm, hc⟩ := h
  clear hc R
  have t2 := Tryd.underlying26
  have c0 := BX.out.c0
  have c1 := BX.out.c1
  go_enter Tryd.func21, Tryd.ntmps21
  go_wp2_with fail
  refine I.out.mono ?_
  rintro e w' ⟨rfl, b⟩
  have B := Lib.hid (B0.out.trans (b.mono B0.out.size))
  clear b c0 c1
  go_wp2_with fail
  go_ret
  exact ⟨rfl, B.out⟩

theorem nI_at' (L : List Nat) (i : Nat) (h : i < L.length) : (nI L)[i]?.getD 0 = ((L.getD i 0 : Nat) : Int) := by simp [nI, List.getD_eq_getElem?_getD, h]
theorem mask_in' {x k : Nat} (h : x < 2 ^ k) : maskB (x : Int) k = true := by
  have e : ((2 ^ k : Nat) : Int) = 2 ^ k := by simp
  unfold maskB
  simp only [Bool.and_eq_true, decide_eq_true_eq]
  omega
/-- A matrix of masks. -/
theorem isMat_nI {k : Nat} {L : List Nat} (hk : k ≤ 60) (hl : L.length ≤ 200) (h : ∀ x ∈ L, x < 2 ^ k) : isMat (k : Int) L.length (fun i => (nI L)[i]?.getD 0) = true := by
  refine isMat_yes ⟨k, rfl, hk, hl, fun i hi => ?_⟩
  show maskB ((nI L)[i]?.getD 0) k = true
  rw [nI_at' L i hi]
  exact mask_in' (h _ (by rw [List.getD_eq_getElem?_getD, List.getElem?_eq_getElem hi]; exact List.getElem_mem hi))
theorem rdn_nI {L : List Nat} (w : World) (s : Value) (h : RdI w s L.length (fun i => (nI L)[i]?.getD 0)) : RdN w s L := by
  unfold RdN
  exact h.congr fun i hi => nI_at' L i hi

/-- Digits as a number. -/
theorem ob_dr (r k : Nat) (hr : r < 2 ^ 60) (hk : k ≤ 60) (j : Nat) (hj : j ≤ k) : ob (dr (r : Int) k) j = ((ofBits (fun q => r.testBit q) j : Nat) : Int) := by
  induction j with
  | zero => rfl
  | succ j ih =>
    have ih := ih (by omega)
    have b := ofBits_lt (fun q => r.testBit q) j
    have p := pow_lt60 (show j < 60 by omega)
    have p2 := pow_lt60 (show j < 60 by omega)
    have e0 : (dr (r : Int) k)[j]?.getD 0 = (if r.testBit j then 1 else 0) := by
      have : (dr (r : Int) k)[j]?.getD 0 = bits .and .i64 ((r : Int) / 2 ^ j) 1 := by simp [dr, show j < k by omega]
      rw [this, digit_test r j hr (by omega)]
    have e : wrap64 ((dr (r : Int) k)[j]?.getD 0 * 2 ^ j) = (((if r.testBit j = true then 2 ^ j else 0) : Nat) : Int) := by
      rw [e0]
      split
      · rw [Int.one_mul]
        have h1 : ((2 ^ j : Nat) : Int) = 2 ^ j := by simp
        rw [← h1]
        exact IntWalk.wrap64_in _ ⟨by omega, by omega⟩
      · rw [Int.zero_mul]; exact IntWalk.wrap64_in 0 ⟨by omega, by omega⟩
    have hb : ofBits (fun q => r.testBit q) j < 2 ^ 63 := by
      have : 2 ^ j ≤ 2 ^ 60 := Nat.pow_le_pow_right (by decide) (by omega)
      omega
    rw [ob, ofBits, ih, e, i64_or _ _ hb (by split <;> omega)]
theorem ofBits_self (r k : Nat) (hr : r < 2 ^ k) : ofBits (fun q => r.testBit q) k = r := by
  apply Nat.eq_of_testBit_eq
  intro q
  rw [ofBits_bit]
  by_cases hq : q < k
  · simp [hq]
  · rw [Nat.testBit_lt_two_pow (Nat.lt_of_lt_of_le hr (Nat.pow_le_pow_right (by decide) (by omega)))]
    simp

/-- The columns of rows, as masks. -/
theorem col_nat' {R : Nat → Nat} {G : Nat → Int} (j n : Nat) (hj : j < 60) (hn : n ≤ 60) (hR : ∀ i, i < n → R i < 2 ^ 60) (hG : ∀ i, i < n → G i = ((R i : Nat) : Int)) : tcol G j n = ((ofBits (fun i => (R i).testBit j) n : Nat) : Int) := by
  induction n with
  | zero => rfl
  | succ n ih =>
    have ih := ih (by omega) (fun i hi => hR i (by omega)) (fun i hi => hG i (by omega))
    have b := ofBits_lt (fun i => (R i).testBit j) n
    have p := pow_lt60 (show n < 60 by omega)
    have e : wrap64 (bits .and .i64 (G n / 2 ^ j) 1 * 2 ^ n) = (((if (R n).testBit j = true then 2 ^ n else 0) : Nat) : Int) := by
      rw [hG n (by omega), digit_test (R n) j (hR n (by omega)) hj]
      split
      · rw [Int.one_mul]
        have h1 : ((2 ^ n : Nat) : Int) = 2 ^ n := by simp
        rw [← h1]
        exact IntWalk.wrap64_in _ ⟨by omega, by omega⟩
      · rw [Int.zero_mul]; exact IntWalk.wrap64_in 0 ⟨by omega, by omega⟩
    rw [tcol, ofBits, ih, e, i64_or _ _ (by omega) (by split <;> omega)]
/-- The transposed rows. -/
def turnL (R : List Nat) (k : Nat) : List Nat := (List.range k).map fun j => ofBits (fun i => (R.getD i 0).testBit j) R.length
theorem turnL_len (R : List Nat) (k : Nat) : (turnL R k).length = k := by simp [turnL]
theorem turnL_at (R : List Nat) (k j : Nat) (hj : j < k) : (turnL R k).getD j 0 = ofBits (fun i => (R.getD i 0).testBit j) R.length := by simp [turnL, List.getD_eq_getElem?_getD, hj]
theorem turnL_lt (R : List Nat) (k : Nat) : ∀ x ∈ turnL R k, x < 2 ^ R.length := fun x hx => by obtain ⟨j, _, rfl⟩ := List.mem_map.1 hx; exact ofBits_lt _ _
theorem turnL_back {R : List Nat} {k : Nat} (h : ∀ x ∈ R, x < 2 ^ k) : turnL (turnL R k) R.length = R := by
  apply List.ext_getElem
  · simp [turnL_len]
  · intro i h1 h2
    have e1 : (turnL (turnL R k) R.length)[i] = (turnL (turnL R k) R.length).getD i 0 := by simp [List.getD_eq_getElem?_getD, h1]
    have e2 : R[i] = R.getD i 0 := by simp [List.getD_eq_getElem?_getD, h2]
    rw [e1, e2, turnL_at _ _ _ h2, turnL_len]
    apply Nat.eq_of_testBit_eq
    intro q
    rw [ofBits_bit]
    by_cases hq : q < k
    · rw [turnL_at R k q hq, ofBits_bit]
      simp [hq, h2]
    · have hz : (R.getD i 0).testBit q = false := Nat.testBit_lt_two_pow (Nat.lt_of_lt_of_le (h _ (by rw [← e2]; exact List.getElem_mem h2)) (Nat.pow_le_pow_right (by decide) (by omega)))
      rw [hz]
      simp [hq]
theorem tcols_nI {k n : Nat} {R : List Nat} {G : Nat → Int} (hk : k ≤ 60) (hl : R.length = n) (hn : n ≤ 60) (hR : ∀ x ∈ R, x < 2 ^ 60) (hG : ∀ i, i < n → G i = ((R.getD i 0 : Nat) : Int)) : tcols G n k = nI (turnL R k) := by
  unfold tcols nI turnL
  rw [List.map_map, hl]
  apply List.map_congr_left
  intro j hj
  exact col_nat' j n (by have := List.mem_range.1 hj; omega) hn (fun i hi2 => getD_lt hR i (by omega)) hG

theorem mat_rd3 {c : Int} {n : Nat} {G : Nat → Int} (h : isMat c n G = true) : ∃ (k : Nat) (R : List Nat), c = (k : Int) ∧ k ≤ 60 ∧ n ≤ 200 ∧ R.length = n ∧ (∀ x ∈ R, x < 2 ^ 60) ∧ (∀ x ∈ R, x < 2 ^ k) ∧ (∀ (w : World) (s : Value), RdI w s n G → RdN w s R) ∧ ∀ i, i < n → G i = ((R.getD i 0 : Nat) : Int) := by
  have ho : okMat c n G := Classical.byContradiction fun h2 => by rw [isMat_no h2] at h; cases h
  obtain ⟨k, R, e, hk, hn, hl, hG, hR⟩ := mat_nat ho
  refine ⟨k, R, e, hk, hn, hl, fun x hx => Nat.lt_of_lt_of_le (hR x hx) (Nat.pow_le_pow_right (by decide) hk), hR, fun w s h => ?_, hG⟩
  unfold RdN
  rw [hl]
  exact h.congr hG

/-- A matrix, its lists, its transpose, its reduced form. -/
structure MtA (c : Int) (n : Nat) (G : Nat → Int) (m : Nat) (Y : Nat → List Int) (lcd : Int) (CT : Int) (LT : List Int) (tcd : Int) (CF : Int) (LF : List Int) (fcd : Int) : Prop where
  sL : ∀ w s, RdI w s n G → Calls Tryd.prog 18 #[.agg #[.int .i64 c, s]] w (LRes m Y lcd w)
  iL : ∀ w s, RdI w s n G → Calls Tryd.prog 17 #[.agg #[.int .i64 c, s]] w (LRes m Y lcd w)
  sT : ∀ w s, RdI w s n G → Calls Tryd.prog 35 #[.agg #[.int .i64 c, s]] w (MRes CT LT tcd w)
  iT : ∀ w s, RdI w s n G → Calls Tryd.prog 34 #[.agg #[.int .i64 c, s]] w (MRes CT LT tcd w)
  sF : ∀ w s, RdI w s n G → Calls Tryd.prog 37 #[.agg #[.int .i64 c, s]] w (MRes CF LF fcd w)
  iF : ∀ w s, RdI w s n G → T0 w → Calls Tryd.prog 36 #[.agg #[.int .i64 c, s]] w (MRes CF LF fcd w)
  lt : LT.length ≤ 200
  lf : LF.length ≤ 200
  no : lcd ≠ 0 → fcd = lcd ∧ LF = []
  yes : lcd = 0 → (∀ w V, RdSS w V m Y → Calls Tryd.prog 23 #[.int .i64 c, V] w (MRes c ((List.range n).map G) 0 w)) ∧ n ≤ 200 ∧
    (∀ i, i < n → ∀ w s, RdI w s LF.length (fun i => LF[i]?.getD 0) → T0 w → Calls Tryd.prog 38 #[.agg #[.int .i64 CF, s], .int .i64 (G i)] w (VRes (.bool true) 0 w)) ∧
    (tcd = 0 → ∀ w s, RdI w s LT.length (fun i => LT[i]?.getD 0) → Calls Tryd.prog 34 #[.agg #[.int .i64 CT, s]] w (MRes c ((List.range n).map G) 0 w))

theorem few_cases' {c : Int} {n : Nat} {G : Nat → Int} (h : fewCode c n G = 0) : n ≤ 60 := by obtain ⟨k, _, _, h6, _⟩ := few_ok h; exact h6
theorem map_nI {n : Nat} {R : List Nat} {G : Nat → Int} (hl : R.length = n) (hG : ∀ i, i < n → G i = ((R.getD i 0 : Nat) : Int)) : (List.range n).map G = nI R := by
  apply List.ext_getElem
  · simp [nI, hl]
  · intro i h1 h2
    have hi : i < n := by simpa using h1
    simp [nI, hG i hi, List.getD_eq_getElem?_getD, show i < R.length by omega]

set_option maxHeartbeats 1000000 in
theorem mta_all (c : Int) (n : Nat) (G : Nat → Int) : ∃ m Y lcd CT LT tcd CF LF fcd, MtA c n G m Y lcd CT LT tcd CF LF fcd := by
  have hlt : (toL c n G).length ≤ 200 := by
    unfold toL
    split
    · rename_i h
      obtain ⟨k, rfl, hk, _⟩ := few_ok h
      rw [tcols_length]
      show k ≤ 200
      omega
    · simp
  cases hi : isMat c n G with
  | false =>
    refine ⟨_, _, _, _, _, _, 0, [], 1, fun w s h => specListsOf_any c s n G w h, fun w s h => implListsOf_any c s n G w h, fun w s h => specTransposeOf_any c s n G w h, fun w s h => implTransposeOf_any c s n G w h, fun w s h => specRed_no c s n G w h hi, fun w s h _ => implRed_no c s n G w h hi, hlt, by simp, fun _ => ⟨?_, rfl⟩, fun h => ?_⟩
    · unfold lsC; rw [if_neg (by rw [hi]; decide)]
    · unfold lsC at h; rw [if_neg (by rw [hi]; decide)] at h; exact absurd h (by decide)
  | true =>
    obtain ⟨k, R, rfl, hk, hn, hl, hR, hRk, hN, hG⟩ := mat_rd3 hi
    have hp := (putAll_ok hR).2
    have hm := map_nI hl hG
    have hPk : ∀ x ∈ putAll [] R, x < 2 ^ k := fun x hx => ((putAll_span hR x).1 (InL.mem hx)).lt hRk
    refine ⟨_, _, _, _, _, _, k, nI (putAll [] R), 0, fun w s h => specListsOf_any k s n G w h, fun w s h => implListsOf_any k s n G w h, fun w s h => specTransposeOf_any k s n G w h, fun w s h => implTransposeOf_any k s n G w h, fun w s h => specRed_yes k s n G R w h hi hl hn hR hN, fun w s h hT => ?_, hlt, by rw [nI_length]; omega, fun h => ?_, fun _ => ⟨fun w V h => ?_, hn, fun i hi2 w s h hT => ?_, fun ht w s h => ?_⟩⟩
    · have := implRed_yes k s n G R w h hi hl hn hR hN hT
      rw [spaceL_rows hR] at this
      exact this
    · exfalso; apply h; unfold lsC; rw [if_pos hi]
    · have e1 : lsN (k : Int) n G = n := by unfold lsN; rw [if_pos hi]
      rw [e1] at h
      obtain ⟨C, L, cd, hr, _⟩ := ml_ex (k : Int) n (fun i => dr (G i) (k : Int).toNat)
      obtain ⟨a, cap, rfl⟩ := h.head
      have := implLists_in k n a cap _ C L cd w h hk hn hr
      have ok : ∀ i, i < n → okR k ((fun i => dr (G i) (k : Int).toNat) i) := fun i hi2 => by
        show okR k (dr (G i) k)
        refine ⟨dr_length _ _, fun j hj => ?_⟩
        unfold okB
        have e : (dr (G i) k)[j]?.getD 0 = bits .and .i64 (G i / 2 ^ j) 1 := by simp [dr, hj]
        rw [e, hG i hi2, digit_test _ j (getD_lt hR i (by omega)) (by omega)]
        split
        · exact .inr rfl
        · exact .inl rfl
      obtain ⟨rfl, rfl, rfl⟩ := hr.good k rfl hk hn ok
      have e2 : obs k (fun i => dr (G i) (k : Int).toNat) n = (List.range n).map G := by
        unfold obs
        apply List.map_congr_left
        intro i hi2
        have hi3 := List.mem_range.1 hi2
        show ob (dr (G i) k) k = G i
        rw [hG i hi3, ob_dr _ k (getD_lt hR i (by omega)) hk k (Nat.le_refl _), ofBits_self _ _ (hRk _ (by rw [List.getD_eq_getElem?_getD, List.getElem?_eq_getElem (by omega)]; exact List.getElem_mem _))]
      rwa [e2] at this
    · rw [hG i hi2]
      have hin : InL (putAll [] R) (R.getD i 0) := (putAll_span hR _).2 (InL.mem (by rw [List.getD_eq_getElem?_getD, List.getElem?_eq_getElem (by omega)]; exact List.getElem_mem _))
      rw [nI_length] at h
      have hP := putAll_lt hR
      have := implHas_yes k (R.getD i 0) s (putAll [] R).length (fun i => (nI (putAll [] R))[i]?.getD 0) (putAll [] R) w h (isMat_nI hk (by omega) hPk) hk rfl (by omega) hP (fun w s h => rdn_nI w s h) (mask_in' (hin.lt hPk)) (hin.lt hP) hT
      rw [(wo_in hP _).2 hin] at this
      exact this
    · have hf := few_cases' ht
      have e1 : toC (k : Int) n G = n := by unfold toC; rw [if_pos ht]
      have e2 : toL (k : Int) n G = nI (turnL R k) := by unfold toL; rw [if_pos ht, ← tcols_nI hk hl hf hR hG]; rfl
      rw [e2, nI_length, turnL_len] at h
      rw [e1]
      have hit : isMat (n : Int) k (fun i => (nI (turnL R k))[i]?.getD 0) = true := by
        have := isMat_nI (k := n) (L := turnL R k) hf (by rw [turnL_len]; omega) (fun x hx => by have := turnL_lt R k x hx; rwa [hl] at this)
        rwa [turnL_len] at this
      have this := implTransposeOf_any (n : Int) s k (fun i => (nI (turnL R k))[i]?.getD 0) w h
      have hc2 : fewCode (n : Int) k (fun i => (nI (turnL R k))[i]?.getD 0) = 0 := by unfold fewCode; rw [if_pos hit, if_pos (by omega)]
      have e3 : toC (n : Int) k (fun i => (nI (turnL R k))[i]?.getD 0) = k := by unfold toC; rw [if_pos hc2]
      have e4 : toL (n : Int) k (fun i => (nI (turnL R k))[i]?.getD 0) = (List.range n).map G := by
        unfold toL
        rw [if_pos hc2]
        show tcols _ k n = _
        rw [tcols_nI (R := turnL R k) hf (turnL_len R k) hk (fun x hx => by have := turnL_lt R k x hx; have : 2 ^ R.length ≤ 2 ^ 60 := Nat.pow_le_pow_right (by decide) (by omega); omega) (fun i hi2 => nI_at' _ i (by rw [turnL_len]; exact hi2)), hm, ← hl, turnL_back hRk]
      rwa [e3, e4, hc2] at this

theorem tmB_nat' (x i : Nat) (hx : x < 2 ^ 60) (hi : i < 60) : tmB (x : Int) i = x.testBit i := by
  unfold tmB
  rw [digit_test x i hx hi]
  cases x.testBit i <;> rfl
theorem tm_nat' {R : Nat → Nat} {G : Nat → Int} (x n : Nat) (hx : x < 2 ^ 60) (hn : n ≤ 60) (hR : ∀ i, i < n → R i < 2 ^ 60) (hG : ∀ i, i < n → G i = ((R i : Nat) : Int)) : tm (x : Int) G n = ((comb R n x : Nat) : Int) := by
  induction n with
  | zero => rfl
  | succ n ih =>
    have ih := ih (by omega) (fun i hi => hR i (by omega)) (fun i hi => hG i (by omega))
    have b := comb_bound R n x 60 (fun i hi => hR i (by omega))
    rw [tm, comb_succ, ih, tmB_nat' x n hx (by omega)]
    split
    · rw [hG n (by omega), i64_xor _ _ (by omega) (by have := hR n (by omega); omega)]
    · rw [Nat.xor_zero]
theorem times_is' {k n : Nat} {G : Nat → Int} {R : List Nat} (hi : isMat k n G = true) (hl : R.length = n) (h6 : n ≤ 60) (hR : ∀ x ∈ R, x < 2 ^ 60) (hG : ∀ i, i < n → G i = ((R.getD i 0 : Nat) : Int)) (x : Nat) (hx : x < 2 ^ n) (w : World) (s : Value) (h : RdI w s n G) :
    Calls Tryd.prog 27 #[.int .i64 (x : Int), .agg #[.int .i64 k, s]] w (VRes (.int .i64 ((comb (fun i => R.getD i 0) n x : Nat) : Int)) 0 w) := by
  have l6 : 2 ^ n ≤ 2 ^ 60 := Nat.pow_le_pow_right (by decide) h6
  have hc : trCode (x : Int) k n G = 0 := by unfold trCode; rw [if_pos hi, if_pos ⟨h6, mask_in' hx⟩]
  have := implTimesRow_any (x : Int) k s n G w h
  rw [hc] at this
  have hv : trVal (x : Int) k n G = ((comb (fun i => R.getD i 0) n x : Nat) : Int) := by
    unfold trVal
    rw [if_pos hc]
    exact tm_nat' x n (by omega) h6 (fun i hi2 => getD_lt hR i (by omega)) hG
  rwa [hv] at this

/-- Two matrices and their product. -/
structure MtM (ca : Int) (na : Nat) (Ga : Nat → Int) (cb : Int) (nb : Nat) (Gb : Nat → Int) (CP : Int) (LP : List Int) (pcd : Int) : Prop where
  sP : ∀ w sa sb, RdI w sa na Ga → RdI w sb nb Gb → Calls Tryd.prog 31 #[.agg #[.int .i64 ca, sa], .agg #[.int .i64 cb, sb]] w (MRes CP LP pcd w)
  iP : ∀ w sa sb, RdI w sa na Ga → RdI w sb nb Gb → Calls Tryd.prog 30 #[.agg #[.int .i64 ca, sa], .agg #[.int .i64 cb, sb]] w (MRes CP LP pcd w)
  lp : LP.length ≤ 200
  yes : pcd = 0 → na ≤ 60 → nb ≤ 60 → ∀ x : Nat, x < 2 ^ na → ∃ f t : Int, (∀ w s, RdI w s na Ga → Calls Tryd.prog 27 #[.int .i64 (x : Int), .agg #[.int .i64 ca, s]] w (VRes (.int .i64 f) 0 w)) ∧
    (∀ w s, RdI w s nb Gb → Calls Tryd.prog 27 #[.int .i64 f, .agg #[.int .i64 cb, s]] w (VRes (.int .i64 t) 0 w)) ∧
    (∀ w s, RdI w s LP.length (fun i => LP[i]?.getD 0) → Calls Tryd.prog 27 #[.int .i64 (x : Int), .agg #[.int .i64 CP, s]] w (VRes (.int .i64 t) 0 w))
set_option maxHeartbeats 1000000 in
theorem mtm_all (ca : Int) (na : Nat) (Ga : Nat → Int) (cb : Int) (nb : Nat) (Gb : Nat → Int) : ∃ CP LP pcd, MtM ca na Ga cb nb Gb CP LP pcd := by
  refine ⟨_, _, _, fun w sa sb h1 h2 => specMul_any ca cb sa sb na nb Ga Gb w h1 h2, fun w sa sb h1 h2 => implMul_any ca cb sa sb na nb Ga Gb w h1 h2, ?_, fun hp ha6 hb6 x hx => ?_⟩
  · unfold muL
    split
    · rename_i h
      rw [pr_length]
      unfold muCode at h
      by_cases hi : isMat ca na Ga = true
      · by_cases ho : okMat ca na Ga
        · obtain ⟨_, _, _, hn, _⟩ := ho; exact hn
        · rw [isMat_no ho] at hi; cases hi
      · rw [if_neg (fun h2 => hi h2.1)] at h; simp at h
    · simp
  · have hp0 := hp
    unfold muCode at hp
    by_cases hi : isMat ca na Ga = true ∧ isMat cb nb Gb = true
    · rw [if_pos hi] at hp
      by_cases hc : ca = nb
      · obtain ⟨hia, hib⟩ := hi
        obtain ⟨k, A, e, hk, hn, hl, hA, hAk, hN, hGa⟩ := mat_rd3 hia
        obtain ⟨k2, B, rfl, hk2, hn2, hl2, hB, hBk, hN2, hGb⟩ := mat_rd3 hib
        obtain rfl : k = nb := by omega
        subst hc
        have l6 : 2 ^ k ≤ 2 ^ 60 := Nat.pow_le_pow_right (by decide) hk
        have ln : 2 ^ na ≤ 2 ^ 60 := Nat.pow_le_pow_right (by decide) ha6
        have hf : comb (fun i => A.getD i 0) na x < 2 ^ k := comb_bound _ _ _ _ fun i hi2 => hAk _ (by rw [List.getD_eq_getElem?_getD, List.getElem?_eq_getElem (by omega)]; exact List.getElem_mem _)
        have eP : ∃ P : List Nat, P = (List.range na).map fun i => comb (fun i => B.getD i 0) k (A.getD i 0) := ⟨_, rfl⟩
        obtain ⟨P, eP⟩ := eP
        have pl : P.length = na := by rw [eP]; simp
        have pg : ∀ i, i < na → P.getD i 0 = comb (fun i => B.getD i 0) k (A.getD i 0) := fun i hi2 => by rw [eP]; simp [List.getD_eq_getElem?_getD, hi2]
        have plt : ∀ x ∈ P, x < 2 ^ k2 := fun x hx => by
          rw [eP] at hx
          obtain ⟨i, _, rfl⟩ := List.mem_map.1 hx
          exact comb_bound _ _ _ _ fun i hi2 => hBk _ (by rw [List.getD_eq_getElem?_getD, List.getElem?_eq_getElem (by omega)]; exact List.getElem_mem _)
        have eC : muC (k : Int) na Ga k2 k Gb = k2 := by unfold muC; rw [if_pos hp0]
        have eL : muL (k : Int) na Ga k2 k Gb = nI P := by
          unfold muL
          rw [if_pos hp0, eP]
          unfold pr nI
          rw [List.map_map]
          apply List.map_congr_left
          intro i hi2
          have hi3 := List.mem_range.1 hi2
          show tm (Ga i) Gb k = _
          rw [hGa i hi3]
          exact tm_nat' _ k (getD_lt hA i (by omega)) hb6 (fun i hi2 => getD_lt hB i (by omega)) hGb
        refine ⟨_, _, fun w s h => times_is' hia hl ha6 hA hGa x hx w s h, fun w s h => times_is' hib hl2 hb6 hB hGb _ hf w s h, fun w s h => ?_⟩
        rw [eC]
        rw [eL, nI_length, pl] at h
        have hip : isMat (k2 : Int) na (fun i => (nI P)[i]?.getD 0) = true := by
          have := isMat_nI (k := k2) (L := P) hk2 (by omega) plt
          rwa [pl] at this
        have := times_is' (k := k2) hip pl ha6 (fun x hx => Nat.lt_of_lt_of_le (plt x hx) (Nat.pow_le_pow_right (by decide) hk2)) (fun i hi2 => nI_at' P i (by omega)) x hx w s h
        rw [comb_comb (fun i => B.getD i 0) k (fun i => P.getD i 0) (fun i => A.getD i 0) na x (fun i hi2 => pg i hi2)] at this
        exact this
      · rw [if_neg hc] at hp; exact absurd hp (by decide)
    · rw [if_neg hi] at hp; exact absurd hp (by decide)
end Go.Proofs.YtdojblmffmefgaaDoor
