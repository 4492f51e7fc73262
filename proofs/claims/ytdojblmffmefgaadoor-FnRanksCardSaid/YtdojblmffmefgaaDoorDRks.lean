/-
  What the law FnRanks needs of the functions.
-/
import Derived.Test.YtdojblmffmefgaaDoorDSolB
import Derived.Test.YtdojblmffmefgaaDoorDInvs
import Derived.Test.YtdojblmffmefgaaDoorDHas
import Derived.Test.YtdojblmffmefgaaDoorDKerB
import Derived.Test.YtdojblmffmefgaaDoorMTimesRow
import Derived.Test.YtdojblmffmefgaaDoorDTurn
import Derived.Test.YtdojblmffmefgaaDoorMMulI
import Derived.Test.YtdojblmffmefgaaDoorPlainRanks
namespace Go.Proofs.YtdojblmffmefgaaDoor
open Go.RowKit
set_option linter.unusedVariables false
set_option maxRecDepth 100000

theorem nI_at (L : List Nat) (i : Nat) (h : i < L.length) : (nI L)[i]?.getD 0 = ((L[i] : Nat) : Int) := by simp [nI, h]

theorem tmB_nat (x i : Nat) (hx : x < 2 ^ 60) (hi : i < 60) : tmB (x : Int) i = x.testBit i := by
  unfold tmB
  rw [digit_test x i hx hi]
  cases x.testBit i <;> rfl
theorem tm_nat {R : Nat → Nat} {G : Nat → Int} (x n : Nat) (hx : x < 2 ^ 60) (hn : n ≤ 60) (hR : ∀ i, i < n → R i < 2 ^ 60) (hG : ∀ i, i < n → G i = ((R i : Nat) : Int)) : tm (x : Int) G n = ((comb R n x : Nat) : Int) := by
  induction n with
  | zero => rfl
  | succ n ih =>
    have ih := ih (by omega) (fun i hi => hR i (by omega)) (fun i hi => hG i (by omega))
    have b := comb_bound R n x 60 (fun i hi => hR i (by omega))
    rw [tm, comb_succ, ih, tmB_nat x n hx (by omega)]
    split
    · rw [hG n (by omega), i64_xor _ _ (by omega) (by have := hR n (by omega); omega)]
    · rw [Nat.xor_zero]

theorem col_nat {R : Nat → Nat} {G : Nat → Int} (j n : Nat) (hj : j < 60) (hn : n ≤ 60) (hR : ∀ i, i < n → R i < 2 ^ 60) (hG : ∀ i, i < n → G i = ((R i : Nat) : Int)) : tcol G j n = ((ofBits (fun i => (R i).testBit j) n : Nat) : Int) := by
  induction n with
  | zero => rfl
  | succ n ih =>
    have ih := ih (by omega) (fun i hi => hR i (by omega)) (fun i hi => hG i (by omega))
    have b := ofBits_lt (fun i => (R i).testBit j) n
    have p := pow_lt60 (show n < 60 by omega)
    have e : wrap64 (bits .and .i64 (G n / 2 ^ j) 1 * 2 ^ n) = (((if (R n).testBit j = true then 2 ^ n else 0) : Nat) : Int) := by
      rw [hG n (by omega), digit_test (R n) j (hR n (by omega)) hj]
      split
      · rw [Int.one_mul]; exact wrap_two n (by omega)
      · rw [Int.zero_mul]; exact IntWalk.wrap64_in 0 ⟨by omega, by omega⟩
    rw [tcol, ofBits, ih, e, i64_or _ _ (by omega) (by split <;> omega)]

/-- A matrix and its kernel. -/
structure RkA (c : Int) (n : Nat) (G : Nat → Int) (rv rcd CK : Int) (LK : List Int) (kcd : Int) : Prop where
  sR : ∀ w s, RdI w s n G → Calls Tryd.prog 41 #[.agg #[.int .i64 c, s]] w (VRes (.int .i64 rv) rcd w)
  iR : ∀ w s, RdI w s n G → T0 w → Calls Tryd.prog 40 #[.agg #[.int .i64 c, s]] w (VRes (.int .i64 rv) rcd w)
  sK : ∀ w s, RdI w s n G → Calls Tryd.prog 43 #[.agg #[.int .i64 c, s]] w (MRes CK LK kcd w)
  iK : ∀ w s, RdI w s n G → T0 w → Calls Tryd.prog 42 #[.agg #[.int .i64 c, s]] w (MRes CK LK kcd w)
  lk : LK.length ≤ 200
  no : kcd ≠ 0 → LK = []
  yes : kcd = 0 → ∃ (CT : Int) (LT : List Int) (r : Nat), rv = (r : Int) ∧ (∀ w s, RdI w s n G → Calls Tryd.prog 34 #[.agg #[.int .i64 c, s]] w (MRes CT LT 0 w)) ∧ LT.length ≤ 200 ∧
    (∀ w s, RdI w s LT.length (fun i => LT[i]?.getD 0) → T0 w → Calls Tryd.prog 40 #[.agg #[.int .i64 CT, s]] w (VRes (.int .i64 rv) 0 w)) ∧ r + LK.length = n ∧ n ≤ 60 ∧
    (∀ i, i < LK.length → ∀ w s, RdI w s n G → Calls Tryd.prog 27 #[.int .i64 (LK[i]?.getD 0), .agg #[.int .i64 c, s]] w (VRes (.int .i64 0) 0 w))

theorem mask_in {x k : Nat} (h : x < 2 ^ k) : maskB (x : Int) k = true := by
  have e : ((2 ^ k : Nat) : Int) = 2 ^ k := by simp
  unfold maskB
  simp only [Bool.and_eq_true, decide_eq_true_eq]
  omega
/-- The program's product of a mask and a matrix. -/
theorem times_is {k n : Nat} {G : Nat → Int} {R : List Nat} (hi : isMat k n G = true) (hl : R.length = n) (h6 : n ≤ 60) (hR : ∀ x ∈ R, x < 2 ^ 60) (hG : ∀ i, i < n → G i = ((R.getD i 0 : Nat) : Int)) (x : Nat) (hx : x < 2 ^ n) (w : World) (s : Value) (h : RdI w s n G) :
    Calls Tryd.prog 27 #[.int .i64 (x : Int), .agg #[.int .i64 k, s]] w (VRes (.int .i64 ((comb (fun i => R.getD i 0) n x : Nat) : Int)) 0 w) := by
  have l6 : 2 ^ n ≤ 2 ^ 60 := Nat.pow_le_pow_right (by decide) h6
  have hc : trCode (x : Int) k n G = 0 := by unfold trCode; rw [if_pos hi, if_pos ⟨h6, mask_in hx⟩]
  have := implTimesRow_any (x : Int) k s n G w h
  rw [hc] at this
  have hv : trVal (x : Int) k n G = ((comb (fun i => R.getD i 0) n x : Nat) : Int) := by
    unfold trVal
    rw [if_pos hc]
    exact tm_nat x n (by omega) h6 (fun i hi2 => getD_lt hR i (by omega)) hG
  rwa [hv] at this

theorem mat_rd2 {c : Int} {n : Nat} {G : Nat → Int} (h : isMat c n G = true) : ∃ (k : Nat) (R : List Nat), c = (k : Int) ∧ k ≤ 60 ∧ n ≤ 200 ∧ R.length = n ∧ (∀ x ∈ R, x < 2 ^ 60) ∧ (∀ x ∈ R, x < 2 ^ k) ∧ (∀ (w : World) (s : Value), RdI w s n G → RdN w s R) ∧ ∀ i, i < n → G i = ((R.getD i 0 : Nat) : Int) := by
  have ho : okMat c n G := Classical.byContradiction fun h2 => by rw [isMat_no h2] at h; cases h
  obtain ⟨k, R, e, hk, hn, hl, hG, hR⟩ := mat_nat ho
  refine ⟨k, R, e, hk, hn, hl, fun x hx => Nat.lt_of_lt_of_le (hR x hx) (Nat.pow_le_pow_right (by decide) hk), hR, fun w s h => ?_, hG⟩
  unfold RdN
  rw [hl]
  exact h.congr hG

theorem rka_all (c : Int) (n : Nat) (G : Nat → Int) : ∃ rv rcd CK LK kcd, RkA c n G rv rcd CK LK kcd := by
  cases hi : isMat c n G with
  | false =>
    have hc := few_out hi
    refine ⟨0, 1, 0, [], 1, fun w s h => specRank_no c s n G w h hi, fun w s h _ => implRank_no c s n G w h hi, fun w s h => ?_, fun w s h _ => ?_, by simp, fun _ => rfl, fun h => absurd h (by decide)⟩
    · have := specKer_no c s n G w h (by rw [hc]; decide); rwa [hc] at this
    · have := implKer_no c s n G w h (by rw [hc]; decide); rwa [hc] at this
  | true =>
    obtain ⟨k, R, rfl, hk, hn, hl, hR, hRk, hN, hG⟩ := mat_rd2 hi
    rcases few_cases hi with ⟨h6, hc⟩ | ⟨h6, hc⟩
    · have hl6 : R.length ≤ 60 := by omega
      have BB := both_runs (fun i => R.getD i 0) R.length hl6 (fun i hi => getD_lt' hR i hi) R.length (Nat.le_refl _)
      have KB : ∀ x ∈ ktr (fun i => R.getD i 0) R.length, x < 2 ^ 60 := fun x hx => Nat.lt_of_lt_of_le (BB.out x hx).1 (Nat.pow_le_pow_right (by decide) hl6)
      have l6 : 2 ^ n ≤ 2 ^ 60 := Nat.pow_le_pow_right (by decide) h6
      -- the transposed rows
      have hT : ∃ T : List Nat, T = (List.range k).map fun j => ofBits (fun i => (R.getD i 0).testBit j) n := ⟨_, rfl⟩
      obtain ⟨T, hT⟩ := hT
      have tl : T.length = k := by rw [hT]; simp
      have tg : ∀ j, j < k → T.getD j 0 = ofBits (fun i => (R.getD i 0).testBit j) n := fun j hj => by rw [hT]; simp [List.getD_eq_getElem?_getD, hj]
      have tlt : ∀ x ∈ T, x < 2 ^ n := fun x hx => by rw [hT] at hx; obtain ⟨j, _, rfl⟩ := List.mem_map.1 hx; exact ofBits_lt _ _
      have turned : Turned R T := fun j hj i hi2 => by
        rw [tg j (by omega), ofBits_bit]
        simp [show i < n by omega]
      have tcs_eq : tcols G n k = nI T := by
        rw [hT]
        unfold tcols nI
        rw [List.map_map]
        apply List.map_congr_left
        intro j hj
        exact col_nat j n (by have := List.mem_range.1 hj; omega) h6 (fun i hi2 => getD_lt hR i (by omega)) hG
      have hit : isMat (n : Int) k (fun i => (nI T)[i]?.getD 0) = true := by
        refine isMat_yes ⟨n, rfl, h6, by omega, fun i hi2 => ?_⟩
        have e : (nI T)[i]?.getD 0 = ((T.getD i 0 : Nat) : Int) := by simp [nI, List.getD_eq_getElem?_getD, tl, hi2]
        show maskB ((nI T)[i]?.getD 0) n = true
        rw [e]
        exact mask_in (tlt _ (by rw [List.getD_eq_getElem?_getD, List.getElem?_eq_getElem (by omega)]; exact List.getElem_mem (by omega)))
      have rt : rk T = rk R := rk_turn (fun x hx => by rw [tl]; exact hRk x hx) hl6 (fun x hx => by rw [hl]; exact tlt x hx) (by omega) turned
      refine ⟨((rk R : Nat) : Int), 0, n, nI (putAll [] (ktr (fun i => R.getD i 0) R.length)), 0, fun w s h => specRank_yes k s n G R w h hi hl hn hR hN, fun w s h hT => implRank_yes k s n G R w h hi hl hn hR hN hT, fun w s h => ?_, fun w s h hT => ?_, ?_, fun h => absurd rfl h, fun _ => ?_⟩
      · have := specKer_yes k s n G R w h hc hl h6 hR hN
        rw [BB.same] at this
        exact this
      · have := implKer_yes k s n G R w h hc hl h6 hR hN hT
        rw [spaceL_rows KB] at this
        exact this
      · rw [nI_length]; have := (putAll_ok KB).2; omega
      · refine ⟨n, nI T, rk R, rfl, fun w s h => ?_, by rw [nI_length]; omega, fun w s h hT => ?_, ?_, h6, fun i hi2 w s h => ?_⟩
        · have := implTransposeOf_any (k : Int) s n G w h
          have e1 : toC (k : Int) n G = n := by unfold toC; rw [if_pos hc]
          have e2 : toL (k : Int) n G = nI T := by unfold toL; rw [if_pos hc, ← tcs_eq]; rfl
          rwa [e1, e2, hc] at this
        · have h2 : RdI w s k (fun i => (nI T)[i]?.getD 0) := by rw [nI_length, tl] at h; exact h
          have := implRank_yes n s k (fun i => (nI T)[i]?.getD 0) T w h2 hit tl (by omega) (fun x hx => by have := tlt x hx; omega) (fun w s h => by
            unfold RdN
            rw [tl]
            exact h.congr fun i hi3 => by simp [nI, List.getD_eq_getElem?_getD, tl, hi3]) hT
          have e : (putAll [] T).length = rk R := rt
          rwa [e] at this
        · rw [nI_length]
          have := rk_kernel hR hl6
          unfold rk at this ⊢
          omega
        · rw [nI_length] at hi2
          have hmem : (putAll [] (ktr (fun i => R.getD i 0) R.length))[i] ∈ putAll [] (ktr (fun i => R.getD i 0) R.length) := List.getElem_mem hi2
          have e : (nI (putAll [] (ktr (fun i => R.getD i 0) R.length)))[i]?.getD 0 = (((putAll [] (ktr (fun i => R.getD i 0) R.length))[i] : Nat) : Int) := nI_at _ i hi2
          rw [e]
          generalize (putAll [] (ktr (fun i => R.getD i 0) R.length))[i] = x at *
          have hx := (ktr_span (fun i => R.getD i 0) R.length hl6 (fun i hi => getD_lt hR i hi) x).1 ((putAll_span KB x).1 (InL.mem hmem))
          rw [hl] at hx
          have := times_is hi hl h6 hR hG x hx.1 w s h
          rwa [hx.2] at this
    · refine ⟨((rk R : Nat) : Int), 0, 0, [], 2, fun w s h => specRank_yes k s n G R w h hi hl hn hR hN, fun w s h hT => implRank_yes k s n G R w h hi hl hn hR hN hT, fun w s h => ?_, fun w s h _ => ?_, by simp, fun _ => rfl, fun h => absurd h (by decide)⟩
      · have := specKer_no k s n G w h (by rw [hc]; decide); rwa [hc] at this
      · have := implKer_no k s n G w h (by rw [hc]; decide); rwa [hc] at this

theorem Solve_yes (c : Int) (n : Nat) (G : Nat → Int) (v : Int) : ∃ (r : Int) (cd : Int),
    (∀ w s, RdI w s n G → Calls Tryd.prog 46 #[.agg #[.int .i64 c, s], .int .i64 v] w (VRes (.int .i64 r) cd w)) ∧
    (∀ w s, RdI w s n G → T0 w → Calls Tryd.prog 45 #[.agg #[.int .i64 c, s], .int .i64 v] w (VRes (.int .i64 r) cd w)) ∧
    (cd = 0 → ∃ (k : Nat) (R : List Nat) (x z : Nat), c = (k : Int) ∧ v = (x : Int) ∧ isMat k n G = true ∧ k ≤ 60 ∧ R.length = n ∧ n ≤ 60 ∧ (∀ x ∈ R, x < 2 ^ 60) ∧ (∀ (w : World) (s : Value), RdI w s n G → RdN w s R) ∧ (∀ i, i < n → G i = ((R.getD i 0 : Nat) : Int)) ∧ maskB (x : Int) k = true ∧ x < 2 ^ 60 ∧ r = (z : Int) ∧ z < 2 ^ n ∧ comb (fun i => R.getD i 0) n z = x) := by
  cases hi : isMat c n G with
  | false =>
    have hc := few_out hi
    refine ⟨0, 1, fun w s h => specSol_no c v s n G w h hc, fun w s h _ => ?_, fun h => absurd h (by decide)⟩
    have := implSol_few c v s n G w h (by rw [hc]; decide)
    rwa [hc] at this
  | true =>
    obtain ⟨k, R, rfl, hk, hn, hl, hR, hRk, hN, hG0⟩ := mat_rd2 hi
    rcases few_cases hi with ⟨h6, hc⟩ | ⟨h6, hc⟩
    · cases hv : maskB v k with
      | false => exact ⟨0, 2, fun w s h => specSol_two k v s n G w h 0 false hc hk hv (.inr (.inl ⟨rfl, rfl⟩)), fun w s h _ => implSol_off k v s n G w h hc hk hv, fun h => absurd h (by decide)⟩
      | true =>
        have hb : 0 ≤ v ∧ v < 2 ^ k := by simpa [maskB] using hv
        obtain ⟨x, rfl⟩ : ∃ x : Nat, v = x := ⟨v.toNat, by omega⟩
        have hx : x < 2 ^ 60 := by
          have h1 : ((x : Nat) : Int) < ((2 ^ k : Nat) : Int) := by rw [show ((2 ^ k : Nat) : Int) = 2 ^ k from by simp]; exact hb.2
          exact Nat.lt_of_lt_of_le (by omega) (Nat.pow_le_pow_right (by decide) hk)
        have hl6 : R.length ≤ 60 := by omega
        have hG := fun i hi => getD_lt' hR i hi
        have BB := both_runs (fun i => R.getD i 0) R.length hl6 hG R.length (Nat.le_refl _)
        obtain ⟨q1, q2⟩ := solve_same (fun i => R.getD i 0) R.length x hl6 hG
        have ob : ∀ o ∈ (kruns (fun i => R.getD i 0) R.length).O, o < 2 ^ R.length ∧ comb (fun i => R.getD i 0) R.length o = 0 := fun o ho => BB.out o (by rw [← BB.same]; exact ho)
        have o60 : ∀ o ∈ (kruns (fun i => R.getD i 0) R.length).O, o < 2 ^ 60 := fun o ho => Nat.lt_of_lt_of_le (ob o ho).1 (Nat.pow_le_pow_right (by decide) hl6)
        have pb : ∀ t ∈ putAll [] (kruns (fun i => R.getD i 0) R.length).O, t < 2 ^ R.length ∧ comb (fun i => R.getD i 0) R.length t = 0 := fun t ht =>
          InL.ind (C := fun t => t < 2 ^ R.length ∧ comb (fun i => R.getD i 0) R.length t = 0) ⟨Nat.two_pow_pos _, comb_zero _ _⟩ (fun a b ha hb => ⟨Nat.xor_lt_two_pow ha.1 hb.1, by rw [comb_xor, ha.2, hb.2]; rfl⟩) ob ((putAll_span o60 t).1 (InL.mem ht))
        have tb := tops_in (C := fun t => t < 2 ^ R.length ∧ comb (fun i => R.getD i 0) R.length t = 0) (fun a b ha hb => ⟨Nat.xor_lt_two_pow ha.1 hb.1, by rw [comb_xor, ha.2, hb.2]; rfl⟩) _ pb
        have yb := (rml_at BB.ok (x, 0) ⟨hx, Nat.two_pow_pos 60⟩ _ (Nat.le_refl _)).2
        have hsv : solV (rmd (krunS (fun i => R.getD i 0) R.length) (x, 0) 60) = solV (rml (kruns (fun i => R.getD i 0) R.length).D (kruns (fun i => R.getD i 0) R.length).M (x, 0)) ∧ solC (rmd (krunS (fun i => R.getD i 0) R.length) (x, 0) 60) = solC (rml (kruns (fun i => R.getD i 0) R.length).D (kruns (fun i => R.getD i 0) R.length).M (x, 0)) := by
          unfold solV solC
          by_cases z : (rmd (krunS (fun i => R.getD i 0) R.length) (x, 0) 60).1 = 0
          · rw [if_pos z, if_pos z, if_pos (q1.2 z), if_pos (q1.2 z), (q2 z).1]
            exact ⟨rfl, rfl⟩
          · rw [if_neg z, if_neg z, if_neg (fun h => z (q1.1 h)), if_neg (fun h => z (q1.1 h))]
            exact ⟨rfl, rfl⟩
        refine ⟨_, _, fun w s h => specSol_yes k x n s G R w h hc hk hl h6 hR hN hv hx _ rfl yb (fun z t ht => ?_) (putAll_lt o60) (putAll_ok o60).2, fun w s h hT => ?_, fun hz => ?_⟩
        · have z2 := q1.1 z
          obtain ⟨e1, e2, e3, e4⟩ := q2 z2
          have := least_free (fun i => R.getD i 0) R.length _ t e3 (tb t ht).2 (tb t ht).1.1 (tb t ht).1.2
          rw [e1]
          exact this
        · have := implSol_yes k x n s G R w h hc hk hl h6 hR hN hv hx hT _ rfl
          rw [hsv.1, hsv.2] at this
          exact this
        · have z : (rml (kruns (fun i => R.getD i 0) R.length).D (kruns (fun i => R.getD i 0) R.length).M (x, 0)).1 = 0 := by
            apply Decidable.byContradiction
            intro hne
            unfold solC at hz
            rw [if_neg hne] at hz
            exact absurd hz (by decide)
          have z2 := q1.1 z
          obtain ⟨e1, e2, e3, e4⟩ := q2 z2
          refine ⟨k, R, x, (rmd (krunS (fun i => R.getD i 0) R.length) (x, 0) 60).2, rfl, rfl, hi, hk, hl, h6, hR, hN, hG0, hv, hx, ?_, by rw [← hl]; exact e2, by rw [← hl]; exact e4⟩
          unfold solV
          rw [if_pos z, e1]
    · refine ⟨0, 2, fun w s h => ?_, fun w s h _ => ?_, fun h => absurd h (by decide)⟩
      · cases hv : maskB v k with
        | true => exact specSol_two k v s n G w h 2 true hc hk hv (.inl ⟨rfl, rfl⟩)
        | false => exact specSol_two k v s n G w h 2 false hc hk hv (.inr (.inr ⟨rfl, rfl⟩))
      · have := implSol_few k v s n G w h (by rw [hc]; decide)
        rwa [hc] at this

/-- A matrix and a mask. -/
structure RkB (c : Int) (n : Nat) (G : Nat → Int) (v r cd : Int) (b : Bool) (hcd : Int) : Prop where
  sS : ∀ w s, RdI w s n G → Calls Tryd.prog 46 #[.agg #[.int .i64 c, s], .int .i64 v] w (VRes (.int .i64 r) cd w)
  iS : ∀ w s, RdI w s n G → T0 w → Calls Tryd.prog 45 #[.agg #[.int .i64 c, s], .int .i64 v] w (VRes (.int .i64 r) cd w)
  sH : ∀ w s, RdI w s n G → Calls Tryd.prog 47 #[.agg #[.int .i64 c, s], .int .i64 v] w (VRes (.bool b) hcd w)
  iH : ∀ w s, RdI w s n G → T0 w → Calls Tryd.prog 38 #[.agg #[.int .i64 c, s], .int .i64 v] w (VRes (.bool b) hcd w)
  yes : cd = 0 → b = true ∧ ∀ w s, RdI w s n G → Calls Tryd.prog 27 #[.int .i64 r, .agg #[.int .i64 c, s]] w (VRes (.int .i64 v) 0 w)
theorem rkb_all (c : Int) (n : Nat) (G : Nat → Int) (v : Int) : ∃ r cd b hcd, RkB c n G v r cd b hcd := by
  obtain ⟨r, cd, h1, h2, h3⟩ := Solve_yes c n G v
  by_cases hcd : cd = 0
  · obtain ⟨k, R, x, z, rfl, rfl, hi, hk, hl, h6, hR, hN, hG, hv, hx, rfl, hz, he⟩ := h3 hcd
    have hin : InL R x := ⟨z, by rw [hl]; exact he.symm⟩
    refine ⟨_, cd, true, 0, h1, h2, fun w s h => ?_, fun w s h hT => ?_, fun _ => ⟨rfl, fun w s h => ?_⟩⟩
    · have := specHas_yes k x s n G R w h hi hk hl (by omega) hR hN hv hx
      rwa [(wo_in hR x).2 hin] at this
    · have := implHas_yes k x s n G R w h hi hk hl (by omega) hR hN hv hx hT
      rwa [(wo_in hR x).2 hin] at this
    · have := times_is hi hl h6 hR hG z hz w s h
      rwa [he] at this
  · obtain ⟨b, hc2, h4, h5⟩ := HasMask_both c n G v
    exact ⟨r, cd, b, hc2, h1, h2, h4, h5, fun h => absurd h hcd⟩

/-- A square matrix and its inverse. -/
structure RkC (c : Int) (n : Nat) (G : Nat → Int) (CI : Int) (LI : List Int) (icd : Int) : Prop where
  sI : ∀ w s, RdI w s n G → Calls Tryd.prog 50 #[.agg #[.int .i64 c, s]] w (MRes CI LI icd w)
  iI : ∀ w s, RdI w s n G → T0 w → Calls Tryd.prog 49 #[.agg #[.int .i64 c, s]] w (MRes CI LI icd w)
  li : LI.length ≤ 200
  yes : icd = 0 → n ≤ 60 ∧ (∀ w sx sm, RdI w sx LI.length (fun i => LI[i]?.getD 0) → RdI w sm n G → Calls Tryd.prog 30 #[.agg #[.int .i64 CI, sx], .agg #[.int .i64 c, sm]] w (MRes n (nI ((List.range n).map fun i => 2 ^ i)) 0 w)) ∧
    (∀ w sx sm, RdI w sx LI.length (fun i => LI[i]?.getD 0) → RdI w sm n G → Calls Tryd.prog 30 #[.agg #[.int .i64 c, sm], .agg #[.int .i64 CI, sx]] w (MRes n (nI ((List.range n).map fun i => 2 ^ i)) 0 w))
theorem mul_is {n : Nat} {Ga Gb : Nat → Int} (ha : isMat (n : Int) n Ga = true) (hb : isMat (n : Int) n Gb = true) (h : ∀ i, i < n → tm (Ga i) Gb n = ((2 ^ i : Nat) : Int)) (w : World) (sa sb : Value) (h1 : RdI w sa n Ga) (h2 : RdI w sb n Gb) :
    Calls Tryd.prog 30 #[.agg #[.int .i64 n, sa], .agg #[.int .i64 n, sb]] w (MRes n (nI ((List.range n).map fun i => 2 ^ i)) 0 w) := by
  have hc : muCode (n : Int) n Ga n n Gb = 0 := by unfold muCode; rw [if_pos ⟨ha, hb⟩, if_pos rfl]
  have := implMul_any (n : Int) n sa sb n n Ga Gb w h1 h2
  have e1 : muC (n : Int) n Ga n n Gb = n := by unfold muC; rw [if_pos hc]
  have e2 : muL (n : Int) n Ga n n Gb = nI ((List.range n).map fun i => 2 ^ i) := by
    unfold muL
    rw [if_pos hc]
    unfold pr nI
    rw [List.map_map]
    apply List.map_congr_left
    intro i hi
    exact h i (List.mem_range.1 hi)
  rwa [e1, e2, hc] at this
theorem rkc_all (c : Int) (n : Nat) (G : Nat → Int) : ∃ CI LI icd, RkC c n G CI LI icd := by
  cases hi : isMat c n G with
  | false => exact ⟨0, [], 1, fun w s h => specInv_no c s n G w h hi, fun w s h _ => implInv_no c s n G w h hi, by simp, fun h => absurd h (by decide)⟩
  | true =>
    by_cases hcn : c = (n : Int)
    · subst hcn
      obtain ⟨k, R, e, hk, hn, hl, hR, hRk, hN, hG⟩ := mat_rd2 hi
      obtain rfl : n = k := by omega
      have hn6 : n ≤ 60 := hk
      obtain ⟨C, L, cd, hres, hlen⟩ := inv_ex (sol R) n hn6
      refine ⟨C, L, cd, fun w s h => specInv_in n s G R w h hi hl hn6 hR hN C L cd hres, fun w s h hT => implInv_in n s G R w h hi hl hn6 hR hN hT C L cd ?_, hlen, fun hz => ?_⟩
      · subst hl
        exact Inv.both hn6 hR hres
      · have hl6 : R.length ≤ 60 := by omega
        have all : ∀ i, i < n → (sol R i).1 = 0 := by
          intro i hi2
          apply Decidable.byContradiction
          intro h0
          have := (hres.bad ⟨i, hi2, h0⟩).2.2
          rw [hz] at this
          exact absurd this (by decide)
        obtain ⟨rfl, rfl, _⟩ := hres.good all
        have X : ∀ i, i < R.length → (sol R i).2 < 2 ^ R.length ∧ comb (fun i => R.getD i 0) R.length (sol R i).2 = 2 ^ i := fun i hi2 => by
          obtain ⟨q1, q2⟩ := solve_same (fun i => R.getD i 0) R.length (2 ^ i) hl6 (fun i hi => getD_lt' hR i hi)
          obtain ⟨e1, e2, _, e4⟩ := q2 (q1.1 (all i (by omega)))
          have e1' : (sol R i).2 = _ := e1
          rw [e1']
          exact ⟨e2, e4⟩
        have l6 : 2 ^ n ≤ 2 ^ 60 := Nat.pow_le_pow_right (by decide) hn6
        have vl : (nI (invs (sol R) n)).length = n := by rw [nI_length, invs_length]
        have vg : ∀ i, i < n → (nI (invs (sol R) n))[i]?.getD 0 = (((sol R i).2 : Nat) : Int) := fun i hi2 => by
          rw [nI_at _ i (by rw [invs_length]; exact hi2)]
          simp [invs]
        have hv : isMat (n : Int) n (fun i => (nI (invs (sol R) n))[i]?.getD 0) = true := by
          refine isMat_yes ⟨n, rfl, hn6, by omega, fun i hi2 => ?_⟩
          show maskB ((nI (invs (sol R) n))[i]?.getD 0) n = true
          rw [vg i hi2]
          exact mask_in (by have := (X i (by omega)).1; rwa [hl] at this)
        have hRn : ∀ x ∈ R, x < 2 ^ R.length := fun x hx => by rw [hl]; exact hRk x hx
        refine ⟨hn6, fun w sx sm h1 h2 => ?_, fun w sx sm h1 h2 => ?_⟩
        · refine mul_is hv hi (fun i hi2 => ?_) w sx sm (by rwa [vl] at h1) h2
          have b := (X i (by omega))
          rw [hl] at b
          show tm ((nI (invs (sol R) n))[i]?.getD 0) G n = _
          rw [vg i hi2, tm_nat _ n (by omega) hn6 (fun i hi3 => getD_lt hR i (by omega)) hG, b.2]
        · refine mul_is hi hv (fun i hi2 => ?_) w sm sx h2 (by rwa [vl] at h1)
          have b := inv_other hRn hl6 (fun i hi3 => (X i hi3).1) (fun i hi3 => (X i hi3).2) i (by omega)
          rw [hl] at b
          rw [hG i hi2, tm_nat (R := fun i => (sol R i).2) _ n (getD_lt hR i (by omega)) hn6 (fun i hi3 => by have := (X i (by omega)).1; rw [hl] at this; omega) (fun i hi3 => vg i hi3), b]
    · exact ⟨0, [], 2, fun w s h => specInv_off c s n G w h hi hcn, fun w s h _ => implInv_off c s n G w h hi hcn, by simp, fun h => absurd h (by decide)⟩
end Go.Proofs.YtdojblmffmefgaaDoor
