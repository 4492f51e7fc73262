/-
  What the law FnSpaces needs of the functions.
-/
import Derived.Test.YtdojblmffmefgaaDoorDCompl
import Derived.Test.YtdojblmffmefgaaDoorDMeetB
import Derived.Test.YtdojblmffmefgaaDoorDHas
import Derived.Test.YtdojblmffmefgaaDoorPlainRank
namespace Go.Proofs.YtdojblmffmefgaaDoor
open Go.RowKit
set_option linter.unusedVariables false
set_option maxRecDepth 100000

structure Spc (ca : Int) (na : Nat) (Ga : Nat → Int) (cb : Int) (nb : Nat) (Gb : Nat → Int) (CS : Int) (LS : List Int) (CM : Int) (LM LC : List Int) (cd : Int) : Prop where
  sS : ∀ w sa sb, RdI w sa na Ga → RdI w sb nb Gb → Calls Tryd.prog 53 #[.agg #[.int .i64 ca, sa], .agg #[.int .i64 cb, sb]] w (MRes CS LS cd w)
  iS : ∀ w sa sb, RdI w sa na Ga → RdI w sb nb Gb → T0 w → Calls Tryd.prog 52 #[.agg #[.int .i64 ca, sa], .agg #[.int .i64 cb, sb]] w (MRes CS LS cd w)
  sM : ∀ w sa sb, RdI w sa na Ga → RdI w sb nb Gb → Calls Tryd.prog 55 #[.agg #[.int .i64 ca, sa], .agg #[.int .i64 cb, sb]] w (MRes CM LM cd w)
  iM : ∀ w sa sb, RdI w sa na Ga → RdI w sb nb Gb → T0 w → Calls Tryd.prog 54 #[.agg #[.int .i64 ca, sa], .agg #[.int .i64 cb, sb]] w (MRes CM LM cd w)
  sC : ∀ w sa sb, RdI w sa na Ga → RdI w sb nb Gb → Calls Tryd.prog 57 #[.agg #[.int .i64 ca, sa], .agg #[.int .i64 cb, sb]] w (IRes LC cd w)
  iC : ∀ w sa sb, RdI w sa na Ga → RdI w sb nb Gb → T0 w → Calls Tryd.prog 56 #[.agg #[.int .i64 ca, sa], .agg #[.int .i64 cb, sb]] w (IRes LC cd w)
  ls : LS.length ≤ 200
  lm : LM.length ≤ 200
  lc : LC.length ≤ 200
  yes : cd = 0 → ∃ x y : Nat, (∀ w s, RdI w s na Ga → T0 w → Calls Tryd.prog 40 #[.agg #[.int .i64 ca, s]] w (VRes (.int .i64 (x : Int)) 0 w)) ∧
    (∀ w s, RdI w s nb Gb → T0 w → Calls Tryd.prog 40 #[.agg #[.int .i64 cb, s]] w (VRes (.int .i64 (y : Int)) 0 w)) ∧ x + y = LS.length + LM.length ∧ x + LC.length = LS.length ∧
    (∀ i, i < LM.length → ∀ w s, RdI w s na Ga → T0 w → Calls Tryd.prog 38 #[.agg #[.int .i64 ca, s], .int .i64 (LM[i]?.getD 0)] w (VRes (.bool true) 0 w)) ∧
    (∀ i, i < LM.length → ∀ w s, RdI w s nb Gb → T0 w → Calls Tryd.prog 38 #[.agg #[.int .i64 cb, s], .int .i64 (LM[i]?.getD 0)] w (VRes (.bool true) 0 w))

theorem has_row {k n : Nat} {G : Nat → Int} {R : List Nat} (hi : isMat k n G = true) (hk : k ≤ 60) (hl : R.length = n) (hn : n ≤ 200) (hR : ∀ x ∈ R, x < 2 ^ 60) (hRk : ∀ x ∈ R, x < 2 ^ k) (hN : ∀ (w : World) (s : Value), RdI w s n G → RdN w s R)
    {x : Nat} (hx : InL R x) (w : World) (s : Value) (h : RdI w s n G) (hT : T0 w) : Calls Tryd.prog 38 #[.agg #[.int .i64 k, s], .int .i64 (x : Int)] w (VRes (.bool true) 0 w) := by
  have hv : maskB x k = true := by
    have := hx.lt hRk
    have e : ((2 ^ k : Nat) : Int) = 2 ^ k := by simp
    unfold maskB
    simp only [Bool.and_eq_true, decide_eq_true_eq]
    omega
  have := implHas_yes k x s n G R w h hi hk hl hn hR hN hv (hx.lt hR) hT
  rw [(wo_in hR x).2 hx] at this
  exact this

theorem spc_all (ca : Int) (na : Nat) (Ga : Nat → Int) (cb : Int) (nb : Nat) (Gb : Nat → Int) : ∃ CS LS CM LM LC cd, Spc ca na Ga cb nb Gb CS LS CM LM LC cd := by
  by_cases hc : smCode ca na Ga cb nb Gb = 0
  · obtain ⟨ha, hb, rfl⟩ := sm_zero hc
    obtain ⟨k, A, rfl, hk, hn, hl, hA, hAk, hN⟩ := mat_rd ha
    obtain ⟨k2, B, e2, hk2, hn2, hl2, hB, hBk, hN2⟩ := mat_rd hb
    obtain rfl : k = k2 := by omega
    refine ⟨k, nI (putAll (putAll [] A) B), k, nI (putAll [] (mspec A B)), nI (cidx (cT A B) nb), 0,
      fun w sa sb h1 h2 => specSum_yes k sa sb na nb Ga Gb A B w h1 h2 hc hl hn hA hN hl2 hn2 hB hN2, fun w sa sb h1 h2 hT => ?_,
      fun w sa sb h1 h2 => specMeet_yes k sa sb na nb Ga Gb A B w h1 h2 hc hl hn hA hN hl2 hn2 hB hN2, fun w sa sb h1 h2 hT => ?_,
      fun w sa sb h1 h2 => specCompl_yes k sa sb na nb Ga Gb A B w h1 h2 hc hl hn hA hN hl2 hn2 hB hN2, fun w sa sb h1 h2 hT => ?_, ?_, ?_, ?_, fun _ => ?_⟩
    · have := implSum_yes k sa sb na nb Ga Gb A B w h1 h2 hc hl hn hA hN hl2 hn2 hB hN2 hT
      rw [rowsK_two hA hB] at this
      exact this
    · have := implMeet_yes k sa sb na nb Ga Gb A B w h1 h2 hc hl hn hA hN hl2 hn2 hB hN2 hT
      rw [spaceL_rows (mimpl_ok hA hB).1, ← meet_same hA hB] at this
      exact this
    · have := implCompl_yes k sa sb na nb Ga Gb A B w h1 h2 hc hl hn hA hN hl2 hn2 hB hN2 hT
      rw [cidx_congr nb (fun i hi => lft_wo hA hB i (by omega))] at this
      exact this
    · rw [nI_length]; have := (putAll_ok2 hA hB).2; omega
    · rw [nI_length]; have := (putAll_ok (mspec_ok hA hB).1).2; omega
    · rw [nI_length]; have := cidx_len (cT A B) nb; omega
    · have row : ∀ i, i < (nI (putAll [] (mspec A B))).length → ∃ x : Nat, (nI (putAll [] (mspec A B)))[i]?.getD 0 = (x : Int) ∧ InL A x ∧ InL B x := by
        intro i hi
        rw [nI_length] at hi
        refine ⟨(putAll [] (mspec A B))[i], ?_, meet_in hA hB (List.getElem_mem hi)⟩
        simp [nI, hi]
      refine ⟨rk A, rk B, fun w s h hT => implRank_yes k s na Ga A w h ha hl hn hA hN hT, fun w s h hT => implRank_yes k s nb Gb B w h hb hl2 hn2 hB hN2 hT, ?_, ?_, fun i hi w s h hT => ?_, fun i hi w s h hT => ?_⟩
      · rw [nI_length, nI_length]; exact (rk_meet_sum hA hB).symm
      · rw [nI_length, nI_length, rk_compl_all A B, hl2]; rfl
      · obtain ⟨x, e, h1, _⟩ := row i hi
        rw [e]
        exact has_row ha hk hl hn hA hAk hN h1 w s h hT
      · obtain ⟨x, e, _, h2⟩ := row i hi
        rw [e]
        exact has_row hb hk hl2 hn2 hB hBk hN2 h2 w s h hT
  · exact ⟨0, [], 0, [], [], _, fun w sa sb h1 h2 => specSum_no ca cb sa sb na nb Ga Gb w h1 h2 hc, fun w sa sb h1 h2 _ => implSum_no ca cb sa sb na nb Ga Gb w h1 h2 hc,
      fun w sa sb h1 h2 => specMeet_no ca cb sa sb na nb Ga Gb w h1 h2 hc, fun w sa sb h1 h2 _ => implMeet_no ca cb sa sb na nb Ga Gb w h1 h2 hc,
      fun w sa sb h1 h2 => specCompl_no ca cb sa sb na nb Ga Gb w h1 h2 hc, fun w sa sb h1 h2 _ => implCompl_no ca cb sa sb na nb Ga Gb w h1 h2 hc, by simp, by simp, by simp, fun h => absurd h hc⟩
end Go.Proofs.YtdojblmffmefgaaDoor
