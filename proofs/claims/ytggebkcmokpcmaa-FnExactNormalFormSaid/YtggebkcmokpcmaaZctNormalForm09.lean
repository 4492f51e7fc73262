/-
  Joined: HDim, HKamJ.
-/
import Derived.Test.YtggebkcmokpcmaaZctNormalForm08
import Derived.Test.YtggebkcmokpcmaaZBHit42
import Derived.Test.YtggebkcmokpcmaaZBHit02
section
namespace Go.Proofs.Ytggebkcmokpcmaa
open Go.RowKit Go.Proofs.Ytggebkcmokpcmaa.Pl
set_option linter.unusedVariables false
set_option maxRecDepth 100000

theorem hc_zero {a b : Int} (h : hcOf a b = 0) : ∃ f d : Nat, f < 4 ∧ d ≤ 40 ∧ a = ((f + 1 : Nat) : Int) ∧ b = (d : Int) ∧ cn f d ≤ 100 ∧ hmOf a b = ms f d [] := by
  have h0 := h
  unfold hcOf at h
  by_cases hm : moIn a b
  · obtain ⟨⟨h1, h2⟩, h3, h4⟩ := id hm
    rw [if_pos hm] at h
    obtain ⟨f, rfl⟩ : ∃ f : Nat, a = ((f + 1 : Nat) : Int) := ⟨a.toNat - 1, by omega⟩
    obtain ⟨d, rfl⟩ : ∃ d : Nat, b = (d : Int) := ⟨b.toNat, by omega⟩
    have e1 : (((f + 1 : Nat) : Int)).toNat - 1 = f := by omega
    have e2 : ((d : Int)).toNat = d := by omega
    rw [e1, e2] at h
    by_cases hc : cn f d ≤ 100
    · exact ⟨f, d, by omega, by omega, rfl, rfl, hc, by unfold hmOf; rw [if_pos h0, e1, e2]⟩
    · rw [if_neg hc] at h; exact absurd h (by decide)
  · rw [if_neg hm] at h; exact absurd h (by decide)
/-- Dimension of the hits. -/
def hitDOf (a b : Int) : Int := if hcOf a b = 0 then ((hitR (a.toNat - 1) b.toNat).length : Int) else 0
def cohOf (a b : Int) : Int := if hcOf a b = 0 then ((cn (a.toNat - 1) b.toNat : Int) - ((hitR (a.toNat - 1) b.toNat).length : Int)) else 0
theorem FamR.lenS {w : World} {V : Value} {zs : RwZ} {R : List (List (List Int))} (h : FamR w V zs) (e : rzR zs = R) : ∃ a cap, V = .slice a R.length cap := by
  obtain ⟨a, cap, e2⟩ := own_slc h.out
  exact ⟨a, cap, by rw [e2, ← e, rzR_len]⟩
theorem FamY.lenS {w : World} {B : Nat} {V : Value} {zs : RwZ} {R : List (List (List Int))} (h : FamY w B V zs) (e : rzR zs = padR R) : ∃ a cap, V = .slice a R.length cap := by
  obtain ⟨a, cap, e2⟩ := own_slc h.out
  have : zs.length = R.length := by rw [← rzR_len, e]; unfold padR; rw [List.length_map]
  exact ⟨a, cap, by rw [e2, this]⟩

set_option maxHeartbeats 1000000 in
theorem specHitD (a b : Int) (w : World) : Calls Try.prog 12 #[.int .i64 a, .int .i64 b] w (SaysV (.tuple #[.int .i64 (hitDOf a b), .int .i64 (hcOf a b)]) w) := by
  have CD := Lib.hid (l09Code_any a b w)
  by_cases hc : hcOf a b = 0
  · obtain ⟨f, d, hf, hd, ea, eb, hcn, _⟩ := hc_zero hc
    have RW := Lib.hid (fun w => l09Rows_any f d a hf (by omega) hd hcn w)
    have HD : Hid (hitDOf a b = ((hitR f d).length : Int)) := Lib.hid (by unfold hitDOf; rw [if_pos hc, ea, eb]; simp)
    rw [hc] at CD
    rw [HD.out, hc]
    subst eb
    have hl : (hitR f d).length ≤ 1000 := by
      have := (hitTo_ok hf hd hcn 6).2
      unfold hitR; omega
    clear hc hcn ea hf hd HD
    generalize hitR f d = R at *
    go_enter Try.func12, Try.ntmps12
    go_wp2_with fail
    refine CD.out.mono ?_
    rintro e w1 ⟨rfl, rfl⟩
    clear CD
    go_wp2_with fail
    refine (RW.out _).mono ?_
    rintro e w1 ⟨V, zs, rfl, hF, hE, hB⟩
    obtain ⟨va, vc, rfl⟩ := hF.lenS hE
    have B1 := Lib.hid hB
    clear hF hE hB RW
    go_wp2_with fail
    go_ret2
    exact ⟨rfl, B1.out⟩
  · have HD : Hid (hitDOf a b = 0) := Lib.hid (by unfold hitDOf; rw [if_neg hc])
    rw [HD.out]
    generalize hcOf a b = c at *
    clear HD
    go_enter Try.func12, Try.ntmps12
    go_wp2_with fail
    refine CD.out.mono ?_
    rintro e w1 ⟨rfl, rfl⟩
    clear CD
    go_wp2_with fail
    go_ret2
    exact ⟨rfl, Below.refl _ _⟩

set_option maxHeartbeats 1000000 in
theorem implHitD (a b : Int) (w : World) : Calls Try.prog 13 #[.int .i64 a, .int .i64 b] w (SaysV (.tuple #[.int .i64 (hitDOf a b), .int .i64 (hcOf a b)]) w) := by
  have CD := Lib.hid (hitMonomials_any a b w)
  unfold HmPost at CD
  by_cases hc : hcOf a b = 0
  · obtain ⟨f, d, hf, hd, ea, eb, hcn, _⟩ := hc_zero hc
    have RW := Lib.hid (fun w => hitSpaceOf_any f d a hf (by omega) hd hcn w)
    have HD : Hid (hitDOf a b = ((hitR f d).length : Int)) := Lib.hid (by unfold hitDOf; rw [if_pos hc, ea, eb]; simp)
    rw [hc] at CD
    rw [HD.out, hc]
    generalize hmOf a b = L at *
    subst eb
    have hl : (hitR f d).length ≤ 1000 := by
      have := (hitTo_ok hf hd hcn 6).2
      unfold hitR; omega
    clear hc hcn ea hf hd HD
    generalize hitR f d = R at *
    go_enter Try.func13, Try.ntmps13
    go_wp2_with fail
    refine CD.out.mono ?_
    rintro e w1 ⟨u, rfl, ho, hb⟩
    have B0 := Lib.hid hb
    clear CD ho hb
    go_wp2_with fail
    refine (RW.out _).mono ?_
    rintro e w2 ⟨V, zs, rfl, hF, hE, hB⟩
    obtain ⟨va, vc, rfl⟩ := hF.lenS hE
    have B1 := Lib.hid (B0.out.step1 hB)
    clear hF hE hB RW
    go_wp2_with fail
    go_ret2
    exact ⟨rfl, B1.out⟩
  · have HD : Hid (hitDOf a b = 0) := Lib.hid (by unfold hitDOf; rw [if_neg hc])
    rw [HD.out]
    generalize hcOf a b = c at *
    generalize hmOf a b = L at *
    clear HD
    go_enter Try.func13, Try.ntmps13
    go_wp2_with fail
    refine CD.out.mono ?_
    rintro e w1 ⟨u, rfl, ho, hb⟩
    have B0 := Lib.hid hb
    clear CD ho hb
    go_wp2_with fail
    go_ret2
    exact ⟨rfl, B0.out⟩
theorem HitDimension_both (a : Int) (wa : (Lit.int .i64 a).wf = true) (b : Int) (wb : (Lit.int .i64 b).wf = true) : ∃ x c : Int,
    (∀ w, Calls Try.prog 12 #[.int .i64 a, .int .i64 b] w (SaysV (.tuple #[.int .i64 x, .int .i64 c]) w)) ∧
    (∀ w, Calls Try.prog 13 #[.int .i64 a, .int .i64 b] w (SaysV (.tuple #[.int .i64 x, .int .i64 c]) w)) :=
  ⟨_, _, fun w => specHitD a b w, fun w => implHitD a b w⟩

set_option maxHeartbeats 1000000 in
theorem specCohitD (a b : Int) (w : World) : Calls Try.prog 14 #[.int .i64 a, .int .i64 b] w (SaysV (.tuple #[.int .i64 (cohOf a b), .int .i64 (hcOf a b)]) w) := by
  have CD := Lib.hid (l09Code_any a b w)
  by_cases hc : hcOf a b = 0
  · obtain ⟨f, d, hf, hd, ea, eb, hcn, _⟩ := hc_zero hc
    have RW := Lib.hid (fun w => l09Rows_any f d a hf (by omega) hd hcn w)
    have CNT := Lib.hid (fun w => l09Count_any f d hf hd w)
    rw [← ea] at CNT
    have HD : Hid (cohOf a b = ((cn f d : Int) - ((hitR f d).length : Int))) := Lib.hid (by unfold cohOf; rw [if_pos hc, ea, eb]; simp)
    rw [hc] at CD
    rw [HD.out, hc]
    subst eb
    have hl : (hitR f d).length ≤ 1000 := by
      have := (hitTo_ok hf hd hcn 6).2
      unfold hitR; omega
    clear hc ea hf hd HD
    generalize hitR f d = R at *
    generalize cn f d = c at *
    have hw1 : wrap64 ((c : Int) - (R.length : Int)) = (c : Int) - (R.length : Int) := wrap_sm (by omega) (by omega)
    go_enter Try.func14, Try.ntmps14
    go_wp2_with fail
    refine CD.out.mono ?_
    rintro e w1 ⟨rfl, rfl⟩
    clear CD
    go_wp2_with fail
    refine (CNT.out _).mono ?_
    rintro e w1 ⟨rfl, rfl⟩
    clear CNT
    go_wp2_with fail
    refine (RW.out _).mono ?_
    rintro e w1 ⟨V, zs, rfl, hF, hE, hB⟩
    obtain ⟨va, vc, rfl⟩ := hF.lenS hE
    have B1 := Lib.hid hB
    clear hF hE hB RW
    go_wp2_with fail
    go_ret2
    exact ⟨rfl, B1.out⟩
  · have HD : Hid (cohOf a b = 0) := Lib.hid (by unfold cohOf; rw [if_neg hc])
    rw [HD.out]
    generalize hcOf a b = c at *
    clear HD
    go_enter Try.func14, Try.ntmps14
    go_wp2_with fail
    refine CD.out.mono ?_
    rintro e w1 ⟨rfl, rfl⟩
    clear CD
    go_wp2_with fail
    go_ret2
    exact ⟨rfl, Below.refl _ _⟩

set_option maxHeartbeats 1000000 in
theorem implCohitD (a b : Int) (w : World) : Calls Try.prog 15 #[.int .i64 a, .int .i64 b] w (SaysV (.tuple #[.int .i64 (cohOf a b), .int .i64 (hcOf a b)]) w) := by
  have CD := Lib.hid (hitMonomials_any a b w)
  unfold HmPost at CD
  by_cases hc : hcOf a b = 0
  · obtain ⟨f, d, hf, hd, ea, eb, hcn, em⟩ := hc_zero hc
    have RW := Lib.hid (fun w => hitSpaceOf_any f d a hf (by omega) hd hcn w)
    have HD : Hid (cohOf a b = ((cn f d : Int) - ((hitR f d).length : Int))) := Lib.hid (by unfold cohOf; rw [if_pos hc, ea, eb]; simp)
    rw [hc, em] at CD
    rw [HD.out, hc]
    subst eb
    have hl : (hitR f d).length ≤ 1000 := by
      have := (hitTo_ok hf hd hcn 6).2
      unfold hitR; omega
    have ML : Hid ((ms f d []).length = cn f d) := Lib.hid (ms_cn f d [])
    clear hc ea hf hd HD em
    generalize hitR f d = R at *
    generalize cn f d = c at *
    generalize ms f d [] = L at *
    have hw1 : wrap64 ((c : Int) - (R.length : Int)) = (c : Int) - (R.length : Int) := wrap_sm (by omega) (by omega)
    have hw2 : IntKind.i64.wrap ((c : Int) - (R.length : Int)) = (c : Int) - (R.length : Int) := by rw [IntKind.wrap_i64]; omega
    go_enter Try.func15, Try.ntmps15
    go_wp2_with fail
    refine CD.out.mono ?_
    rintro e w1 ⟨u, rfl, ho, hb⟩
    obtain ⟨ua, uc, rfl⟩ := own_slc ho
    rw [List.length_map, List.length_map, ML.out] at *
    have B0 := Lib.hid hb
    clear CD ho hb
    go_wp2_with fail
    refine (RW.out _).mono ?_
    rintro e w2 ⟨V, zs, rfl, hF, hE, hB⟩
    obtain ⟨va, vc, rfl⟩ := hF.lenS hE
    have B1 := Lib.hid (B0.out.step1 hB)
    clear hF hE hB RW
    go_wp2_with fail
    go_ret2
    exact ⟨rfl, B1.out⟩
  · have HD : Hid (cohOf a b = 0) := Lib.hid (by unfold cohOf; rw [if_neg hc])
    rw [HD.out]
    generalize hcOf a b = c at *
    generalize hmOf a b = L at *
    clear HD
    go_enter Try.func15, Try.ntmps15
    go_wp2_with fail
    refine CD.out.mono ?_
    rintro e w1 ⟨u, rfl, ho, hb⟩
    have B0 := Lib.hid hb
    clear CD ho hb
    go_wp2_with fail
    go_ret2
    exact ⟨rfl, B0.out⟩
theorem CohitDimension_both (a : Int) (wa : (Lit.int .i64 a).wf = true) (b : Int) (wb : (Lit.int .i64 b).wf = true) : ∃ x c : Int,
    (∀ w, Calls Try.prog 14 #[.int .i64 a, .int .i64 b] w (SaysV (.tuple #[.int .i64 x, .int .i64 c]) w)) ∧
    (∀ w, Calls Try.prog 15 #[.int .i64 a, .int .i64 b] w (SaysV (.tuple #[.int .i64 x, .int .i64 c]) w)) :=
  ⟨_, _, fun w => specCohitD a b w, fun w => implCohitD a b w⟩
end Go.Proofs.Ytggebkcmokpcmaa
end
section
namespace Go.Proofs.Ytggebkcmokpcmaa.Pl
open Go.RowKit
set_option linter.unusedVariables false
set_option maxRecDepth 100000

def upG (xs : List Int) (j : Nat) : Int := upE (xs[j]?.getD 0)
theorem upG_all (xs : List Int) : cpy (upG xs) xs.length xs.length = upL xs := cpy_of upE xs

set_option maxHeartbeats 4000000 in
theorem implKamUp_ok (x : Int) (k0 : Int) (a0 : Option Addr) (m q0 : Nat) (X : Nat → List Int) (w : World) (hx : 0 ≤ x ∧ x ≤ 40) (hk : 1 ≤ k0 ∧ k0 ≤ 4) (hov : 2 * x + k0 ≤ 40) (hm : m ≤ 2000) (h : RdSS w (.slice a0 m q0) m X) (hX : ∀ i, i < m → (X i).length ≤ 4 ∧ ∀ z ∈ X i, 0 ≤ z ∧ z ≤ 40)
    (IS : Hid (∀ wx, Below w.heap.size w wx → Calls Try.prog 57 #[.agg #[.int .i64 k0, .slice a0 m q0]] wx (SaysB true wx))) (DX : Hid (DegPM w k0 a0 m q0 x)) :
    Calls Try.prog 41 #[.agg #[.int .i64 k0, .slice a0 m q0]] w (ResY k0 ((rowsL X m).map upL) 0 w) := by
  have hw1' : wrap64 (2 * x) = 2 * x := wrap_sm (by omega) (by omega)
  have hw2' : wrap64 (2 * x + k0) = 2 * x + k0 := wrap_sm (by omega) (by omega)
  have hw3' : IntKind.i64.wrap (2 * x) = 2 * x := by rw [IntKind.wrap_i64]; omega
  have hw4' : IntKind.i64.wrap (2 * x + k0) = 2 * x + k0 := by rw [IntKind.wrap_i64]; omega
  have hov2 : decide (40 < 2 * x + k0) = false := decide_eq_false (by omega)
  have hov3 : ¬ 40 < 2 * x + k0 := by omega
  clear hx hk hov
  have t2 := Try.underlying31
  obtain ⟨i0, hi0, hz0, hz1, hz2⟩ := info_parts Try.info2
  obtain ⟨i1, hj1, hy0, hy1, hy2⟩ := info_parts Try.infoS
  have HX := Lib.hid hX
  obtain ⟨_, hsm, VS, hc, hr⟩ := h
  have HC := Lib.hid hc
  have HR := Lib.hid hr
  obtain ⟨w1, hw1⟩ : ∃ w1, w1 = ((w.alloc (.cells #[.int .i64 k0, .slice a0 m q0] 31)).alloc (.cells #[.int .i64 0, .slice none 0 0] 31)) := ⟨_, rfl⟩
  have S1 : Hid (Bx2Q w k0 (.slice a0 m q0) w1) := Lib.hid (by rw [hw1]; exact Bx2Q.start _ _ _)
  clear hX hc hr hsm
  have d0 := S1.out.boxA.c0
  have d1 := S1.out.boxA.c1
  go_enter Try.func41, Try.ntmps41
  go_upto_region 1 with fail
  rw [← hw1]
  clear hw1
  go_wp2_with fail
  refine (IS.out w1 S1.out.bel).mono ?_
  rintro e w2 ⟨rfl, b2⟩
  have S2 := Lib.hid (S1.out.up b2)
  clear b2 S1 d0 d1
  have KEEP : Hid (∀ wx, Below w2.heap.size w2 wx → (wx.cell? ⟨w.heap.size, 0, none⟩ = some (.int .i64 k0) ∧ wx.cell? ⟨w.heap.size, 1, none⟩ = some (.slice a0 m q0) ∧ Below w2.heap.size w2 wx)) :=
    Lib.hid (fun wx hb => ⟨(S2.out.boxA.up hb).c0, (S2.out.boxA.up hb).c1, hb⟩)
  have D2 : Hid (∀ wx, Below w2.heap.size w2 wx → Calls Try.prog 58 #[.agg #[.int .i64 k0, .slice a0 m q0]] wx fun e w' => e = .returned (.int .i64 x) ∧ Below wx.heap.size wx w') := Lib.hid (fun wx hb => DX.out wx (S2.out.bel.step1 hb))
  go_wp2_with fail
  go_region_held3 (fun wx => wx.cell? ⟨w.heap.size, 0, none⟩ = some (.int .i64 k0) ∧ wx.cell? ⟨w.heap.size, 1, none⟩ = some (.slice a0 m q0) ∧ Below w2.heap.size w2 wx)
    (first | exact KEEP.out _ (Below.refl _ _).drew | exact KEEP.out _ (by assumption))
    (first | (go_at_call 58; refine (D2.out _ (Below.refl _ _).drew).mono ?_; rintro e w3 ⟨rfl, b3⟩; have z3 := belD1 b3))
  have S3 := Lib.hid (S2.out.up z3)
  clear z3 b3 KEEP D2 S2
  have d0 := S3.out.boxA.c0
  have d1 := S3.out.boxA.c1
  have I0 : Hid (KmI w w3.heap.size k0 (.slice a0 m q0) (.slice none 0 0) (fun _ => undef) ((rowsL X 0).map upL) (w3.alloc (.cells #[.int .i64 k0, .slice none 0 0] 31))) := Lib.hid (bx3_start S3.out)
  have I0' := Lib.hid (I0.out.bx.boxA.c1)
  clear S3
  go_upto_region 6 with fail
  generalize w3.heap.size = g at *
  generalize (w3.alloc (.cells #[.int .i64 k0, .slice none 0 0] 31)) = w4 at *
  clear d0 d1
  have d1 := I0'.out
  go_wp2_with fail
  clear d1 I0'
  go_loopw [6, 7, 8, 9, 28] (fun _ _ _ _ c wr => ∃ (i : Nat) (S : Value) (US : Nat → Value), i ≤ m ∧ c = .int .i64 i ∧ Hid (KmI w g k0 (.slice a0 m q0) S US ((rowsL X i).map upL) wr)) (fun _ _ _ _ c _ => m - (intOf c).toNat)
  case atStart => exact ⟨0, _, _, by omega, rfl, I0⟩
  case round =>
    clear I0
    obtain ⟨i, S, US, hi, rfl, hJ⟩ := hrel
    by_cases hlt : i < m
    · have hlt' : (i : Int) < (m : Int) := by omega
      obtain ⟨b, off, ⟨cap', e⟩, hc'⟩ := HC.out.resolve_left (by omega)
      cases e
      have hcb := hc' i hlt
      obtain ⟨ai, ci, evi, hmi, hci⟩ := HR.out i hlt
      rw [evi] at hcb
      have c1 : wr.cell? ⟨b, off + i, none⟩ = some (.slice ai (X i).length ci) := (hJ.out.bx.bel.cell (p := ⟨b, off + i, none⟩) (World.block_lt_of_cell? w _ hcb)).trans hcb
      have HCI := Lib.hid hci
      have HXI := Lib.hid (HX.out i hlt)
      have NXT : Hid ((rowsL X (i + 1)).map upL = (rowsL X i).map upL ++ [upL (X i)]) := Lib.hid (by rw [rowsL_succ, List.map_append]; rfl)
      have LI : Hid (((rowsL X i).map upL).length ≤ 2000) := Lib.hid (by rw [List.length_map, rowsL_len]; omega)
      have hl4 := HXI.out.1
      generalize (rowsL X i).map upL = L at *
      clear hc' hcb hci evi
      generalize X i = xs at *
      go_upto_region 10 with (at_make; refine wpList_make_full _ rfl _ _ 42 rfl wr.heap.size 2 i0 (.int .i64 0) 1 Try.underlying42 hi0 hz0 hz1 .i64 .i64 (xs.length : Int) (xs.length : Int) xs.length rfl rfl rfl rfl (by rw [hz2]; omega) (by unfold maxLen; omega) (Nat.le_refl _) ?_; intro w5 hown hgrow; rw [made_list0, ← cpy_zero (upG xs) xs.length] at hown; have H5 := Lib.hid hown; have G5 := Lib.hid hgrow; clear hown hgrow)
      have B5 : Hid (Below wr.heap.size wr w5) := Lib.hid ((Below.refl wr.heap.size wr).grown G5.out (Nat.le_refl _) (by intro q hq; cases hq))
      clear G5 c1
      go_wp2_with fail
      obtain ⟨wo, hwo⟩ : ∃ wo, wo = wr := ⟨_, rfl⟩
      subst hwo
      go_loopw [8, 9, 37] (fun _ _ c wi => ∃ k : Nat, k ≤ xs.length ∧ c = .int .i64 k ∧ Hid (wi.ownsRow wo.heap.size 2 1 (.slice (some ⟨wo.heap.size, 0, none⟩) xs.length xs.length) xs.length ((cpy (upG xs) xs.length k).map (Value.int .i64))) ∧ Hid (Below wo.heap.size wo wi)) (fun _ _ c _ => xs.length - (intOf c).toNat)
      case atStart => exact ⟨0, by omega, rfl, H5, B5⟩
      case round =>
        clear H5 B5
        obtain ⟨k, hk5, rfl, hO, hB⟩ := hrel
        by_cases hkl : k < xs.length
        · have hkl' : (k : Int) < (xs.length : Int) := by omega
          obtain ⟨b2, off2, rfl, hc2⟩ := HCI.out.resolve_left (by omega)
          have J5 := hJ.out.up hB.out
          have c2 : wr.cell? ⟨b2, off2 + k, none⟩ = some (.int .i64 xs[k]) := by
            have := hc2 k hkl
            rw [List.getElem?_eq_getElem hkl, Option.getD_some] at this
            exact (J5.bx.bel.cell (p := ⟨b2, off2 + k, none⟩) (World.block_lt_of_cell? w _ this)).trans this
          have c6 := hO.out.cellAt k (by omega)
          have hck : ((cpy (upG xs) xs.length k).map (Value.int .i64))[k]? = some (.int .i64 0) := by simp [cpy, hkl]
          rw [hck] at c6
          have f6 := World.ownsRow.frozenAt hO.out k
          have ST := hO.out.stored k (.int .i64 (2 * xs[k] + 1))
          have SX : ((cpy (upG xs) xs.length k).map (Value.int .i64)).set k (.int .i64 (2 * xs[k] + 1)) = (cpy (upG xs) xs.length (k + 1)).map (Value.int .i64) := by
            rw [← cpy_set, ← List.map_set]
            congr 2
            unfold upG upE
            rw [List.getElem?_eq_getElem hkl, Option.getD_some]
          rw [SX] at ST
          have S1 := Lib.hid ST.1
          have S2 : Hid (Below wo.heap.size wo (wr.setCell ⟨wo.heap.size, k, none⟩ (.int .i64 (2 * xs[k] + 1)))) := Lib.hid (hB.out.setCell (p := ⟨wo.heap.size, k, none⟩) (Nat.le_refl _) _)
          have hb := HXI.out.2 xs[k] (List.getElem_mem hkl)
          generalize xs[k] = y at *
          have hy1 : wrap64 (2 * y) = 2 * y := wrap_sm (by omega) (by omega)
          have hy2 : wrap64 (2 * y + 1) = 2 * y + 1 := wrap_sm (by omega) (by omega)
          clear hc2 J5 ST SX hck
          go_wp2_with fail
          go_roundw
          case rel => exact ⟨k + 1, by omega, by go_num, S1, S2⟩
          case measure => simp [intOf]; omega
        · obtain rfl : k = xs.length := by omega
          have J5 := Lib.hid (hJ.out.up hB.out)
          have d1 := J5.out.bD.c1
          have f1 := J5.out.bD.fr 1
          obtain ⟨sa, sc, eS, _⟩ := Fam.head J5.out.fam
          subst eS
          have HV : Hid (wr.ownsRow wo.heap.size 2 1 (.slice (some ⟨wo.heap.size, 0, none⟩) xs.length xs.length) (upL xs).length ((upL xs).map (Value.int .i64))) := Lib.hid (by have := hO.out; rw [upG_all] at this; rw [upL_len]; exact this)
          have PU := Lib.hid (fun V8 w8 ho hg => KmI.push (x := upL xs) (V8 := V8) (w8 := w8) hJ.out hB.out HV.out (.cells #[.slice (some ⟨wo.heap.size, 0, none⟩) xs.length xs.length] 42) ho hg)
          have E0 := J5.out.ge
          have E1 := Lib.hid (cell_one_new wr (Value.slice (some ⟨wo.heap.size, 0, none⟩) xs.length xs.length) 42)
          have F3A := Lib.hid (J5.out.fam.out.alloc (.cells #[Value.slice (some ⟨wo.heap.size, 0, none⟩) xs.length xs.length] 42))
          have li := LI.out
          clear hO HV hJ hB J5
          go_wp2_with (at_builtin; refine wpList_append_own _ rfl _ _ 25 rfl (g + 1) 42 i1 (.slice none 0 0) 1 24 Try.underlying25 hj1 hy0 hy1 hy2 rfl (by decide) _ _ _ rfl F3A.out ⟨wr.heap.size, 0, none⟩ 1 1 [.slice (some ⟨wo.heap.size, 0, none⟩) xs.length xs.length] rfl rfl E1.out ?c2 ?c3 ?c4 ?c5 ?_)
          case c2 => intro u hu; rw [List.mem_singleton.1 hu]; rfl
          case c3 => unfold maxLen; omega
          case c4 => omega
          case c5 => simp; omega
          intro V8 w8 ho8 hg8 _
          have PP := Lib.hid (PU.out V8 w8 ho8 hg8)
          obtain ⟨a8, c8, e8⟩ := own_shape4 ho8
          subst e8
          have x8 := PP.out.1.c1
          have g8 := PP.out.1.fr 1
          have D9 := Lib.hid PP.out.2
          rw [← NXT.out] at D9
          clear PP PU ho8 hg8 E1 F3A d1 f1
          go_wp2_with fail
          go_roundw
          case rel => exact ⟨i + 1, _, _, by omega, by go_num, D9⟩
          case measure => simp [intOf]; omega
    · obtain rfl : i = m := by omega
      generalize (rowsL X i).map upL = M at *
      obtain ⟨sa, sc, eS, _⟩ := Fam.head hJ.out.fam
      subst eS
      have e0 := hJ.out.bD.c0
      have e1 := hJ.out.bD.c1
      have r0 := hJ.out.bx.boxR.c0
      have r1 := hJ.out.bx.boxR.c1
      have f0 := hJ.out.bx.boxR.fr 0
      have f1 := hJ.out.bx.boxR.fr 1
      have FIN := Lib.hid (okEndQ (C := k0) hJ.out.bx (Below.refl _ _) (hJ.out.fam.base (B' := w.heap.size) (by have := hJ.out.lo; omega)) hJ.out.sep 0)
      clear hJ
      go_wp2_with fail
      refine bodyPost_ret (results_box2_tmp rfl _ _ (w.heap.size + 1) _ _ _ rfl FIN.out.1 t2 (by kernel_rfl)) rfl ?_
      exact FIN.out.2
end Go.Proofs.Ytggebkcmokpcmaa.Pl
end
