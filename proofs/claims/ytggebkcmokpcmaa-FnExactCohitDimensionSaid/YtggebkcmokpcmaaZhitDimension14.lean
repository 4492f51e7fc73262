/-
  Joined: QBase, HDim, LFnExactCohitDimension, PFnExactCohitDimension.
-/
import Derived.Test.YtggebkcmokpcmaaZBHit02
import Derived.Test.YtggebkcmokpcmaaZhitDimension13
import Derived.Deep.RegionHeld3
import Derived.Test.YtggebkcmokpcmaaRows
import Derived.WalkKit
import Derived.ProofKit
import Derived.OpenShut
import Derived.ShutString
import Derived.ChangeOld
import Derived.Below
section
namespace Go.Proofs.Ytggebkcmokpcmaa
open Go.RowKit
set_option maxRecDepth 100000
set_option linter.unusedVariables false

/-- A call that answers v and leaves what was. -/
def SaysV (v : Value) (w : World) (e : Ending) (w' : World) : Prop := e = .returned v ∧ Below w.heap.size w w'
/-- A call that answers a new list of numbers, and a code. -/
def ResI (zs : List Int) (c : Int) (w : World) (e : Ending) (w' : World) : Prop :=
  ∃ v, e = .returned (.tuple #[v, .int .i64 c]) ∧ w'.ownsRow w.heap.size 2 1 v zs.length (zs.map (Value.int .i64)) ∧ Below w.heap.size w w'

theorem apart_sw {v v' : Value} (h : v.ownBlock = none ∨ v.ownBlock ≠ v'.ownBlock) : v'.ownBlock = none ∨ v'.ownBlock ≠ v.ownBlock := by
  rcases h with h | h
  · rw [h]
    exact Classical.em _
  · exact .inr (Ne.symm h)
theorem below_one {a w w' : World} (h : Below a.heap.size a w) (k : Below w.heap.size w w') : Below a.heap.size a w' := h.trans (k.mono h.size)
theorem below_dr (w : World) (q : Nat) : Below w.heap.size w (w.drewN q) := ⟨rfl, rfl, rfl, Nat.le_refl _, fun _ _ => rfl⟩
theorem rd_cpy {w : World} {B n : Nat} {G : Nat → Int} {v : Value} (h : w.ownsRow B 2 1 v n ((cpy G n n).map (Value.int .i64))) : RdI w v n G :=
  (rd_of_own h (cpy_length G n n).symm).congr (cpy_get G n)

/-- Two calls that answer the same. -/
theorem resI_up {f : Nat} {args : Array Value} {w : World} {zs : List Int} {c : Int} (h : Calls Try.prog f args w fun e w' => ∃ v, e = .returned (.tuple #[v, .int .i64 c]) ∧ w'.ownsRow w.heap.size 2 1 v zs.length (zs.map (Value.int .i64)) ∧ Below w.heap.size w w') : Calls Try.prog f args w (ResI zs c w) := h
theorem saysV_up {f : Nat} {args : Array Value} {w : World} {v : Value} (h : Calls Try.prog f args w fun e w' => e = .returned v ∧ w = w') : Calls Try.prog f args w (SaysV v w) :=
  h.mono fun e w' ⟨he, hw⟩ => ⟨he, hw ▸ Below.refl _ _⟩
end Go.Proofs.Ytggebkcmokpcmaa
end
section
namespace Go.Proofs.Ytggebkcmokpcmaa
open Go.RowKit Go.Proofs.Ytggebkcmokpcmaa.Pl
set_option linter.unusedVariables false
set_option maxRecDepth 100000

theorem hc_zero {a b : Int} (h : hcOf a b = 0) : ∃ f d : Nat, f < 4 ∧ d ≤ 40 ∧ a = ((f + 1 : Nat) : Int) ∧ b = (d : Int) ∧ cn f d ≤ 100 ∧ hmOf a b = ms f d [] := by
  have h0 := h
  unfold hcOf at h
  by_cases hm : moIn a b
  · obtain ⟨⟨h1, h2⟩, h3, h4⟩ := id hm
    rw [if_pos hm] at h
    obtain ⟨f, rfl⟩ : ∃ f : Nat, a = ((f + 1 : Nat) : Int) := ⟨a.toNat - 1, by omega⟩
    obtain ⟨d, rfl⟩ : ∃ d : Nat, b = (d : Int) := ⟨b.toNat, by omega⟩
    have e1 : (((f + 1 : Nat) : Int)).toNat - 1 = f := by omega
    have e2 : ((d : Int)).toNat = d := by omega
    rw [e1, e2] at h
    by_cases hc : cn f d ≤ 100
    · exact ⟨f, d, by omega, by omega, rfl, rfl, hc, by unfold hmOf; rw [if_pos h0, e1, e2]⟩
    · rw [if_neg hc] at h; exact absurd h (by decide)
  · rw [if_neg hm] at h; exact absurd h (by decide)
/-- Dimension of the hits. -/
def hitDOf (a b : Int) : Int := if hcOf a b = 0 then ((hitR (a.toNat - 1) b.toNat).length : Int) else 0
def cohOf (a b : Int) : Int := if hcOf a b = 0 then ((cn (a.toNat - 1) b.toNat : Int) - ((hitR (a.toNat - 1) b.toNat).length : Int)) else 0
theorem FamR.lenS {w : World} {V : Value} {zs : RwZ} {R : List (List (List Int))} (h : FamR w V zs) (e : rzR zs = R) : ∃ a cap, V = .slice a R.length cap := by
  obtain ⟨a, cap, e2⟩ := own_slc h.out
  exact ⟨a, cap, by rw [e2, ← e, rzR_len]⟩
theorem FamY.lenS {w : World} {B : Nat} {V : Value} {zs : RwZ} {R : List (List (List Int))} (h : FamY w B V zs) (e : rzR zs = padR R) : ∃ a cap, V = .slice a R.length cap := by
  obtain ⟨a, cap, e2⟩ := own_slc h.out
  have : zs.length = R.length := by rw [← rzR_len, e]; unfold padR; rw [List.length_map]
  exact ⟨a, cap, by rw [e2, this]⟩

set_option maxHeartbeats 1000000 in
theorem specHitD (a b : Int) (w : World) : Calls Try.prog 12 #[.int .i64 a, .int .i64 b] w (SaysV (.tuple #[.int .i64 (hitDOf a b), .int .i64 (hcOf a b)]) w) := by
  have CD := Lib.hid (l09Code_any a b w)
  by_cases hc : hcOf a b = 0
  · obtain ⟨f, d, hf, hd, ea, eb, hcn, _⟩ := hc_zero hc
    have RW := Lib.hid (fun w => l09Rows_any f d a hf (by omega) hd hcn w)
    have HD : Hid (hitDOf a b = ((hitR f d).length : Int)) := Lib.hid (by unfold hitDOf; rw [if_pos hc, ea, eb]; simp)
    rw [hc] at CD
    rw [HD.out, hc]
    subst eb
    have hl : (hitR f d).length ≤ 1000 := by
      have := (hitTo_ok hf hd hcn 6).2
      unfold hitR; omega
    clear hc hcn ea hf hd HD
    generalize hitR f d = R at *
    go_enter Try.func12, Try.ntmps12
    go_wp2_with fail
    refine CD.out.mono ?_
    rintro e w1 ⟨rfl, rfl⟩
    clear CD
    go_wp2_with fail
    refine (RW.out _).mono ?_
    rintro e w1 ⟨V, zs, rfl, hF, hE, hB⟩
    obtain ⟨va, vc, rfl⟩ := hF.lenS hE
    have B1 := Lib.hid hB
    clear hF hE hB RW
    go_wp2_with fail
    go_ret2
    exact ⟨rfl, B1.out⟩
  · have HD : Hid (hitDOf a b = 0) := Lib.hid (by unfold hitDOf; rw [if_neg hc])
    rw [HD.out]
    generalize hcOf a b = c at *
    clear HD
    go_enter Try.func12, Try.ntmps12
    go_wp2_with fail
    refine CD.out.mono ?_
    rintro e w1 ⟨rfl, rfl⟩
    clear CD
    go_wp2_with fail
    go_ret2
    exact ⟨rfl, Below.refl _ _⟩

set_option maxHeartbeats 1000000 in
theorem implHitD (a b : Int) (w : World) : Calls Try.prog 13 #[.int .i64 a, .int .i64 b] w (SaysV (.tuple #[.int .i64 (hitDOf a b), .int .i64 (hcOf a b)]) w) := by
  have CD := Lib.hid (hitMonomials_any a b w)
  unfold HmPost at CD
  by_cases hc : hcOf a b = 0
  · obtain ⟨f, d, hf, hd, ea, eb, hcn, _⟩ := hc_zero hc
    have RW := Lib.hid (fun w => hitSpaceOf_any f d a hf (by omega) hd hcn w)
    have HD : Hid (hitDOf a b = ((hitR f d).length : Int)) := Lib.hid (by unfold hitDOf; rw [if_pos hc, ea, eb]; simp)
    rw [hc] at CD
    rw [HD.out, hc]
    generalize hmOf a b = L at *
    subst eb
    have hl : (hitR f d).length ≤ 1000 := by
      have := (hitTo_ok hf hd hcn 6).2
      unfold hitR; omega
    clear hc hcn ea hf hd HD
    generalize hitR f d = R at *
    go_enter Try.func13, Try.ntmps13
    go_wp2_with fail
    refine CD.out.mono ?_
    rintro e w1 ⟨u, rfl, ho, hb⟩
    have B0 := Lib.hid hb
    clear CD ho hb
    go_wp2_with fail
    refine (RW.out _).mono ?_
    rintro e w2 ⟨V, zs, rfl, hF, hE, hB⟩
    obtain ⟨va, vc, rfl⟩ := hF.lenS hE
    have B1 := Lib.hid (B0.out.step1 hB)
    clear hF hE hB RW
    go_wp2_with fail
    go_ret2
    exact ⟨rfl, B1.out⟩
  · have HD : Hid (hitDOf a b = 0) := Lib.hid (by unfold hitDOf; rw [if_neg hc])
    rw [HD.out]
    generalize hcOf a b = c at *
    generalize hmOf a b = L at *
    clear HD
    go_enter Try.func13, Try.ntmps13
    go_wp2_with fail
    refine CD.out.mono ?_
    rintro e w1 ⟨u, rfl, ho, hb⟩
    have B0 := Lib.hid hb
    clear CD ho hb
    go_wp2_with fail
    go_ret2
    exact ⟨rfl, B0.out⟩
theorem HitDimension_both (a : Int) (wa : (Lit.int .i64 a).wf = true) (b : Int) (wb : (Lit.int .i64 b).wf = true) : ∃ x c : Int,
    (∀ w, Calls Try.prog 12 #[.int .i64 a, .int .i64 b] w (SaysV (.tuple #[.int .i64 x, .int .i64 c]) w)) ∧
    (∀ w, Calls Try.prog 13 #[.int .i64 a, .int .i64 b] w (SaysV (.tuple #[.int .i64 x, .int .i64 c]) w)) :=
  ⟨_, _, fun w => specHitD a b w, fun w => implHitD a b w⟩

set_option maxHeartbeats 1000000 in
theorem specCohitD (a b : Int) (w : World) : Calls Try.prog 14 #[.int .i64 a, .int .i64 b] w (SaysV (.tuple #[.int .i64 (cohOf a b), .int .i64 (hcOf a b)]) w) := by
  have CD := Lib.hid (l09Code_any a b w)
  by_cases hc : hcOf a b = 0
  · obtain ⟨f, d, hf, hd, ea, eb, hcn, _⟩ := hc_zero hc
    have RW := Lib.hid (fun w => l09Rows_any f d a hf (by omega) hd hcn w)
    have CNT := Lib.hid (fun w => l09Count_any f d hf hd w)
    rw [← ea] at CNT
    have HD : Hid (cohOf a b = ((cn f d : Int) - ((hitR f d).length : Int))) := Lib.hid (by unfold cohOf; rw [if_pos hc, ea, eb]; simp)
    rw [hc] at CD
    rw [HD.out, hc]
    subst eb
    have hl : (hitR f d).length ≤ 1000 := by
      have := (hitTo_ok hf hd hcn 6).2
      unfold hitR; omega
    clear hc ea hf hd HD
    generalize hitR f d = R at *
    generalize cn f d = c at *
    have hw1 : wrap64 ((c : Int) - (R.length : Int)) = (c : Int) - (R.length : Int) := wrap_sm (by omega) (by omega)
    go_enter Try.func14, Try.ntmps14
    go_wp2_with fail
    refine CD.out.mono ?_
    rintro e w1 ⟨rfl, rfl⟩
    clear CD
    go_wp2_with fail
    refine (CNT.out _).mono ?_
    rintro e w1 ⟨rfl, rfl⟩
    clear CNT
    go_wp2_with fail
    refine (RW.out _).mono ?_
    rintro e w1 ⟨V, zs, rfl, hF, hE, hB⟩
    obtain ⟨va, vc, rfl⟩ := hF.lenS hE
    have B1 := Lib.hid hB
    clear hF hE hB RW
    go_wp2_with fail
    go_ret2
    exact ⟨rfl, B1.out⟩
  · have HD : Hid (cohOf a b = 0) := Lib.hid (by unfold cohOf; rw [if_neg hc])
    rw [HD.out]
    generalize hcOf a b = c at *
    clear HD
    go_enter Try.func14, Try.ntmps14
    go_wp2_with fail
    refine CD.out.mono ?_
    rintro e w1 ⟨rfl, rfl⟩
    clear CD
    go_wp2_with fail
    go_ret2
    exact ⟨rfl, Below.refl _ _⟩

set_option maxHeartbeats 1000000 in
theorem implCohitD (a b : Int) (w : World) : Calls Try.prog 15 #[.int .i64 a, .int .i64 b] w (SaysV (.tuple #[.int .i64 (cohOf a b), .int .i64 (hcOf a b)]) w) := by
  have CD := Lib.hid (hitMonomials_any a b w)
  unfold HmPost at CD
  by_cases hc : hcOf a b = 0
  · obtain ⟨f, d, hf, hd, ea, eb, hcn, em⟩ := hc_zero hc
    have RW := Lib.hid (fun w => hitSpaceOf_any f d a hf (by omega) hd hcn w)
    have HD : Hid (cohOf a b = ((cn f d : Int) - ((hitR f d).length : Int))) := Lib.hid (by unfold cohOf; rw [if_pos hc, ea, eb]; simp)
    rw [hc, em] at CD
    rw [HD.out, hc]
    subst eb
    have hl : (hitR f d).length ≤ 1000 := by
      have := (hitTo_ok hf hd hcn 6).2
      unfold hitR; omega
    have ML : Hid ((ms f d []).length = cn f d) := Lib.hid (ms_cn f d [])
    clear hc ea hf hd HD em
    generalize hitR f d = R at *
    generalize cn f d = c at *
    generalize ms f d [] = L at *
    have hw1 : wrap64 ((c : Int) - (R.length : Int)) = (c : Int) - (R.length : Int) := wrap_sm (by omega) (by omega)
    have hw2 : IntKind.i64.wrap ((c : Int) - (R.length : Int)) = (c : Int) - (R.length : Int) := by rw [IntKind.wrap_i64]; omega
    go_enter Try.func15, Try.ntmps15
    go_wp2_with fail
    refine CD.out.mono ?_
    rintro e w1 ⟨u, rfl, ho, hb⟩
    obtain ⟨ua, uc, rfl⟩ := own_slc ho
    rw [List.length_map, List.length_map, ML.out] at *
    have B0 := Lib.hid hb
    clear CD ho hb
    go_wp2_with fail
    refine (RW.out _).mono ?_
    rintro e w2 ⟨V, zs, rfl, hF, hE, hB⟩
    obtain ⟨va, vc, rfl⟩ := hF.lenS hE
    have B1 := Lib.hid (B0.out.step1 hB)
    clear hF hE hB RW
    go_wp2_with fail
    go_ret2
    exact ⟨rfl, B1.out⟩
  · have HD : Hid (cohOf a b = 0) := Lib.hid (by unfold cohOf; rw [if_neg hc])
    rw [HD.out]
    generalize hcOf a b = c at *
    generalize hmOf a b = L at *
    clear HD
    go_enter Try.func15, Try.ntmps15
    go_wp2_with fail
    refine CD.out.mono ?_
    rintro e w1 ⟨u, rfl, ho, hb⟩
    have B0 := Lib.hid hb
    clear CD ho hb
    go_wp2_with fail
    go_ret2
    exact ⟨rfl, B0.out⟩
theorem CohitDimension_both (a : Int) (wa : (Lit.int .i64 a).wf = true) (b : Int) (wb : (Lit.int .i64 b).wf = true) : ∃ x c : Int,
    (∀ w, Calls Try.prog 14 #[.int .i64 a, .int .i64 b] w (SaysV (.tuple #[.int .i64 x, .int .i64 c]) w)) ∧
    (∀ w, Calls Try.prog 15 #[.int .i64 a, .int .i64 b] w (SaysV (.tuple #[.int .i64 x, .int .i64 c]) w)) :=
  ⟨_, _, fun w => specCohitD a b w, fun w => implCohitD a b w⟩
end Go.Proofs.Ytggebkcmokpcmaa
end
section
namespace Go.Proofs.Ytggebkcmokpcmaa
open Go.RowKit
set_option linter.unusedVariables false
set_option maxRecDepth 100000

set_option maxHeartbeats 4000000 in
theorem walk_FnExactCohitDimension (a0 : Int) (a1 : Int) (w : World) (w0 : (Lit.int .i64 a0).wf = true) (w1 : (Lit.int .i64 a1).wf = true) :
    Calls Try.prog 4 #[.int .i64 a0, .int .i64 a1] w fun e w' => e = .returned (.bool true) ∧ Below w.heap.size w w' := by
  obtain ⟨x, cd, S, I⟩ := CohitDimension_both a0 w0 a1 w1
  have S := Lib.hid S
  have I := Lib.hid I
  have hx1 : (x != x) = false := bne_self_eq_false _
  have hx2 : (cd != cd) = false := bne_self_eq_false _
  have B0 : Hid (Below w.heap.size w w) := Lib.hid (Below.refl _ _)
  go_enter Try.func4, Try.ntmps4
  go_wp2_with fail
  refine (S.out  _ ).mono ?_
  rintro e w1 ⟨rfl, b2⟩
  have B3 := Lib.hid (below_one B0.out b2)
  clear B0
  clear b2
  go_wp2_with fail
  refine (I.out  _ ).mono ?_
  rintro e w4 ⟨rfl, b5⟩
  have B6 := Lib.hid (below_one B3.out b5)
  clear B3
  clear b5
  go_wp2_with fail
  go_ret
  exact ⟨rfl, B6.out⟩
end Go.Proofs.Ytggebkcmokpcmaa
end
section
namespace Go.Proofs.Ytggebkcmokpcmaa.fnExactCohitDimension
open Go.ChangeShapes Go.WideShapes Go.ChangeAt Go.RowKit
open Go.ChangeMaps (open_string shut_string)
set_option maxRecDepth 100000
set_option linter.unusedVariables false

theorem own : ownKnob Try.prog.godebug = none := by kernel_rfl
theorem laidOut : laidOutB Try.prog = true := by kernel_rfl

set_option maxRecDepth 100000 in
theorem lifted (os : Os) (started : os.Started) (H : Type) (enc : TypeId × Value → H) :
    ReturnsInHanded {} Try.checked os 4 .any (Rows.fnExactCohitDimensionSpec.pre6 enc Try.prog Try.f4 Rows.fnExactCohitDimensionRow.domain false) (Rows.fnExactCohitDimensionSpec.post enc Try.prog Try.f4 false true false false) := by
  refine returnsInHanded_of_change (C := Try.checked) own started (by kernel_rfl) Try.func4
    (ChangeSpec.witness6 (enc := enc) (C := Try.checked) false ⟨#[], #[.int .i64 0, .int .i64 0], []⟩ 8 (by kernel_rfl) (by kernel_rfl) (by kernel_rfl) (by kernel_rfl)) ?_
  intro W base args ds gs before hval0 hW hcnd _
  have hval : ∀ (j : Nat) t v, Try.f4.params[j]? = some t → args[j]? = some v → Value.okWide Try.prog W .any base t v := hval0
  have hW' := hW
  obtain ⟨p, q, hA0, hV, rfl, hfz, hnd⟩ := hW
  have hA : DataW.TrodAll enc Try.prog W 0 (fun _ => true) true Try.f4.params.toList args.toList ds p := hA0
  rw [Try.params4] at hA hval
  obtain ⟨v0, vs0, d0, ds0, p0, q0, hargs, rfl, rfl, h0, r0⟩ := trodAll_cons hA
  obtain ⟨v1, vs1, d1, ds1, p1, q1, rfl, rfl, rfl, h1, r1⟩ := trodAll_cons r0
  obtain ⟨rfl, rfl, rfl⟩ := trodAll_nil r1
  obtain rfl : args = #[v0, v1] := by cases args; simp_all
  obtain ⟨rfl, rfl⟩ := trodVars_none hV
  obtain ⟨a0, rfl, rfl, rfl, w0⟩ := open_int Try.underlying2 (hval 0 2 v0 rfl rfl) h0
  obtain ⟨a1, rfl, rfl, rfl, w1⟩ := open_int Try.underlying2 (hval 1 2 v1 rfl rfl) h1
  clear hA0 hval0
  simp only [List.append_nil] at hW'
  refine (walk_FnExactCohitDimension a0 a1 W w0 w1).mono fun e W' ⟨he, bel⟩ => ?_
  subst he
  exact ⟨_, rfl, _, _, _, [], [], [], hW', trodAll_mk1 (shut_bool Try.underlying4 _), (trodAll_cons_mk (shut_int Try.underlying2 w0) (trodAll_cons_mk (shut_int Try.underlying2 w1) trodAll_mk0)), rfl, bel.frame _, fun h => by cases h⟩

theorem over : Rows.fnExactCohitDimensionRow.holds Try.pinned (OpenSpec.ofChange Rows.fnExactCohitDimensionSpec) :=
  OpenClaim.holds_of_wide 4 Try.f4 rfl rfl rfl rfl rfl rfl rfl ⟨rfl, rfl, rfl, rfl, rfl⟩ rfl rfl rfl rfl rfl (by kernel_rfl) Try.func4 (by kernel_rfl)
    (of_decide_eq_true (by kernel_rfl)) (by unfold Func.isWrapper; first | (rw [if_pos (by decide +kernel)]; kernel_rfl) | (rw [if_neg (by decide +kernel)]; exact ⟨rfl, rfl⟩))
    (fun os started H enc _ => lifted os started H enc)

theorem proved : Rows.FnExactCohitDimensionSaid := over
#print axioms proved
end Go.Proofs.Ytggebkcmokpcmaa.fnExactCohitDimension
end
