/-
  Joined: HAdB, LFnExactAdmissibleMonomials, PFnExactAdmissibleMonomials.
-/
import Derived.Test.YtggebkcmokpcmaaZbleMonomials09
import Derived.Test.YtggebkcmokpcmaaZbleMonomials10
import Derived.Test.YtggebkcmokpcmaaZbleMonomials13
import Derived.Test.YtggebkcmokpcmaaRows
import Derived.WalkKit
import Derived.ProofKit
import Derived.OpenShut
import Derived.ShutString
import Derived.ChangeOld
import Derived.Below
section
namespace Go.Proofs.Ytggebkcmokpcmaa
open Go.RowKit Go.Proofs.Ytggebkcmokpcmaa.Pl
set_option linter.unusedVariables false
set_option maxRecDepth 100000

theorem padY_inj {k : Nat} {x y : List Int} (hx : x.length = k) (hy : y.length = k) (h : padY x = padY y) : x = y := by
  rw [← padY_take hx, ← padY_take hy, h]
theorem adB_pad {k : Nat} (R : List (List (List Int))) (x : List Int) (hx : x.length = k) (hR : ∀ r ∈ R, r ≠ [] ∧ ∀ t ∈ r, t.length = k) : adB (padR R) (padY x) = adB R x := by
  unfold adB padR
  rw [List.any_map]
  refine Bool.eq_iff_iff.2 ?_
  rw [List.any_eq_true, List.any_eq_true]
  constructor
  · rintro ⟨r, hr, h⟩
    refine ⟨r, hr, ?_⟩
    have h1 := of_decide_eq_true h
    rw [lastL_map padY (hR r hr).1] at h1
    exact decide_eq_true (padY_inj ((hR r hr).2 _ (lastL_mem (hR r hr).1)) hx h1)
  · rintro ⟨r, hr, h⟩
    refine ⟨r, hr, ?_⟩
    have h1 := of_decide_eq_true h
    refine decide_eq_true ?_
    rw [lastL_map padY (hR r hr).1, h1]
theorem adL_pad {k : Nat} (R : List (List (List Int))) (hR : ∀ r ∈ R, r ≠ [] ∧ ∀ t ∈ r, t.length = k) (L : List (List Int)) (hL : ∀ t ∈ L, t.length = k) : adL (padR R) (L.map padY) = (adL R L).map padY := by
  unfold adL
  rw [List.filter_map]
  congr 1
  refine List.filter_congr fun x hx => ?_
  show (!(adB (padR R) (padY x))) = !(adB R x)
  rw [adB_pad R x (hL x hx) hR]

set_option maxHeartbeats 4000000 in
theorem implAdm_any (f d : Nat) (k : Int) (hf : f < 4) (hk : k = ((f + 1 : Nat) : Int)) (hd : d ≤ 40) (hc : cn f d ≤ 100) (w : World) (HMs : Hid (∀ w, Calls Try.prog 44 #[.int .i64 k, .int .i64 (d : Int)] w fun e w' => ∃ u, e = .returned (.tuple #[u, .int .i64 0]) ∧ OwnY w' w.heap.size u (((ms f d []).map padY).map pwK) ∧ Below w.heap.size w w')) :
    Calls Try.prog 22 #[.int .i64 k, .int .i64 (d : Int)] w (ImplRes w 0 (adL (hitR f d) (ms f d []))) := by
  have t2 := Try.underlying31
  have HS := Lib.hid (fun w => hitSpaceOf_any f d k hf (by omega) hd hc w)
  have ROK := hitTo_ok hf hd hc 6
  have RW1 : ∀ r ∈ hitR f d, r ≠ [] ∧ ∀ t ∈ r, t.length = f + 1 := ROK.1.wide
  have MTM : ∀ m ∈ ms f d [], m.length = f + 1 := fun m hm => (ms_tm hf hm).1
  have ML : (ms f d []).length ≤ 100 := by rw [ms_cn]; exact hc
  have EQ := adL_pad (hitR f d) RW1 (ms f d []) MTM
  have L4 : ∀ z ∈ (ms f d []).map padY, z.length = 4 := fun z hz => by
    obtain ⟨m, hm, rfl⟩ := List.mem_map.1 hz
    exact padY_len (by rw [MTM m hm]; omega)
  have SM := SmY_pd (d := d) hf hc
  have PR : RowsOk (PdP f d) (padR (hitR f d)) := pd_rows ROK.1
  have AL : ∀ z ∈ adL (hitR f d) (ms f d []), z.length = f + 1 := fun z hz => MTM z (List.mem_filter.1 hz).1
  have ALL : (adL (hitR f d) (ms f d [])).length ≤ 100 := by
    have := List.length_filter_le (fun x => !(adB (hitR f d) x)) (ms f d [])
    unfold adL; omega
  have AD : Hid (∀ S u zs B wx, FamY wx B S zs → rzR zs = padR (hitR f d) → OwnY wx 0 u (((ms f d []).map padY).map pwK) → Calls Try.prog 54 #[S, u] wx fun e w' => ∃ u, e = .returned u ∧ OwnY w' wx.heap.size u (((adL (hitR f d) (ms f d [])).map padY).map pwK) ∧ Below wx.heap.size wx w') := Lib.hid (fun S u zs B wx h1 h2 h3 => by
    have := admissible_any S u zs ((ms f d []).map padY) B wx h1 (rdY_of_own h3 L4) L4 (by rw [List.length_map]; exact ML) (by rw [h2]; exact fun r hr => ⟨PR.ne r hr, fun z hz => SM.2 z (PR.all r hr z hz)⟩) (by
      have h4 : zs.length = (hitR f d).length := by rw [← rzR_len, h2]; unfold padR; rw [List.length_map]
      have h5 := ROK.2
      unfold hitR at h4
      omega)
    rw [h2, EQ] at this
    exact this)
  have UN : Hid (∀ u wx B, OwnY wx B u (((adL (hitR f d) (ms f d [])).map padY).map pwK) → Calls Try.prog 55 #[u, .int .i64 k] wx (ResY k (adL (hitR f d) (ms f d [])) 0 wx)) := Lib.hid (fun u wx B h => by
    have A4 : ∀ z ∈ (adL (hitR f d) (ms f d [])).map padY, z.length = 4 := fun z hz => by
      obtain ⟨m, hm, rfl⟩ := List.mem_map.1 hz
      exact padY_len (by rw [AL m hm]; omega)
    have := unpackedM_any u (f + 1) ((adL (hitR f d) (ms f d [])).map padY) wx (rdY_of_own h A4) (by omega) A4
    have et : ((adL (hitR f d) (ms f d [])).map padY).map (List.take (f + 1)) = adL (hitR f d) (ms f d []) := by
      rw [List.map_map]
      refine (List.map_congr_left fun t ht => ?_).trans (List.map_id _)
      exact padY_take (AL t ht)
    rw [et, show fitC ((f + 1 : Nat) : Int) (adL (hitR f d) (ms f d [])) = ((f + 1 : Nat) : Int) from if_pos (by omega), show fitL (adL (hitR f d) (ms f d [])) = adL (hitR f d) (ms f d []) from if_pos (by omega), show fitD (adL (hitR f d) (ms f d [])) = 0 from if_pos (by omega)] at this
    rw [hk]
    exact this)
  clear ROK RW1 MTM ML EQ L4 SM PR AL ALL hc hk hf
  generalize adL (hitR f d) (ms f d []) = A at *
  generalize hitR f d = R at *
  generalize ms f d [] = L at *
  go_enter Try.func22, Try.ntmps22
  go_wp2_with fail
  refine (HMs.out _).mono ?_
  rintro e w1 ⟨u, rfl, ou, b1⟩
  have B1 := Lib.hid b1
  have OU := Lib.hid (own_base ou (Nat.zero_le _))
  clear ou b1 HMs
  go_wp2_with fail
  refine (HS.out _).mono ?_
  rintro e w2 ⟨S, zs, rfl, fS, eS, b2⟩
  have OU2 := Lib.hid (own_below OU.out b2)
  have B2 := Lib.hid (B1.out.step1 b2)
  have A2 := Lib.hid (AD.out S u zs _ w2 fS eS OU2.out)
  clear fS eS b2 HS OU B1 AD
  go_wp2_with fail
  refine A2.out.mono ?_
  rintro e w3 ⟨v, rfl, ov, b3⟩
  have U3 := Lib.hid (UN.out v w3 _ ov)
  have B3 := Lib.hid (B2.out.step1 b3)
  clear ov b3 A2 OU2 B2 UN
  go_wp2_with fail
  refine U3.out.mono ?_
  rintro e w4 ⟨V, VS, rfl, fV, sV, b4⟩
  obtain ⟨va, vc, rfl, _, _⟩ := Fam.head fV
  have B4 := Lib.hid (B3.out.step1 b4)
  have b5 : Below w4.heap.size w4 (w4.alloc (.cells #[.int .i64 k, .slice va A.length vc] 31)) := (Below.refl _ _).alloc (Nat.le_refl _) _
  have BX : Hid (Box (w4.alloc (.cells #[.int .i64 k, .slice va A.length vc] 31)) w4.heap.size 31 (.int .i64 k) (.slice va A.length vc)) := Lib.hid (Box.new _ _ _ _)
  have d0 := BX.out.c0
  have d1 := BX.out.c1
  have F5 := Lib.hid ((fV.base (B' := w.heap.size) B3.out.size).below b5)
  have SV := Lib.hid sV
  have B5 := Lib.hid (B4.out.step1 b5)
  clear fV sV b4 b5 B4 B3 U3
  go_wp2_with fail
  go_ret2
  exact ⟨_, VS, rfl, F5.out, B5.out, SV.out⟩

def adOf (a b : Int) : List (List Int) := if hcOf a b = 0 then adL (hitR (a.toNat - 1) b.toNat) (ms (a.toNat - 1) b.toNat []) else []
theorem adOf_len (a b : Int) : (adOf a b).length ≤ 2000 ∧ ∀ x ∈ adOf a b, x.length ≤ 4 := by
  by_cases h : hcOf a b = 0
  · obtain ⟨f, d, hf, hd, ea, eb, hcn, _⟩ := hc_zero h
    unfold adOf
    rw [if_pos h]
    have e1 : a.toNat - 1 = f := by omega
    have e2 : b.toNat = d := by omega
    rw [e1, e2]
    refine ⟨?_, fun x hx => ?_⟩
    · have h1 := List.length_filter_le (fun x => !(adB (hitR f d) x)) (ms f d [])
      have h2 : (ms f d []).length ≤ 100 := by rw [ms_cn]; exact hcn
      unfold adL; omega
    · have := (ms_tm hf (List.mem_filter.1 hx).1).1
      omega
  · unfold adOf
    rw [if_neg h]
    exact ⟨by simp, fun x hx => by simp at hx⟩
theorem adOf_off (a b : Int) : off 1 (fun i => (rowsOf (adOf a b) i).length) (adOf a b).length ≤ 1152921504606846976 := by
  obtain ⟨h1, h2⟩ := adOf_len a b
  rw [off_any]
  have := tot_bound (rowsOf (adOf a b)) 4 (adOf a b).length (fun i => by
    unfold rowsOf
    cases e : (adOf a b)[i]? with
    | none => simp
    | some x =>
      obtain ⟨hi, ex⟩ := List.getElem?_eq_some_iff.1 e
      exact h2 x (ex ▸ List.getElem_mem hi))
  omega

set_option maxHeartbeats 1000000 in
theorem specAdm_all (a b : Int) (w : World) : Calls Try.prog 21 #[.int .i64 a, .int .i64 b] w (SpecRes w (hcOf a b) (adOf a b)) := by
  have CD := Lib.hid (fun w => l09Code_any a b w)
  by_cases h : hcOf a b = 0
  · obtain ⟨f, d, hf, hd, ea, eb, hcn, _⟩ := hc_zero h
    have e1 : a.toNat - 1 = f := by omega
    have e2 : b.toNat = d := by omega
    have e3 : adOf a b = adL (hitR f d) (ms f d []) := by unfold adOf; rw [if_pos h, e1, e2]
    rw [h] at CD
    rw [h, e3]
    subst eb
    exact specAdm_any f d a hf ea hd hcn w CD
  · have e3 : adOf a b = [] := by unfold adOf; rw [if_neg h]
    rw [e3]
    generalize hcOf a b = c at *
    go_enter Try.func21, Try.ntmps21
    go_wp2_with fail
    refine (CD.out _).mono ?_
    rintro e w1 ⟨rfl, rfl⟩
    clear CD
    go_wp2_with fail
    go_ret2
    exact ⟨_, fun _ => undef, rfl, famNil _ _, Below.refl _ _⟩
set_option maxHeartbeats 1000000 in
theorem implAdm_all (a b : Int) (w : World) : Calls Try.prog 22 #[.int .i64 a, .int .i64 b] w (ImplRes w (hcOf a b) (adOf a b)) := by
  have CD := Lib.hid (fun w => hitMonomials_any a b w)
  unfold HmPost at CD
  by_cases h : hcOf a b = 0
  · obtain ⟨f, d, hf, hd, ea, eb, hcn, em⟩ := hc_zero h
    have e1 : a.toNat - 1 = f := by omega
    have e2 : b.toNat = d := by omega
    have e3 : adOf a b = adL (hitR f d) (ms f d []) := by unfold adOf; rw [if_pos h, e1, e2]
    rw [h, em] at CD
    rw [h, e3]
    subst eb
    exact implAdm_any f d a hf ea hd hcn w CD
  · have e3 : adOf a b = [] := by unfold adOf; rw [if_neg h]
    rw [e3]
    generalize hcOf a b = c at *
    generalize hmOf a b = L at *
    go_enter Try.func22, Try.ntmps22
    go_wp2_with fail
    refine (CD.out _).mono ?_
    rintro e w1 ⟨u, rfl, ho, hb⟩
    have B0 := Lib.hid hb
    clear CD ho hb
    go_wp2_with fail
    go_ret2
    exact ⟨_, fun _ => undef, rfl, famNil _ _, B0.out, sepNil⟩
end Go.Proofs.Ytggebkcmokpcmaa
end
section
namespace Go.Proofs.Ytggebkcmokpcmaa
open Go.RowKit
set_option maxRecDepth 100000
set_option linter.unusedVariables false

theorem walk_FnExactAdmissibleMonomials (a0 a1 : Int) (w : World) (w0 : (Lit.int .i64 a0).wf = true) (w1 : (Lit.int .i64 a1).wf = true) :
    Calls Try.prog 6 #[.int .i64 a0, .int .i64 a1] w fun e w' => e = .returned (.bool true) ∧ Below w.heap.size w w' := by
  clear w0 w1
  have hoff := adOf_off a0 a1
  have SP := fun (wx : World) => specAdm_all a0 a1 wx
  have IM := fun (wx : World) => implAdm_all a0 a1 wx
  generalize adOf a0 a1 = xss at hoff SP IM
  generalize hcOf a0 a1 = cd at SP IM
  have hge : ¬ off 1 (fun i => (rowsOf xss i).length) xss.length < 0 := by
    have := off_low 1 (fun i => (rowsOf xss i).length) xss.length
    omega
  have HOFF := Lib.hid hoff
  have SP := Lib.hid SP
  have IM := Lib.hid IM
  clear hoff
  go_enter Try.func6, Try.ntmps6
  go_wp2_with fail
  refine (SP.out _).mono ?_
  rintro e w1 ⟨Vw, VSw, rfl, fw1, b1⟩
  go_wp2_with fail
  refine (IM.out _).mono ?_
  rintro e w2 ⟨Vg, VSg, rfl, fg2, b2, sg⟩
  have FW2 := Lib.hid (fw1.below b2)
  have FW1 := Lib.hid fw1
  have FG2 := Lib.hid fg2
  have SG := Lib.hid sg
  have b02 := b1.trans (b2.mono b1.size)
  have hs1 := b1.size
  have hs2 := b2.size
  clear fw1 fg2 sg
  go_wp2_with fail
  refine (eqInt64SS_same Vg Vw xss.length _ _ VSg VSw _ _ FG2.out FW2.out).mono ?_
  rintro e w3 ⟨rfl, q, rfl⟩
  go_wp2_with fail
  refine (markInt64SS_own Vg xss.length _ VSg _ _ (FG2.out.drewN q) SG.out HOFF.out).mono ?_
  rintro e w4 ⟨rfl, fg4, b4⟩
  have b24 : Below w1.heap.size w2 w4 := ((below_drewN (Below.refl w1.heap.size w2) q)).trans b4
  have FW4 := Lib.hid (FW1.out.low b24 FW2.out)
  have FG4 := Lib.hid fg4
  have b04 : Below w.heap.size w w4 := b02.trans (b24.mono hs1)
  have hs4 := b24.size
  clear fg4 b4 b24 b02 b1 b2
  go_wp2_with fail
  refine (heldInt64SS_own Vg xss.length _ VSg _ _ FG4.out HOFF.out).mono ?_
  rintro e w5 ⟨rfl, rfl⟩
  go_wp2_with fail
  refine (IM.out _).mono ?_
  rintro e w6 ⟨Vh, VSh, rfl, fh6, b6, _⟩
  have FW6 := Lib.hid (FW4.out.below b6)
  have FG6 := Lib.hid (FG4.out.below b6)
  have FH6 := Lib.hid fh6
  have b06 := b04.trans (b6.mono b04.size)
  clear fh6 b6 b04
  go_wp2_with fail
  refine (eqInt64SS_same Vh Vw xss.length _ _ VSh VSw _ _ FH6.out FW6.out).mono ?_
  rintro e w7 ⟨rfl, q', rfl⟩
  go_wp2_with fail
  refine (heldInt64SS_own Vg xss.length _ VSg _ _ (FG6.out.drewN q') HOFF.out).mono ?_
  rintro e w8 ⟨rfl, rfl⟩
  go_wp2_with fail
  go_ret
  exact ⟨rfl, below_drewN b06 q'⟩
end Go.Proofs.Ytggebkcmokpcmaa
end
section
namespace Go.Proofs.Ytggebkcmokpcmaa.fnExactAdmissibleMonomials
open Go.ChangeShapes Go.WideShapes Go.ChangeAt Go.RowKit
open Go.ChangeMaps (open_string shut_string)
set_option maxRecDepth 100000
set_option linter.unusedVariables false

theorem own : ownKnob Try.prog.godebug = none := by kernel_rfl
theorem laidOut : laidOutB Try.prog = true := by kernel_rfl

set_option maxRecDepth 100000 in
theorem lifted (os : Os) (started : os.Started) (H : Type) (enc : TypeId × Value → H) :
    ReturnsInHanded {} Try.checked os 6 .any (Rows.fnExactAdmissibleMonomialsSpec.pre6 enc Try.prog Try.f6 Rows.fnExactAdmissibleMonomialsRow.domain false) (Rows.fnExactAdmissibleMonomialsSpec.post enc Try.prog Try.f6 false true false false) := by
  refine returnsInHanded_of_change (C := Try.checked) own started (by kernel_rfl) Try.func6
    (ChangeSpec.witness6 (enc := enc) (C := Try.checked) false ⟨#[], #[.int .i64 0, .int .i64 0], []⟩ 8 (by kernel_rfl) (by kernel_rfl) (by kernel_rfl) (by kernel_rfl)) ?_
  intro W base args ds gs before hval0 hW hcnd _
  have hval : ∀ (j : Nat) t v, Try.f6.params[j]? = some t → args[j]? = some v → Value.okWide Try.prog W .any base t v := hval0
  have hW' := hW
  obtain ⟨p, q, hA0, hV, rfl, hfz, hnd⟩ := hW
  have hA : DataW.TrodAll enc Try.prog W 0 (fun _ => true) true Try.f6.params.toList args.toList ds p := hA0
  rw [Try.params6] at hA hval
  obtain ⟨v0, vs0, d0, ds0, p0, q0, hargs, rfl, rfl, h0, r0⟩ := trodAll_cons hA
  obtain ⟨v1, vs1, d1, ds1, p1, q1, rfl, rfl, rfl, h1, r1⟩ := trodAll_cons r0
  obtain ⟨rfl, rfl, rfl⟩ := trodAll_nil r1
  obtain rfl : args = #[v0, v1] := by cases args; simp_all
  obtain ⟨rfl, rfl⟩ := trodVars_none hV
  obtain ⟨a0, rfl, rfl, rfl, w0⟩ := open_int Try.underlying2 (hval 0 2 v0 rfl rfl) h0
  obtain ⟨a1, rfl, rfl, rfl, w1⟩ := open_int Try.underlying2 (hval 1 2 v1 rfl rfl) h1
  clear hA0 hval0
  simp only [List.append_nil] at hW'
  refine (walk_FnExactAdmissibleMonomials a0 a1 W w0 w1).mono fun e W' ⟨he, bel⟩ => ?_
  subst he
  exact ⟨_, rfl, _, _, _, [], [], [], hW', trodAll_mk1 (shut_bool Try.underlying4 _), (trodAll_cons_mk (shut_int Try.underlying2 w0) (trodAll_cons_mk (shut_int Try.underlying2 w1) trodAll_mk0)), rfl, bel.frame _, fun h => by cases h⟩

theorem over : Rows.fnExactAdmissibleMonomialsRow.holds Try.pinned (OpenSpec.ofChange Rows.fnExactAdmissibleMonomialsSpec) :=
  OpenClaim.holds_of_wide 6 Try.f6 rfl rfl rfl rfl rfl rfl rfl ⟨rfl, rfl, rfl, rfl, rfl⟩ rfl rfl rfl rfl rfl (by kernel_rfl) Try.func6 (by kernel_rfl)
    (of_decide_eq_true (by kernel_rfl)) (by unfold Func.isWrapper; first | (rw [if_pos (by decide +kernel)]; kernel_rfl) | (rw [if_neg (by decide +kernel)]; exact ⟨rfl, rfl⟩))
    (fun os started H enc _ => lifted os started H enc)

theorem proved : Rows.FnExactAdmissibleMonomialsSaid := over
#print axioms proved
end Go.Proofs.Ytggebkcmokpcmaa.fnExactAdmissibleMonomials
end
