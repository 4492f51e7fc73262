/-
  Joined: HDim, HAdS.
-/
import Derived.Test.YtggebkcmokpcmaaZbleMonomials08
import Derived.Test.YtggebkcmokpcmaaZBHit18
import Derived.Test.YtggebkcmokpcmaaZBHit21
section
namespace Go.Proofs.Ytggebkcmokpcmaa
open Go.RowKit Go.Proofs.Ytggebkcmokpcmaa.Pl
set_option linter.unusedVariables false
set_option maxRecDepth 100000

theorem hc_zero {a b : Int} (h : hcOf a b = 0) : ∃ f d : Nat, f < 4 ∧ d ≤ 40 ∧ a = ((f + 1 : Nat) : Int) ∧ b = (d : Int) ∧ cn f d ≤ 100 ∧ hmOf a b = ms f d [] := by
  have h0 := h
  unfold hcOf at h
  by_cases hm : moIn a b
  · obtain ⟨⟨h1, h2⟩, h3, h4⟩ := id hm
    rw [if_pos hm] at h
    obtain ⟨f, rfl⟩ : ∃ f : Nat, a = ((f + 1 : Nat) : Int) := ⟨a.toNat - 1, by omega⟩
    obtain ⟨d, rfl⟩ : ∃ d : Nat, b = (d : Int) := ⟨b.toNat, by omega⟩
    have e1 : (((f + 1 : Nat) : Int)).toNat - 1 = f := by omega
    have e2 : ((d : Int)).toNat = d := by omega
    rw [e1, e2] at h
    by_cases hc : cn f d ≤ 100
    · exact ⟨f, d, by omega, by omega, rfl, rfl, hc, by unfold hmOf; rw [if_pos h0, e1, e2]⟩
    · rw [if_neg hc] at h; exact absurd h (by decide)
  · rw [if_neg hm] at h; exact absurd h (by decide)
/-- Dimension of the hits. -/
def hitDOf (a b : Int) : Int := if hcOf a b = 0 then ((hitR (a.toNat - 1) b.toNat).length : Int) else 0
def cohOf (a b : Int) : Int := if hcOf a b = 0 then ((cn (a.toNat - 1) b.toNat : Int) - ((hitR (a.toNat - 1) b.toNat).length : Int)) else 0
theorem FamR.lenS {w : World} {V : Value} {zs : RwZ} {R : List (List (List Int))} (h : FamR w V zs) (e : rzR zs = R) : ∃ a cap, V = .slice a R.length cap := by
  obtain ⟨a, cap, e2⟩ := own_slc h.out
  exact ⟨a, cap, by rw [e2, ← e, rzR_len]⟩
theorem FamY.lenS {w : World} {B : Nat} {V : Value} {zs : RwZ} {R : List (List (List Int))} (h : FamY w B V zs) (e : rzR zs = padR R) : ∃ a cap, V = .slice a R.length cap := by
  obtain ⟨a, cap, e2⟩ := own_slc h.out
  have : zs.length = R.length := by rw [← rzR_len, e]; unfold padR; rw [List.length_map]
  exact ⟨a, cap, by rw [e2, this]⟩

set_option maxHeartbeats 1000000 in
theorem specHitD (a b : Int) (w : World) : Calls Try.prog 12 #[.int .i64 a, .int .i64 b] w (SaysV (.tuple #[.int .i64 (hitDOf a b), .int .i64 (hcOf a b)]) w) := by
  have CD := Lib.hid (l09Code_any a b w)
  by_cases hc : hcOf a b = 0
  · obtain ⟨f, d, hf, hd, ea, eb, hcn, _⟩ := hc_zero hc
    have RW := Lib.hid (fun w => l09Rows_any f d a hf (by omega) hd hcn w)
    have HD : Hid (hitDOf a b = ((hitR f d).length : Int)) := Lib.hid (by unfold hitDOf; rw [if_pos hc, ea, eb]; simp)
    rw [hc] at CD
    rw [HD.out, hc]
    subst eb
    have hl : (hitR f d).length ≤ 1000 := by
      have := (hitTo_ok hf hd hcn 6).2
      unfold hitR; omega
    clear hc hcn ea hf hd HD
    generalize hitR f d = R at *
    go_enter Try.func12, Try.ntmps12
    go_wp2_with fail
    refine CD.out.mono ?_
    rintro e w1 ⟨rfl, rfl⟩
    clear CD
    go_wp2_with fail
    refine (RW.out _).mono ?_
    rintro e w1 ⟨V, zs, rfl, hF, hE, hB⟩
    obtain ⟨va, vc, rfl⟩ := hF.lenS hE
    have B1 := Lib.hid hB
    clear hF hE hB RW
    go_wp2_with fail
    go_ret2
    exact ⟨rfl, B1.out⟩
  · have HD : Hid (hitDOf a b = 0) := Lib.hid (by unfold hitDOf; rw [if_neg hc])
    rw [HD.out]
    generalize hcOf a b = c at *
    clear HD
    go_enter Try.func12, Try.ntmps12
    go_wp2_with fail
    refine CD.out.mono ?_
    rintro e w1 ⟨rfl, rfl⟩
    clear CD
    go_wp2_with fail
    go_ret2
    exact ⟨rfl, Below.refl _ _⟩

set_option maxHeartbeats 1000000 in
theorem implHitD (a b : Int) (w : World) : Calls Try.prog 13 #[.int .i64 a, .int .i64 b] w (SaysV (.tuple #[.int .i64 (hitDOf a b), .int .i64 (hcOf a b)]) w) := by
  have CD := Lib.hid (hitMonomials_any a b w)
  unfold HmPost at CD
  by_cases hc : hcOf a b = 0
  · obtain ⟨f, d, hf, hd, ea, eb, hcn, _⟩ := hc_zero hc
    have RW := Lib.hid (fun w => hitSpaceOf_any f d a hf (by omega) hd hcn w)
    have HD : Hid (hitDOf a b = ((hitR f d).length : Int)) := Lib.hid (by unfold hitDOf; rw [if_pos hc, ea, eb]; simp)
    rw [hc] at CD
    rw [HD.out, hc]
    generalize hmOf a b = L at *
    subst eb
    have hl : (hitR f d).length ≤ 1000 := by
      have := (hitTo_ok hf hd hcn 6).2
      unfold hitR; omega
    clear hc hcn ea hf hd HD
    generalize hitR f d = R at *
    go_enter Try.func13, Try.ntmps13
    go_wp2_with fail
    refine CD.out.mono ?_
    rintro e w1 ⟨u, rfl, ho, hb⟩
    have B0 := Lib.hid hb
    clear CD ho hb
    go_wp2_with fail
    refine (RW.out _).mono ?_
    rintro e w2 ⟨V, zs, rfl, hF, hE, hB⟩
    obtain ⟨va, vc, rfl⟩ := hF.lenS hE
    have B1 := Lib.hid (B0.out.step1 hB)
    clear hF hE hB RW
    go_wp2_with fail
    go_ret2
    exact ⟨rfl, B1.out⟩
  · have HD : Hid (hitDOf a b = 0) := Lib.hid (by unfold hitDOf; rw [if_neg hc])
    rw [HD.out]
    generalize hcOf a b = c at *
    generalize hmOf a b = L at *
    clear HD
    go_enter Try.func13, Try.ntmps13
    go_wp2_with fail
    refine CD.out.mono ?_
    rintro e w1 ⟨u, rfl, ho, hb⟩
    have B0 := Lib.hid hb
    clear CD ho hb
    go_wp2_with fail
    go_ret2
    exact ⟨rfl, B0.out⟩
theorem HitDimension_both (a : Int) (wa : (Lit.int .i64 a).wf = true) (b : Int) (wb : (Lit.int .i64 b).wf = true) : ∃ x c : Int,
    (∀ w, Calls Try.prog 12 #[.int .i64 a, .int .i64 b] w (SaysV (.tuple #[.int .i64 x, .int .i64 c]) w)) ∧
    (∀ w, Calls Try.prog 13 #[.int .i64 a, .int .i64 b] w (SaysV (.tuple #[.int .i64 x, .int .i64 c]) w)) :=
  ⟨_, _, fun w => specHitD a b w, fun w => implHitD a b w⟩

set_option maxHeartbeats 1000000 in
theorem specCohitD (a b : Int) (w : World) : Calls Try.prog 14 #[.int .i64 a, .int .i64 b] w (SaysV (.tuple #[.int .i64 (cohOf a b), .int .i64 (hcOf a b)]) w) := by
  have CD := Lib.hid (l09Code_any a b w)
  by_cases hc : hcOf a b = 0
  · obtain ⟨f, d, hf, hd, ea, eb, hcn, _⟩ := hc_zero hc
    have RW := Lib.hid (fun w => l09Rows_any f d a hf (by omega) hd hcn w)
    have CNT := Lib.hid (fun w => l09Count_any f d hf hd w)
    rw [← ea] at CNT
    have HD : Hid (cohOf a b = ((cn f d : Int) - ((hitR f d).length : Int))) := Lib.hid (by unfold cohOf; rw [if_pos hc, ea, eb]; simp)
    rw [hc] at CD
    rw [HD.out, hc]
    subst eb
    have hl : (hitR f d).length ≤ 1000 := by
      have := (hitTo_ok hf hd hcn 6).2
      unfold hitR; omega
    clear hc ea hf hd HD
    generalize hitR f d = R at *
    generalize cn f d = c at *
    have hw1 : wrap64 ((c : Int) - (R.length : Int)) = (c : Int) - (R.length : Int) := wrap_sm (by omega) (by omega)
    go_enter Try.func14, Try.ntmps14
    go_wp2_with fail
    refine CD.out.mono ?_
    rintro e w1 ⟨rfl, rfl⟩
    clear CD
    go_wp2_with fail
    refine (CNT.out _).mono ?_
    rintro e w1 ⟨rfl, rfl⟩
    clear CNT
    go_wp2_with fail
    refine (RW.out _).mono ?_
    rintro e w1 ⟨V, zs, rfl, hF, hE, hB⟩
    obtain ⟨va, vc, rfl⟩ := hF.lenS hE
    have B1 := Lib.hid hB
    clear hF hE hB RW
    go_wp2_with fail
    go_ret2
    exact ⟨rfl, B1.out⟩
  · have HD : Hid (cohOf a b = 0) := Lib.hid (by unfold cohOf; rw [if_neg hc])
    rw [HD.out]
    generalize hcOf a b = c at *
    clear HD
    go_enter Try.func14, Try.ntmps14
    go_wp2_with fail
    refine CD.out.mono ?_
    rintro e w1 ⟨rfl, rfl⟩
    clear CD
    go_wp2_with fail
    go_ret2
    exact ⟨rfl, Below.refl _ _⟩

set_option maxHeartbeats 1000000 in
theorem implCohitD (a b : Int) (w : World) : Calls Try.prog 15 #[.int .i64 a, .int .i64 b] w (SaysV (.tuple #[.int .i64 (cohOf a b), .int .i64 (hcOf a b)]) w) := by
  have CD := Lib.hid (hitMonomials_any a b w)
  unfold HmPost at CD
  by_cases hc : hcOf a b = 0
  · obtain ⟨f, d, hf, hd, ea, eb, hcn, em⟩ := hc_zero hc
    have RW := Lib.hid (fun w => hitSpaceOf_any f d a hf (by omega) hd hcn w)
    have HD : Hid (cohOf a b = ((cn f d : Int) - ((hitR f d).length : Int))) := Lib.hid (by unfold cohOf; rw [if_pos hc, ea, eb]; simp)
    rw [hc, em] at CD
    rw [HD.out, hc]
    subst eb
    have hl : (hitR f d).length ≤ 1000 := by
      have := (hitTo_ok hf hd hcn 6).2
      unfold hitR; omega
    have ML : Hid ((ms f d []).length = cn f d) := Lib.hid (ms_cn f d [])
    clear hc ea hf hd HD em
    generalize hitR f d = R at *
    generalize cn f d = c at *
    generalize ms f d [] = L at *
    have hw1 : wrap64 ((c : Int) - (R.length : Int)) = (c : Int) - (R.length : Int) := wrap_sm (by omega) (by omega)
    have hw2 : IntKind.i64.wrap ((c : Int) - (R.length : Int)) = (c : Int) - (R.length : Int) := by rw [IntKind.wrap_i64]; omega
    go_enter Try.func15, Try.ntmps15
    go_wp2_with fail
    refine CD.out.mono ?_
    rintro e w1 ⟨u, rfl, ho, hb⟩
    obtain ⟨ua, uc, rfl⟩ := own_slc ho
    rw [List.length_map, List.length_map, ML.out] at *
    have B0 := Lib.hid hb
    clear CD ho hb
    go_wp2_with fail
    refine (RW.out _).mono ?_
    rintro e w2 ⟨V, zs, rfl, hF, hE, hB⟩
    obtain ⟨va, vc, rfl⟩ := hF.lenS hE
    have B1 := Lib.hid (B0.out.step1 hB)
    clear hF hE hB RW
    go_wp2_with fail
    go_ret2
    exact ⟨rfl, B1.out⟩
  · have HD : Hid (cohOf a b = 0) := Lib.hid (by unfold cohOf; rw [if_neg hc])
    rw [HD.out]
    generalize hcOf a b = c at *
    generalize hmOf a b = L at *
    clear HD
    go_enter Try.func15, Try.ntmps15
    go_wp2_with fail
    refine CD.out.mono ?_
    rintro e w1 ⟨u, rfl, ho, hb⟩
    have B0 := Lib.hid hb
    clear CD ho hb
    go_wp2_with fail
    go_ret2
    exact ⟨rfl, B0.out⟩
theorem CohitDimension_both (a : Int) (wa : (Lit.int .i64 a).wf = true) (b : Int) (wb : (Lit.int .i64 b).wf = true) : ∃ x c : Int,
    (∀ w, Calls Try.prog 14 #[.int .i64 a, .int .i64 b] w (SaysV (.tuple #[.int .i64 x, .int .i64 c]) w)) ∧
    (∀ w, Calls Try.prog 15 #[.int .i64 a, .int .i64 b] w (SaysV (.tuple #[.int .i64 x, .int .i64 c]) w)) :=
  ⟨_, _, fun w => specCohitD a b w, fun w => implCohitD a b w⟩
end Go.Proofs.Ytggebkcmokpcmaa
end
section
namespace Go.Proofs.Ytggebkcmokpcmaa
open Go.RowKit Go.Proofs.Ytggebkcmokpcmaa.Pl
set_option linter.unusedVariables false
set_option maxRecDepth 100000

/-- A greatest monomial of the first j rows. -/
def grB (R : List (List (List Int))) (x : List Int) (j : Nat) : Bool := (R.take j).any fun r => decide (lastL r = x)
def adB (R : List (List (List Int))) (x : List Int) : Bool := R.any fun r => decide (lastL r = x)
def adL (R : List (List (List Int))) (L : List (List Int)) : List (List Int) := L.filter fun x => !(adB R x)
theorem grB_all (R : List (List (List Int))) (x : List Int) : grB R x R.length = adB R x := by unfold grB adB; rw [List.take_length]
theorem grB_step (R : List (List (List Int))) (x : List Int) (j : Nat) (h : j < R.length) : grB R x (j + 1) = (grB R x j || decide (lastL R[j] = x)) := by
  unfold grB
  rw [List.take_add_one, List.getElem?_eq_getElem h, Option.toList_some, List.any_append]
  simp
theorem adL_step (R : List (List (List Int))) (L : List (List Int)) (i : Nat) (h : i < L.length) : adL R (L.take (i + 1)) = adL R (L.take i) ++ if adB R L[i] then [] else [L[i]] := by
  unfold adL
  rw [List.take_add_one, List.getElem?_eq_getElem h, Option.toList_some, List.filter_append]
  cases e : adB R L[i] <;> simp [List.filter, e]

structure AdJ (w w1 : World) (LV : Value) (LS : Nat → Value) (L : List (List Int)) (S : Value) (US : Nat → Value) (acc : List (List Int)) (wr : World) : Prop where
  b1 : Below w1.heap.size w1 wr
  lo : w.heap.size ≤ w1.heap.size
  bw : Below w.heap.size w wr
  lst : FamL wr w1.heap.size LV LS L
  out : FamL wr w1.heap.size S US acc
  ap : LV.ownBlock = none ∨ LV.ownBlock ≠ S.ownBlock
theorem AdJ.up {w w1 wr w' : World} {LV S : Value} {LS US : Nat → Value} {L acc : List (List Int)} (h : AdJ w w1 LV LS L S US acc wr) (b : Below wr.heap.size wr w') : AdJ w w1 LV LS L S US acc w' := ⟨h.b1.step1 b, h.lo, h.bw.step1 b, h.lst.below b, h.out.below b, h.ap⟩
theorem i64_ne_S : 2 ≠ 42 := by decide
theorem AdJ.push {w w1 wr w5 w8 : World} {LV S V8 v : Value} {LS US : Nat → Value} {L acc : List (List Int)} {x : List Int} (h : AdJ w w1 LV LS L S US acc wr) (b5 : Below wr.heap.size wr w5)
    (hv : wr.ownsRow w1.heap.size 2 1 v x.length (x.map (Value.int .i64))) (ho : w8.ownsRow w1.heap.size 42 1 V8 (acc.length + 1) ((List.range acc.length).map US ++ [v])) (hg : w5.grownBy w8 S.ownBlock)
    (hn : V8.ownBlock = S.ownBlock ∨ V8.ownBlock = some w5.heap.size) : AdJ w w1 LV LS L V8 (ext US acc.length v) (acc ++ [x]) w8 := by
  have h5 := h.up b5
  have g8 : Below w1.heap.size w5 w8 := grown_below h5.b1.size h5.out.out hg
  refine ⟨below_trans h5.b1 g8, h.lo, below_trans h5.bw (grown_below h5.bw.size (own_base h5.out.out h.lo) hg), ⟨h5.lst.out.kept hg h.ap, fun i hi => own_grownT (h5.lst.inn i hi) h5.out.out hg i64_ne_S⟩, ⟨?_, fun i hi => ?_⟩, ?_⟩
  · rw [List.length_append, List.length_singleton, ext_map]; exact ho
  · rw [List.length_append, List.length_singleton] at hi
    by_cases hlt : i < acc.length
    · have e1 : rowsOf (acc ++ [x]) i = rowsOf acc i := by unfold rowsOf; rw [List.getElem?_append_left hlt]
      rw [e1, ext, if_pos hlt]
      exact own_grownT (h5.out.inn i hlt) h5.out.out hg i64_ne_S
    · have e0 : i = acc.length := by omega
      subst e0
      have e1 : rowsOf (acc ++ [x]) acc.length = x := by unfold rowsOf; rw [List.getElem?_append_right (Nat.le_refl _), Nat.sub_self]; rfl
      rw [e1, ext, if_neg (Nat.lt_irrefl _)]
      exact own_grownT (own_below hv b5) h5.out.out hg i64_ne_S
  · rcases hn with e | hn
    · rw [e]; exact h.ap
    · cases e1 : LV.ownBlock with
      | none => exact .inl rfl
      | some k =>
        refine .inr fun e2 => ?_
        have h1 := (h5.lst.out.lt k e1).2
        rw [hn] at e2
        injection e2 with e3
        omega

set_option maxHeartbeats 8000000 in
theorem specAdm_any (f d : Nat) (k : Int) (hf : f < 4) (hk : k = ((f + 1 : Nat) : Int)) (hd : d ≤ 40) (hc : cn f d ≤ 100) (w : World) (CD : Hid (∀ w, Calls Try.prog 42 #[.int .i64 k, .int .i64 (d : Int)] w fun e w' => e = .returned (.int .i64 0) ∧ w = w')) :
    Calls Try.prog 21 #[.int .i64 k, .int .i64 (d : Int)] w (SpecRes w 0 (adL (hitR f d) (ms f d []))) := by
  obtain ⟨i1, hj1, hy0, hy1, hy2⟩ := info_parts Try.infoS
  have RW := Lib.hid (fun w => l09Rows_any f d k hf (by omega) hd hc w)
  have ALL := Lib.hid (fun w => l08All_any f d k (d : Int) w (by omega) rfl (by omega) hd)
  have ROK := Lib.hid (hitTo_ok hf hd hc 6)
  have SM := Lib.hid (SmP_tm (d := d) hf hc)
  have ML : Hid ((ms f d []).length ≤ 100) := Lib.hid (by rw [ms_cn]; exact hc)
  have RK : Hid (∀ r ∈ hitR f d, r ≠ [] ∧ r.length ≤ 100) := Lib.hid (fun r hr => ⟨ROK.out.1.ne r hr, SM.out.1 _ ⟨ROK.out.1.asc r hr, ROK.out.1.all r hr⟩⟩)
  have RL : Hid ((hitR f d).length ≤ 600) := Lib.hid ROK.out.2
  clear hf hk hc ROK SM
  generalize hitR f d = R at *
  generalize ms f d [] = L at *
  go_enter Try.func21, Try.ntmps21
  go_wp2_with fail
  refine (CD.out _).mono ?_
  rintro e w0 ⟨rfl, rfl⟩
  clear CD
  go_wp2_with fail
  refine (RW.out _).mono ?_
  rintro e w1 ⟨V, zs, rfl, hF, hE, hB⟩
  have B1 := Lib.hid hB
  have FR := Lib.hid hF
  have ER := Lib.hid hE
  clear hF hE hB RW
  go_wp2_with fail
  refine (ALL.out _).mono ?_
  rintro e w3 ⟨LV, LS, rfl, hF, hB⟩
  have c0 : Below w1.heap.size w1 (w1.alloc (.cells #[] 42)) := (Below.refl _ _).alloc (Nat.le_refl _) _
  have hsz : (w1.alloc (.cells #[] 42)).heap.size = w1.heap.size + 1 := by rw [World.size_alloc]
  have J0 : Hid (AdJ w w1 LV LS L (.slice (some ⟨w1.heap.size, 0, none⟩) 0 0) (fun _ => undef) (adL R (L.take 0)) w3) := Lib.hid ⟨c0.step1 hB, B1.out.size, (B1.out.step1 c0).step1 hB, hF.base (by rw [hsz]; omega), ⟨own_below (World.ownsRow_made w1 #[] 0 (Nat.le_refl _) (Nat.zero_le _) (by simp)) hB, fun i hi => absurd hi (Nat.not_lt_zero _)⟩, by
    cases e1 : LV.ownBlock with
    | none => exact .inl rfl
    | some q =>
      refine .inr fun e2 => ?_
      have h1 := (hF.out.lt q e1).1
      simp only [Value.ownBlock, Option.some.injEq] at e2
      omega⟩
  obtain ⟨la, lc, rfl, _, hlc⟩ := hF.head
  obtain ⟨g, vcap, rfl, _⟩ := FR.out.head
  have zl : zs.length = R.length := by rw [← rzR_len, ER.out]
  have HLC := Lib.hid hlc
  have ZL := Lib.hid zl
  have RLL := RL.out
  have MLL := ML.out
  clear hF hB c0 hsz ALL hlc
  go_wp2_with fail
  go_loopw [8, 10, 11, 12] (fun S c _ _ wr => ∃ (i : Nat) (US : Nat → Value), i ≤ L.length ∧ c = .int .i64 i ∧ Hid (AdJ w w1 (.slice la L.length lc) LS L S US (adL R (L.take i)) wr)) (fun _ c _ _ _ => L.length - (intOf c).toNat)
  case atStart => exact ⟨0, _, by omega, rfl, J0⟩
  case round =>
    clear J0
    obtain ⟨i, US, hi, rfl, hJ⟩ := hrel
    by_cases hlt : i < L.length
    · have hlt' : (i : Int) < (L.length : Int) := by omega
      have AS := Lib.hid (adL_step R L i hlt)
      have FI := hJ.out.lst.inn i hlt
      have em : rowsOf L i = L[i] := by unfold rowsOf; rw [List.getElem?_eq_getElem hlt]; rfl
      rw [em] at FI
      have HFI := Lib.hid FI
      obtain ⟨la2, lc2, e2, _, hl2⟩ := hJ.out.lst.head
      cases e2
      have HL2 := Lib.hid hl2
      have IDX := Lib.hid hlt
      generalize L[i] = x at *
      clear em FI hl2
      obtain ⟨lb, rfl, hcs⟩ := HL2.out.resolve_left (by omega)
      have c1 := hcs i hlt
      have CL := Lib.hid c1
      clear hcs HL2
      go_wp2_with fail
      have K0 : Hid (Below wr.heap.size wr wr) := Lib.hid (Below.refl _ _)
      obtain ⟨wo, hwo⟩ : ∃ wo, wo = wr := ⟨_, rfl⟩
      subst hwo
      obtain ⟨gb0, hgb0⟩ : ∃ b : Bool, b = false := ⟨_, rfl⟩
      go_loopw [11, 12] (fun gr c wi => ∃ j : Nat, j ≤ R.length ∧ c = .int .i64 j ∧ gr = .bool (grB R x j) ∧ Hid (Below wo.heap.size wo wi)) (fun _ c _ => R.length - (intOf c).toNat)
      case atStart => exact ⟨0, by omega, rfl, by simp [grB], K0⟩
      case round =>
        clear K0
        obtain ⟨j, hj, rfl, rfl, hB⟩ := hrel
        by_cases hjl : j < R.length
        · have hjl' : (j : Int) < (zs.length : Int) := by have := ZL.out; omega
          have hjz : j < zs.length := by have := ZL.out; omega
          have GS := Lib.hid (grB_step R x j hjl)
          have er : zs[j].2 = R[j] := by
            have := ER.out
            subst this
            simp [rzR]
          have FRr : FamR wr (.slice (some ⟨g, 0, none⟩) zs.length vcap) zs := FR.out.below (below_trans hJ.out.b1 (hB.out.mono hJ.out.b1.size))
          have c3 := FRr.cell j hjz
          obtain ⟨VO, fo⟩ := FRr.inn zs[j] (List.getElem_mem hjz)
          rw [er] at fo
          have RKJ := RK.out R[j] (List.getElem_mem hjl)
          obtain ⟨ob, oc, p2, ou, eo, hp2, hpe2, c4, RO⟩ := fam_last fo RKJ.1 RKJ.2
          rw [eo] at c3
          have c5 : wr.cell? ⟨lb, i, none⟩ = some (LS i) := (hB.out.cell (p := ⟨lb, i, none⟩) (World.block_lt_of_cell? wo _ CL.out)).trans CL.out
          have RX := rd_of_own (own_below HFI.out hB.out) rfl
          have LS9 := Lib.hid (fun q : Nat => l01Same_any ou (LS i) (lastL R[j]) x (wr.drewN q) (RO.drewN q) (RX.drewN q))
          have hl2 := RKJ.2
          generalize R[j] = own at *
          have hwp2 : wrap64 ((own.length : Int) - 1) = (p2 : Int) := by rw [wrap_sm (by omega) (by omega), hpe2]
          have hpl2 : (p2 : Int) < (own.length : Int) := by omega
          have hwq2 : IntKind.i64.wrap ((own.length : Int) - 1) = (p2 : Int) := by rw [IntKind.wrap_i64, hpe2]; omega
          clear FRr fo RO RX eo hpe2 er RKJ hp2
          generalize LS i = lv at *
          go_upto_region 12 with fail
          cases eg : grB R x j with
          | true =>
            have GV : Hid (grB R x (j + 1) = true) := Lib.hid (by rw [GS.out, eg]; rfl)
            have hB2 := Lib.hid (fun q : Nat => hB.out.step1 (below_drewN (Below.refl _ _) q))
            go_quiet (fail)
            go_wp2_with fail
            go_roundw
            case rel => exact ⟨j + 1, by omega, by go_num, by rw [GV.out], Lib.hid (hB2.out _)⟩
            case measure => simp [intOf]; omega
          | false =>
            have GV : Hid (grB R x (j + 1) = decide (lastL own = x)) := Lib.hid (by rw [GS.out, eg]; rfl)
            have hB2 := Lib.hid (fun q : Nat => hB.out.step1 (below_drewN (Below.refl _ _) q))
            go_quiet ((go_at_call 53; exact Calls.quiet_of (LS9.out _)))
            go_wp2_with fail
            go_roundw
            case rel => exact ⟨j + 1, by omega, by go_num, by rw [GV.out], Lib.hid (hB2.out _)⟩
            case measure => simp [intOf]; omega
        · obtain rfl : j = R.length := by omega
          have hjl' : ¬ ((R.length : Int) < (zs.length : Int)) := by have := ZL.out; omega
          rw [grB_all]
          have c5 : wr.cell? ⟨lb, i, none⟩ = some (LS i) := (hB.out.cell (p := ⟨lb, i, none⟩) (World.block_lt_of_cell? wo _ CL.out)).trans CL.out
          have J5 := Lib.hid (hJ.out.up hB.out)
          cases eg : adB R x with
          | true =>
            have AS2 : Hid (adL R (L.take (i + 1)) = adL R (L.take i)) := Lib.hid (by rw [AS.out, eg]; simp)
            rw [← AS2.out] at J5
            go_wp2_with fail
            go_roundw
            case rel => exact ⟨i + 1, US, by omega, by go_num, J5⟩
            case measure => simp [intOf]; omega
          | false =>
            have AS2 : Hid (adL R (L.take (i + 1)) = adL R (L.take i) ++ [x]) := Lib.hid (by rw [AS.out, eg]; simp)
            have LI : (adL R (L.take i)).length ≤ 100 := by
              have h1 := List.length_filter_le (fun x => !(adB R x)) (L.take i)
              have h2 : (L.take i).length ≤ L.length := by rw [List.length_take]; omega
              unfold adL
              omega
            have HV := Lib.hid (own_below HFI.out hB.out)
            obtain ⟨va, vc, ev⟩ := own_slc HV.out
            rw [ev] at c5
            have PU := Lib.hid (fun V8 w8 ho hg hn => AdJ.push (x := x) (v := LS i) (V8 := V8) (w8 := w8) J5.out ((Below.refl wr.heap.size wr).alloc (Nat.le_refl _) (.cells #[.slice va x.length vc] 42)) HV.out ho hg hn)
            rw [ev, ← AS2.out] at PU
            have E1 := Lib.hid (cell_one_new wr (Value.slice va x.length vc) 42)
            have OW := Lib.hid (J5.out.out.out.alloc (.cells #[.slice va x.length vc] 42))
            have SZ : Hid (w1.heap.size ≤ (wr.alloc (.cells #[.slice va x.length vc] 42)).heap.size) := Lib.hid (by rw [World.size_alloc]; have := J5.out.b1.size; omega)
            clear hB hJ HV HFI J5
            go_wp2_with (at_builtin; refine wpList_rows_at _ rfl _ _ rfl w1.heap.size (adL R (L.take i)).length _ _ rfl OW.out ⟨wr.heap.size, 0, none⟩ 1 1 [.slice va x.length vc] rfl E1.out rfl (by simp [Value.oneCell']) (by omega) SZ.out ?_; intro V8 w8 ho8 hg8 hl8; have I8 := Lib.hid (PU.out _ w8 ho8 hg8 hl8); clear ho8 hg8 hl8)
            go_roundw
            case rel => exact ⟨i + 1, _, by omega, by go_num, I8⟩
            case measure => simp [intOf]; omega
    · obtain rfl : i = L.length := by omega
      rw [List.take_length] at hJ
      obtain ⟨la2, lc2, e2, _, _⟩ := hJ.out.lst.head
      cases e2
      go_wp2_with fail
      go_ret2
      exact ⟨_, US, rfl, hJ.out.out.base hJ.out.lo, hJ.out.bw⟩
end Go.Proofs.Ytggebkcmokpcmaa
end
