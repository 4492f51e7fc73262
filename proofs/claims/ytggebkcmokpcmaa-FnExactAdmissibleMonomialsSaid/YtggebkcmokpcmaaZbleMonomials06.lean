/-
  Joined: HImI, HImJ, HImK.
-/
import Derived.Test.YtggebkcmokpcmaaZbleMonomials04
import Derived.Test.YtggebkcmokpcmaaZbleMonomials05
import Derived.Test.YtggebkcmokpcmaaZBHit20
section
namespace Go.Proofs.Ytggebkcmokpcmaa
open Go.RowKit Go.Proofs.Ytggebkcmokpcmaa.Pl
set_option linter.unusedVariables false
set_option maxRecDepth 100000

/-- S holds slices of monomials, each in memory that calls made. -/
structure FamY (w : World) (B : Nat) (S : Value) (zs : RwZ) : Prop where
  out : w.ownsRow B 53 1 S zs.length (zs.map fun z => z.1)
  inn : ∀ z ∈ zs, OwnY w 0 z.1 (z.2.map pwK)
theorem FamY.below {w w' : World} {B : Nat} {S : Value} {zs : RwZ} (h : FamY w B S zs) (b : Below w.heap.size w w') : FamY w' B S zs := ⟨own_below h.out b, fun z hz => own_below (h.inn z hz) b⟩
theorem FamY.base {w : World} {B B' : Nat} {S : Value} {zs : RwZ} (h : FamY w B S zs) (b : B' ≤ B) : FamY w B' S zs := ⟨own_base h.out b, h.inn⟩
theorem FamY.head {w : World} {B : Nat} {S : Value} {zs : RwZ} (h : FamY w B S zs) : ∃ a cap, S = .slice a zs.length cap ∧ (zs.length = 0 ∨ ∃ g, a = some ⟨g, 0, none⟩ ∧ ∀ i (hi : i < zs.length), w.cell? ⟨g, i, none⟩ = some zs[i].1) := by
  have ho := h.out
  rcases h.out.2 with ⟨rfl, h0⟩ | ⟨g, cap, cur, e, hb, hg, h1, h2, h3, h4⟩
  · exact ⟨none, 0, by rw [h0], .inl h0⟩
  · subst e
    refine ⟨_, cap, rfl, .inr ⟨g, rfl, fun i hi => ?_⟩⟩
    rw [ho.cellAt i (by omega), List.getElem?_map, List.getElem?_eq_getElem hi]
    rfl
/-- What P has to give. -/
def SmY (P : List Int → Prop) : Prop := (∀ T, OkT P T → T.length ≤ 100) ∧ ∀ t, P t → t.length = 4

set_option maxHeartbeats 4000000 in
theorem remainder_any (P : List Int → Prop) (S v : Value) (zs : RwZ) (T : List (List Int)) (B : Nat) (w : World) (hP : SmY P) (hS : FamY w B S zs) (hv : OwnY w 0 v (T.map pwK)) (hR : RowsOk P (rzR zs)) (hO : OkT P T) (hl : zs.length ≤ 1000) :
    Calls Try.prog 59 #[S, v] w fun e w' => ∃ u, e = .returned u ∧ OwnY w' 0 u ((remR (rzR zs) T).map pwK) ∧ Below w.heap.size w w' := by
  obtain ⟨sa, scap, rfl, hcs⟩ := hS.head
  have HS := Lib.hid hS
  have HR := Lib.hid hR
  have HO := Lib.hid hO
  have HP := Lib.hid hP
  have HC := Lib.hid hcs
  have T0 : Hid (OwnY w 0 v ((remR ((rzR zs).take 0) T).map pwK)) := Lib.hid hv
  have B0 := Lib.hid (Below.refl w.heap.size w)
  clear hS hv hR hO hP hcs
  go_enter Try.func59, Try.ntmps59
  go_wp2_with fail
  go_loopw [1, 6, 9] (fun t _ c wr => ∃ i : Nat, i ≤ zs.length ∧ c = .int .i64 i ∧ Hid (OwnY wr 0 t ((remR ((rzR zs).take i) T).map pwK)) ∧ Hid (Below w.heap.size w wr)) (fun _ _ c _ => zs.length - (intOf c).toNat)
  case atStart => exact ⟨0, by omega, rfl, T0, B0⟩
  case round =>
    clear T0 B0
    obtain ⟨i, hi, rfl, hF, hB⟩ := hrel
    by_cases hlt : i < zs.length
    · have hlt' : (i : Int) < (zs.length : Int) := by omega
      obtain ⟨g, rfl, hcell⟩ := HC.out.resolve_left (by omega)
      have hcc := hcell i hlt
      have c1 : wr.cell? ⟨g, i, none⟩ = some zs[i].1 := (hB.out.cell (p := ⟨g, i, none⟩) (World.block_lt_of_cell? w _ hcc)).trans hcc
      have fo := own_below (HS.out.inn zs[i] (List.getElem_mem hlt)) hB.out
      have hmem : zs[i].2 ∈ rzR zs := List.mem_map.2 ⟨_, List.getElem_mem hlt, rfl⟩
      have e5 : (rzR zs)[i]? = some zs[i].2 := by unfold rzR; rw [List.getElem?_map, List.getElem?_eq_getElem hlt]; rfl
      have NXT : Hid (remR ((rzR zs).take (i + 1)) T = addR (remR ((rzR zs).take i) T) zs[i].2) := Lib.hid (by rw [List.take_add_one, e5, Option.toList_some, remR_snoc])
      have hne := HR.out.ne _ hmem
      have hasc := HR.out.asc _ hmem
      have OKO : OkT P zs[i].2 := ⟨hasc, HR.out.all _ hmem⟩
      have OKT := HO.out.rem HR.out i
      have l1 := HP.out.1 _ OKT
      have l2 := HP.out.1 _ OKO
      have f1 : ∀ z ∈ remR ((rzR zs).take i) T, z.length = 4 := fun z hz => HP.out.2 z (OKT.all z hz)
      have f2 : ∀ z ∈ zs[i].2, z.length = 4 := fun z hz => HP.out.2 z (OKO.all z hz)
      have hx4 := f2 _ (lastL_mem hne)
      have MA := Lib.hid (mrg_add OKT.asc hasc)
      generalize zs[i].1 = ov at *
      generalize zs[i].2 = own at *
      generalize remR ((rzR zs).take i) T = TI at *
      have GR := Lib.hid (greatest_any ov own hne f2 wr (rdY_of_own fo f2))
      have HM := Lib.hid (fun w5 (hb : Below wr.heap.size wr w5) => hasMono_any u1 TI (lastL own) hx4 f1 w5 ((rdY_of_own hF.out f1).below hb))
      have PL : Hid (lastL own ∈ TI → ∀ w5, Below wr.heap.size wr w5 → Calls Try.prog 84 #[u1, ov] w5 (MonsRes (mrg TI own) w5)) := Lib.hid (fun hin w5 hb => plus_any u1 ov TI own w5 ((RdC.of_own hF.out f1 (List.ne_nil_of_mem hin)).below hb) ((RdC.of_own fo f2 hne).below hb) f1 f2 (by omega) (by omega))
      clear hcell hcc fo hmem e5 OKO OKT f1 f2 hx4 hne hasc
      go_wp2_with fail
      refine GR.out.mono ?_
      rintro e w5 ⟨rfl, b5⟩
      have B5 := Lib.hid b5
      clear b5 c1 GR
      generalize pwK (lastL own) = K at *
      go_wp2_with fail
      refine (HM.out w5 B5.out).mono ?_
      rintro e w6 ⟨rfl, b6⟩
      have B6 := Lib.hid (B5.out.trans (b6.mono B5.out.size))
      clear b6 HM
      by_cases hin : lastL own ∈ TI
      · have NX2 : Hid (remR ((rzR zs).take (i + 1)) T = mrg TI own) := Lib.hid (by rw [NXT.out, MA.out]; exact if_pos hin)
        have PL2 := Lib.hid (PL.out hin w6 B6.out)
        rw [decide_eq_true hin]
        clear hin PL NXT MA
        go_wp2_with fail
        refine PL2.out.mono ?_
        rintro e w7 ⟨u7, rfl, o7, b7⟩
        have O7 : Hid (OwnY w7 0 u7 ((remR ((rzR zs).take (i + 1)) T).map pwK)) := Lib.hid (by rw [NX2.out]; exact own_base o7 (Nat.zero_le _))
        have B7 := Lib.hid ((hB.out.step1 B6.out).step1 b7)
        clear o7 b7 PL2 hF hB
        go_wp2_with fail
        go_roundw
        case rel => exact ⟨i + 1, by omega, by go_num, O7, B7⟩
        case measure => simp [intOf]; omega
      · have NX2 : Hid (remR ((rzR zs).take (i + 1)) T = TI) := Lib.hid (by rw [NXT.out]; exact if_neg hin)
        rw [decide_eq_false hin]
        have O7 : Hid (OwnY w6 0 u1 ((remR ((rzR zs).take (i + 1)) T).map pwK)) := Lib.hid (by rw [NX2.out]; exact own_below hF.out B6.out)
        have B7 := Lib.hid (hB.out.step1 B6.out)
        clear hin PL NXT MA hF hB
        go_wp2_with fail
        go_roundw
        case rel => exact ⟨i + 1, by omega, by go_num, O7, B7⟩
        case measure => simp [intOf]; omega
    · obtain rfl : i = zs.length := by omega
      have e : (rzR zs).take zs.length = rzR zs := List.take_of_length_le (by unfold rzR; rw [List.length_map]; exact Nat.le_refl _)
      rw [e] at hF
      go_wp2_with fail
      go_ret
      exact ⟨_, rfl, hF.out, hB.out⟩
end Go.Proofs.Ytggebkcmokpcmaa
end
section
namespace Go.Proofs.Ytggebkcmokpcmaa
open Go.RowKit Go.Proofs.Ytggebkcmokpcmaa.Pl
set_option linter.unusedVariables false
set_option maxRecDepth 100000

set_option maxHeartbeats 1000000 in
theorem withCl_any (ov lv : Value) (own left : List (List Int)) (q : Nat) (w : World) (hc : w.cell? ⟨q, 0, none⟩ = some lv) (h1 : RdY w ov (own.map pwK)) (h2 : RdY w lv (left.map pwK)) (n1 : own ≠ []) (n2 : left ≠ []) (f1 : ∀ z ∈ own, z.length = 4) (f2 : ∀ z ∈ left, z.length = 4) :
    Calls Try.prog 96 #[ov, .pointer (some ⟨q, 0, none⟩)] w fun e w' => e = .returned (.bool (lexLt (lastL own) (lastL left))) ∧ Below w.heap.size w w' := by
  have hql := World.block_lt_of_cell? w _ hc
  have GR1 := Lib.hid (greatest_any ov own n1 f1 w.drew (h1.below (Below.refl _ _).drew))
  have GR2 := Lib.hid (fun w5 (hb : Below w.heap.size w w5) => greatest_any lv left n2 f2 w5 (h2.below hb))
  have IL := Lib.hid (fun w => isLess_any (lastL own) (lastL left) (f1 _ (lastL_mem n1)) (f2 _ (lastL_mem n2)) w)
  have CC := Lib.hid (fun w5 (hb : Below w.heap.size w w5) => (hb.cell (p := ⟨q, 0, none⟩) hql).trans hc)
  have hc0 := CC.out _ (Below.refl _ _).drew
  clear h1 h2 n1 n2 f1 f2 hql
  generalize pwK (lastL own) = K1 at *
  generalize pwK (lastL left) = K2 at *
  generalize lexLt (lastL own) (lastL left) = r at *
  go_enter Try.func96, Try.ntmps96
  go_wp2_with fail
  go_region_law (first
    | (go_simp; go_at_call 78; refine (GR2.out _ B5).mono ?_; rintro e w6 ⟨rfl, b6⟩; have B6 : Below w.heap.size w w6 := B5.step1 b6)
    | (go_simp; go_at_call 78; refine GR1.out.mono ?_; rintro e w5 ⟨rfl, b5⟩; have B5 : Below w.heap.size w w5 := belD1 b5; have c5 := CC.out w5 B5)
    | (go_simp; go_at_call 97; refine (IL.out w6).mono ?_; rintro e w7 ⟨rfl, b7⟩; have B7 : Below w.heap.size w w7 := B6.step1 b7))
  all_goals
    go_wp2_with fail
    go_ret
    exact ⟨rfl, B7⟩

/-- Where the place is. -/
theorem plc_idx (zs : RwZ) (x : List Int) (hno : ∀ r ∈ rzR zs, lastL r ≠ x) (i : Nat) (hi : i ≤ plcR (rzR zs) x) :
    (i < plcR (rzR zs) x ∧ ∃ h : i < zs.length, lexLt (lastL zs[i].2) x = false) ∨ (i = plcR (rzR zs) x ∧ ((∃ h : i < zs.length, lexLt (lastL zs[i].2) x = true) ∨ i = zs.length)) := by
  rcases plc_cases zs x i hi with ⟨h1, h2, h3⟩ | ⟨h1, ⟨h2, h3⟩ | h2⟩
  · exact .inl ⟨h1, h2, lexLt_asymm _ _ h3⟩
  · refine .inr ⟨h1, .inl ⟨h2, ?_⟩⟩
    cases e : lexLt (lastL zs[i].2) x with
    | true => rfl
    | false => exact absurd (lexLt_total _ _ h3 e).symm (hno _ (List.mem_map.2 ⟨_, List.getElem_mem h2, rfl⟩))
  · exact .inr ⟨h1, .inr h2⟩

def IxPost (n p : Nat) (w : World) (e : Ending) (w' : World) : Prop := e = .returned (.int .i64 (if p < n then (p : Int) else -1)) ∧ Below w.heap.size w w'
set_option maxHeartbeats 1000000 in
theorem indexH_any (S lv : Value) (zs : RwZ) (left : List (List Int)) (B q : Nat) (w : World) (hS : FamY w B S zs) (hc : w.cell? ⟨q, 0, none⟩ = some lv) (h2 : RdY w lv (left.map pwK)) (n2 : left ≠ []) (f2 : ∀ z ∈ left, z.length = 4) (hR : ∀ r ∈ rzR zs, r ≠ [] ∧ ∀ z ∈ r, z.length = 4) (hno : ∀ r ∈ rzR zs, lastL r ≠ lastL left) (hl : zs.length ≤ 1000) :
    Calls Try.prog 95 #[S, .func (.func 96) #[] #[.pointer (some ⟨q, 0, none⟩)]] w (IxPost zs.length (plcR (rzR zs) (lastL left)) w) := by
  obtain ⟨sa, scap, rfl, hcs⟩ := hS.head
  have hql := World.block_lt_of_cell? w _ hc
  have HC := Lib.hid hcs
  have PI := Lib.hid (plc_idx zs (lastL left) hno)
  have CL : Hid (∀ i (hi : i < zs.length) w5, Below w.heap.size w w5 → Calls Try.prog 96 #[zs[i].1, .pointer (some ⟨q, 0, none⟩)] w5 fun e w' => e = .returned (.bool (lexLt (lastL zs[i].2) (lastL left))) ∧ Below w5.heap.size w5 w') := Lib.hid (fun i hi w5 hb => by
    obtain ⟨a1, a2⟩ := hR zs[i].2 (List.mem_map.2 ⟨_, List.getElem_mem hi, rfl⟩)
    exact withCl_any _ lv _ left q w5 ((hb.cell (p := ⟨q, 0, none⟩) hql).trans hc) ((rdY_of_own (hS.inn _ (List.getElem_mem hi)) a2).below hb) (h2.below hb) a1 n2 a2 f2)
  have hpl := plcZ_le zs (lastL left)
  clear hS hc h2 n2 f2 hR hno hcs hql
  generalize plcR (rzR zs) (lastL left) = p at *
  go_enter Try.func95, Try.ntmps95
  go_wp2_with fail
  go_loopw [5, 8] (fun _ c wr => ∃ i : Nat, i ≤ p ∧ c = .int .i64 i ∧ Hid (Below w.heap.size w wr)) (fun _ c _ => zs.length + 1 - (intOf c).toNat)
  case atStart => exact ⟨0, by omega, rfl, Lib.hid (Below.refl _ _)⟩
  case round =>
    obtain ⟨i, hi, rfl, hB⟩ := hrel
    rcases PI.out i hi with ⟨hip, hin, hlx⟩ | ⟨hip, ⟨hin, hlx⟩ | hin⟩
    · have hlt' : (i : Int) < (zs.length : Int) := by omega
      obtain ⟨g, rfl, hcell⟩ := HC.out.resolve_left (by omega)
      have hcc := hcell i hin
      have c1 : wr.cell? ⟨g, i, none⟩ = some zs[i].1 := (hB.out.cell (p := ⟨g, i, none⟩) (World.block_lt_of_cell? w _ hcc)).trans hcc
      have C1 := Lib.hid (CL.out i hin wr hB.out)
      rw [hlx] at C1
      clear hcell hcc hlx
      generalize zs[i].1 = ov at *
      go_wp2_with fail
      refine C1.out.mono ?_
      rintro e w5 ⟨rfl, b5⟩
      have B5 := Lib.hid (hB.out.step1 b5)
      clear b5 hB c1 C1
      go_wp2_with fail
      go_roundw
      case rel => exact ⟨i + 1, by omega, by go_num, B5⟩
      case measure => simp [intOf]; omega
    · have hlt' : (i : Int) < (zs.length : Int) := by omega
      obtain ⟨g, rfl, hcell⟩ := HC.out.resolve_left (by omega)
      have hcc := hcell i hin
      have c1 : wr.cell? ⟨g, i, none⟩ = some zs[i].1 := (hB.out.cell (p := ⟨g, i, none⟩) (World.block_lt_of_cell? w _ hcc)).trans hcc
      have C1 := Lib.hid (CL.out i hin wr hB.out)
      rw [hlx] at C1
      have RT : Hid ((if p < zs.length then (p : Int) else -1) = (i : Int)) := Lib.hid (by rw [if_pos (by omega), hip])
      clear hcell hcc hlx hip
      generalize zs[i].1 = ov at *
      go_wp2_with fail
      refine C1.out.mono ?_
      rintro e w5 ⟨rfl, b5⟩
      have B5 := Lib.hid (hB.out.step1 b5)
      clear b5 hB c1 C1
      go_wp2_with fail
      go_ret
      exact ⟨congrArg (fun z => Ending.returned (.int .i64 z)) RT.out.symm, B5.out⟩
    · have hlt' : ¬ (i : Int) < (zs.length : Int) := by omega
      have RT : Hid ((if p < zs.length then (p : Int) else -1) = -1) := Lib.hid (by rw [if_neg (by omega)])
      clear hip hin
      go_wp2_with fail
      go_ret
      exact ⟨congrArg (fun z => Ending.returned (.int .i64 z)) RT.out.symm, hB.out⟩
end Go.Proofs.Ytggebkcmokpcmaa
end
section
namespace Go.Proofs.Ytggebkcmokpcmaa
open Go.RowKit Go.Proofs.Ytggebkcmokpcmaa.Pl
set_option linter.unusedVariables false
set_option maxRecDepth 100000

theorem own_grownT {w w' : World} {B C n m s z : Nat} {v S : Value} {e f : TypeId} {xs ys : List Value} (h : w.ownsRow B e s v n xs) (o : w.ownsRow C f z S m ys) (k : w.grownBy w' S.ownBlock) (hne : e ≠ f) : w'.ownsRow B e s v n xs := by
  refine h.kept k ?_
  rcases h.2 with ⟨rfl, _⟩ | ⟨g, cap, cur, rfl, _, hg, _⟩
  · exact .inl rfl
  · refine .inr fun e3 => ?_
    rcases o.2 with ⟨rfl, _⟩ | ⟨q, cap2, cur2, rfl, _, hg2, _⟩
    · cases e3
    · simp only [Value.ownBlock, Option.some.injEq] at e3
      subst e3
      rw [hg] at hg2
      simp at hg2
      exact hne hg2.2
theorem pw_ne_pp : 71 ≠ 53 := by decide
theorem grown_below {w w' : World} {B n s : Nat} {S : Value} {e : TypeId} {xs : List Value} (hB : B ≤ w.heap.size) (o : w.ownsRow B e s S n xs) (k : w.grownBy w' S.ownBlock) : Below B w w' :=
  ⟨k.os, k.tape, k.output, k.size, fun i hi => k.block i (by omega) fun e => by
    have := (o.lt i e.symm).1
    omega⟩
theorem own_slc {w : World} {B n s : Nat} {v : Value} {e : TypeId} {xs : List Value} (h : w.ownsRow B e s v n xs) : ∃ a cap, v = .slice a n cap := by
  rcases h.2 with ⟨rfl, rfl⟩ | ⟨g, cap, cur, rfl, _⟩
  · exact ⟨_, _, rfl⟩
  · exact ⟨_, _, rfl⟩
theorem rzR_len (zs : RwZ) : (rzR zs).length = zs.length := by unfold rzR; rw [List.length_map]
theorem FamY.same {w w' : World} {B : Nat} {S : Value} {zs : RwZ} (h : FamY w B S zs) (o : w'.ownsRow B 53 1 S zs.length (zs.map fun z => z.1)) (i : ∀ z ∈ zs, OwnY w' 0 z.1 (z.2.map pwK)) : FamY w' B S zs := ⟨o, i⟩
theorem FamY.ins {w w' : World} {B : Nat} {S S' u : Value} {zs : RwZ} {x : List (List Int)} {a : Nat} (h : FamY w B S zs) (hu : OwnY w 0 u (x.map pwK)) (ha : a ≤ zs.length) (o : w'.ownsRow B 53 1 S' (zs.length + 1) ((zs.map fun z => z.1).take a ++ u :: (zs.map fun z => z.1).drop a)) (k : w.grownBy w' S.ownBlock) : FamY w' B S' (zs.take a ++ (u, x) :: zs.drop a) := by
  have hl : (zs.take a ++ (u, x) :: zs.drop a).length = zs.length + 1 := by simp; omega
  have hm : (zs.take a ++ (u, x) :: zs.drop a).map (fun z => z.1) = (zs.map fun z => z.1).take a ++ u :: (zs.map fun z => z.1).drop a := by simp [List.map_take, List.map_drop]
  refine ⟨by rw [hl, hm]; exact o, fun z hz => ?_⟩
  rcases List.mem_append.1 hz with h1 | h1
  · exact own_grownT (h.inn z (List.mem_of_mem_take h1)) h.out k pw_ne_pp
  · rcases List.mem_cons.1 h1 with rfl | h1
    · exact own_grownT hu h.out k pw_ne_pp
    · exact own_grownT (h.inn z (List.mem_of_mem_drop h1)) h.out k pw_ne_pp

theorem bsRunPP (w : World) (a : Option Addr) (n cap : Nat) : (Instr.buildSlice 56 1 #[(0, .slice a n cap)]).run Try.prog w = .ok (.slice (some ⟨w.heap.size, 0, none⟩) 1 1) (w.alloc (.cells #[.slice a n cap] 53)) := by
  first
    | kernel_rfl
    | (simp [Instr.buildSlice]; done)
def WithPost (B : Nat) (S : Value) (R : List (List (List Int))) (T : List (List Int)) (w : World) (e : Ending) (w' : World) : Prop := ∃ S' zs', e = .returned S' ∧ FamY w' B S' zs' ∧ rzR zs' = withR R T ∧ w.grownBy w' S.ownBlock

set_option maxHeartbeats 4000000 in
theorem with_any (P : List Int → Prop) (S v : Value) (zs : RwZ) (T : List (List Int)) (B : Nat) (w : World) (hP : SmY P) (hS : FamY w B S zs) (hB : B ≤ w.heap.size) (hv : OwnY w 0 v (T.map pwK)) (hR : RowsOk P (rzR zs)) (hO : OkT P T) (hl : zs.length ≤ 1000) :
    Calls Try.prog 74 #[S, v] w (WithPost B S (rzR zs) T w) := by
  obtain ⟨sa, scap, rfl, _⟩ := hS.head
  have RM := Lib.hid (remainder_any P _ v zs T B w hP hS hv hR hO hl)
  have HS := Lib.hid hS
  have OR := Lib.hid (hO.remAll hR)
  have NO := Lib.hid (remR_no (rzR zs) T hR hO.asc)
  have HR := Lib.hid hR
  have HP := Lib.hid hP
  have HB := Lib.hid hB
  clear hS hv hR hO hP hB
  go_enter Try.func74, Try.ntmps74
  go_wp2_with fail
  refine RM.out.mono ?_
  rintro e w5 ⟨u, rfl, ho, b⟩
  obtain ⟨ua, ucap, rfl⟩ := own_slc ho
  have OU := Lib.hid ho
  have B5 := Lib.hid b
  clear ho b RM
  by_cases hL : remR (rzR zs) T = []
  · have WZ : Hid (withR (rzR zs) T = rzR zs) := Lib.hid (by unfold withR; rw [if_pos hL])
    have hl0 : ((remR (rzR zs) T).map pwK).length = 0 := by rw [hL]; rfl
    have hl1 : (((remR (rzR zs) T).map pwK).length : Int) = 0 := by rw [hl0]; rfl
    have BA : Hid (Below w.heap.size w (w5.alloc (Obj.cells #[Value.slice ua ((remR (rzR zs) T).map pwK).length ucap] 53))) := Lib.hid (B5.out.alloc B5.out.size _)
    clear NO OR
    generalize ((remR (rzR zs) T).map pwK).length = len at *
    subst hl0
    go_wp2_with fail
    go_ret
    exact ⟨_, _, rfl, HS.out.below BA.out, WZ.out.symm, ⟨BA.out.os, BA.out.tape, BA.out.output, BA.out.size, fun i hi _ => BA.out.block i hi⟩⟩
  · have WZ : Hid (withR (rzR zs) T = insR (rzR zs) (remR (rzR zs) T)) := Lib.hid (by unfold withR; rw [if_neg hL])
    have RI := Lib.hid (rzR_ins zs (Value.slice ua ((remR (rzR zs) T).map pwK).length ucap) (remR (rzR zs) T))
    have hpos : ((remR (rzR zs) T).map pwK).length ≠ 0 := by
      rw [List.length_map]
      exact fun e => hL (List.eq_nil_of_length_eq_zero e)
    have f4 : ∀ z ∈ remR (rzR zs) T, z.length = 4 := fun z hz => HP.out.2 z (OR.out.all z hz)
    have hR4 : ∀ r ∈ rzR zs, r ≠ [] ∧ ∀ z ∈ r, z.length = 4 := fun r hr => ⟨HR.out.ne r hr, fun z hz => HP.out.2 z (HR.out.all r hr z hz)⟩
    have hno : ∀ r ∈ rzR zs, lastL r ≠ lastL (remR (rzR zs) T) := fun r hr e => NO.out r hr (e ▸ lastL_mem hL)
    have hple := plcZ_le zs (lastL (remR (rzR zs) T))
    have IX := Lib.hid (fun lv q w (h1 : FamY w B (.slice sa zs.length scap) zs) (h2 : w.cell? ⟨q, 0, none⟩ = some lv) (h3 : RdY w lv ((remR (rzR zs) T).map pwK)) => indexH_any _ lv zs _ B q w h1 h2 h3 hL f4 hR4 hno hl)
    have RD := Lib.hid (fun w (h : OwnY w 0 (Value.slice ua ((remR (rzR zs) T).map pwK).length ucap) ((remR (rzR zs) T).map pwK)) => rdY_of_own h f4)
    clear NO OR HR HP f4 hR4 hno
    generalize remR (rzR zs) T = L at *
    generalize plcR (rzR zs) (lastL L) = p at *
    generalize hlen : (L.map pwK).length = len at *
    generalize hKS : L.map pwK = KS at *
    have hlp : ¬ ((len : Int) = 0) := by omega
    have b0 : Below w5.heap.size w5 (w5.alloc (Obj.cells #[Value.slice ua len ucap] 53)) := (Below.refl _ _).alloc (Nat.le_refl _) _
    have BA := Lib.hid (B5.out.step1 b0)
    have OUA := Lib.hid (own_below OU.out b0)
    have cA := Lib.hid (cell_of_row _ w5.heap.size 0 #[Value.slice ua len ucap] 53 (0, 0) (heap_alloc_new w5 _))
    have C1 := Lib.hid (IX.out (Value.slice ua len ucap) w5.heap.size (w5.alloc (Obj.cells #[Value.slice ua len ucap] 53)) (HS.out.below BA.out) cA.out (RD.out _ OUA.out))
    have hqA : w5.heap.size < (w5.alloc (Obj.cells #[Value.slice ua len ucap] 53)).heap.size := by rw [World.size_alloc]; omega
    have BS := fun w => bsRunPP w ua len ucap
    have ONE : Hid (∀ u ∈ zs.map (fun z => z.1), u.oneCell' = true) := Lib.hid (fun u hu => by
      obtain ⟨z, hz, rfl⟩ := List.mem_map.1 hu
      obtain ⟨a, c, e⟩ := own_slc (HS.out.inn z hz)
      rw [e]; rfl)
    have FIN : Hid (∀ w6 wB S' w8, Below (w5.alloc (Obj.cells #[Value.slice ua len ucap] 53)).heap.size (w5.alloc (Obj.cells #[Value.slice ua len ucap] 53)) w6 → wB = w6.alloc (.cells #[Value.slice ua len ucap] 53) → wB.grownBy w8 (Value.slice sa zs.length scap).ownBlock → w8.ownsRow B 53 1 S' (zs.length + 1) ((zs.map fun z => z.1).take p ++ Value.slice ua len ucap :: (zs.map fun z => z.1).drop p) → WithPost B (Value.slice sa zs.length scap) (rzR zs) T w (.returned S') w8) := Lib.hid (fun w6 wB S' w8 b6 e6 k8 o8 => by
      have b7 : Below w6.heap.size w6 wB := by rw [e6]; exact (Below.refl _ _).alloc (Nat.le_refl _) _
      have B7 := (BA.out.step1 b6).step1 b7
      have f7 := HS.out.below B7
      have u7 := own_below (own_below OUA.out b6) b7
      refine ⟨S', _, rfl, f7.ins (x := L) ?_ hple o8 k8, RI.out.trans WZ.out.symm, ?_⟩
      · rw [hKS]
        exact u7
      · exact ⟨k8.os.trans B7.os, k8.tape.trans B7.tape, k8.output.trans B7.output, Nat.le_trans B7.size k8.size, fun i hi hne => (k8.block i (Nat.lt_of_lt_of_le hi B7.size) hne).trans (B7.block i hi)⟩)
    have INS : Hid (∀ w6, Below (w5.alloc (Obj.cells #[Value.slice ua len ucap] 53)).heap.size (w5.alloc (Obj.cells #[Value.slice ua len ucap] 53)) w6 → ∀ i, i = p → Calls Try.prog 98 #[Value.slice sa zs.length scap, .int .i64 (i : Int), .slice (some ⟨w6.heap.size, 0, none⟩) 1 1] (w6.alloc (.cells #[Value.slice ua len ucap] 53)) (WithPost B (Value.slice sa zs.length scap) (rzR zs) T w)) := Lib.hid (fun w6 b6 i hi => by
      subst hi
      have b7 : Below w6.heap.size w6 (w6.alloc (.cells #[Value.slice ua len ucap] 53)) := (Below.refl _ _).alloc (Nat.le_refl _) _
      have f6 := HS.out.below (BA.out.step1 b6)
      have f7 := f6.below b7
      refine (insert_any _ (Value.slice ua len ucap) zs.length i B w6.heap.size _ _ f7.out hple (by omega) (Nat.le_trans HB.out (Nat.le_trans (BA.out.step1 b6).size b7.size)) (heap_alloc_new w6 _) ?_ rfl ONE.out).mono ?_
      · intro e
        have := (f6.out.lt _ e).2
        omega
      · rintro e w8 ⟨S', rfl, o8, k8⟩
        exact FIN.out w6 _ S' w8 b6 rfl k8 o8)
    have c6 : Hid (∀ w6, Below (w5.alloc (Obj.cells #[Value.slice ua len ucap] 53)).heap.size (w5.alloc (Obj.cells #[Value.slice ua len ucap] 53)) w6 → w6.cell? ⟨w5.heap.size, 0, none⟩ = some (Value.slice ua len ucap)) := Lib.hid (fun w6 b6 => (b6.cell (p := ⟨w5.heap.size, 0, none⟩) hqA).trans cA.out)
    clear FIN ONE IX RD RI WZ HS HB OU OUA BA B5 cA b0 hqA
    by_cases hp : p < zs.length
    · have hp0 : ¬ ((p : Int) < 0) := by omega
      unfold IxPost at C1
      rw [if_pos hp] at C1
      go_wp2_with fail
      refine C1.out.mono ?_
      rintro e w6 ⟨rfl, b6⟩
      have c7 := c6.out w6 b6
      have I7 := Lib.hid (INS.out w6 b6 p rfl)
      clear C1 INS b6 c6
      go_wp2_with fail
      refine I7.out.mono ?_
      intro e w8 h8
      have H8 := Lib.hid h8
      obtain ⟨S', zs', rfl, -⟩ := h8
      go_wp2_with fail
      go_ret
      exact H8.out
    · have hpn : p = zs.length := by omega
      unfold IxPost at C1
      rw [if_neg hp] at C1
      go_wp2_with fail
      refine C1.out.mono ?_
      rintro e w6 ⟨rfl, b6⟩
      have c7 := c6.out w6 b6
      have I7 := Lib.hid (INS.out w6 b6 zs.length hpn.symm)
      clear C1 INS b6 c6
      go_wp2_with fail
      refine I7.out.mono ?_
      intro e w8 h8
      have H8 := Lib.hid h8
      obtain ⟨S', zs', rfl, -⟩ := h8
      go_wp2_with fail
      go_ret
      exact H8.out
end Go.Proofs.Ytggebkcmokpcmaa
end
