/-
  Joined: HSpA, HSpB.
-/
import Derived.Test.YtggebkcmokpcmaaZBHit39
import Derived.Test.YtggebkcmokpcmaaZBHit07
import Derived.Test.YtggebkcmokpcmaaZBHit24
import Derived.Test.YtggebkcmokpcmaaZBHit42
import Derived.Test.YtggebkcmokpcmaaZBHit37
import Derived.Test.YtggebkcmokpcmaaZBHit15
import Derived.Test.YtggebkcmokpcmaaZBHit27
import Derived.Deep.DeepCutAuto
import Derived.BigQuiet
import Derived.Deep.QuietTactic
section
namespace Go.Proofs.Ytggebkcmokpcmaa
open Go.RowKit Go.Proofs.Ytggebkcmokpcmaa.Pl Go.Proofs.Ytggebkcmokpcmaa.Ml
set_option linter.unusedVariables false
set_option maxRecDepth 100000

/-- The number, step by step. -/
def cnA (d : Nat) : Nat → Nat
  | 0 => 1
  | j + 1 => cnA d j * (d + (j + 1)) / (j + 1)
theorem cnA_cn : ∀ f, f < 4 → ∀ d, d < 41 → cnA d f = cnF f d := by decide +kernel
theorem cnA_small : ∀ f, f < 4 → ∀ d, d < 41 → cnA d f ≤ 20000 := by decide +kernel

theorem l09Count_any (f d : Nat) (hf : f < 4) (hd : d ≤ 40) (w : World) :
    Calls Try.prog 46 #[.int .i64 ((f + 1 : Nat) : Int), .int .i64 (d : Int)] w fun e w' => e = .returned (.int .i64 (cn f d : Int)) ∧ w = w' := by
  have HS := Lib.hid (fun j (hj : j < 4) => cnA_small j hj d (by omega))
  have HE : Hid (cnA d f = cn f d) := Lib.hid (by rw [cnA_cn f hf d (by omega), cn_all f hf d (by omega)])
  go_enter Try.func46, Try.ntmps46
  go_wp2
  go_loop [5, 6] (fun o c => ∃ j : Nat, j ≤ f ∧ o = .int .i64 (cnA d j : Int) ∧ c = .int .i64 ((j : Int) + 1)) (fun _ c => 10 - (intOf c).toNat)
  case atStart => exact ⟨0, Nat.zero_le _, rfl, rfl⟩
  case round =>
    obtain ⟨j, hj, rfl, rfl⟩ := hrel
    by_cases hlt : j < f
    · have hlt' : (j : Int) + 1 < ((f + 1 : Nat) : Int) := by omega
      have hlt2 : (j : Int) < (f : Int) := by omega
      have hs := HS.out j (by omega)
      have hm : cnA d j * (d + (j + 1)) ≤ 20000 * 100 := Nat.mul_le_mul hs (by omega)
      have hq := HS.out (j + 1) (by omega)
      have hm2 : ((cnA d j : Int) * ((d : Int) + ((j : Int) + 1))) = ((cnA d j * (d + (j + 1)) : Nat) : Int) := by push_cast; rfl
      have ht : ((cnA d j * (d + (j + 1)) : Nat) : Int).tdiv ((j : Int) + 1) = (cnA d (j + 1) : Int) := rfl
      generalize (cnA d j * (d + (j + 1))) = y at *
      obtain ⟨q, HQ⟩ : ∃ q, Hid (cnA d (j + 1) = q) := ⟨_, Lib.hid rfl⟩
      rw [HQ.out] at hq ht
      generalize (cnA d j : Int) = a at *
      have hw1 : wrap64 ((d : Int) + ((j : Int) + 1)) = (d : Int) + ((j : Int) + 1) := wrap_sm (by omega) (by omega)
      have hw2 : wrap64 (a * ((d : Int) + ((j : Int) + 1))) = (y : Int) := by rw [hm2]; exact wrap_sm (by omega) (by omega)
      have hw3 : wrap64 (q : Int) = (q : Int) := wrap_sm (by omega) (by omega)
      have hjz : ((j : Int) + 1 == 0) = false := by rw [beq_eq_false_iff_ne]; omega
      have hj0 : ¬ (j : Int) + 1 = 0 := by omega
      clear hm hm2
      go_wp2
      go_round
      case rel => exact ⟨j + 1, by omega, by rw [HQ.out], by go_num⟩
      case measure => simp [intOf]; omega
    · obtain rfl : j = f := by omega
      rw [HE.out]
      go_wp2
      go_ret
      exact ⟨rfl, rfl⟩

/-- The code of a number of variables and a degree. -/
def hcOf (a b : Int) : Int := if moIn a b then (if cn (a.toNat - 1) b.toNat ≤ 100 then 0 else 3) else 2
theorem l09Code_any (a b : Int) (w : World) :
    Calls Try.prog 42 #[.int .i64 a, .int .i64 b] w fun e w' => e = .returned (.int .i64 (hcOf a b)) ∧ w = w' := by
  by_cases h : moIn a b
  · obtain ⟨⟨h1, h2⟩, h3, h4⟩ := id h
    obtain ⟨f, rfl⟩ : ∃ f : Nat, a = ((f + 1 : Nat) : Int) := ⟨a.toNat - 1, by omega⟩
    obtain ⟨d, rfl⟩ : ∃ d : Nat, b = (d : Int) := ⟨b.toNat, by omega⟩
    have CN := Lib.hid (l09Count_any f d (by omega) (by omega) w)
    have e1 : (((f + 1 : Nat) : Int)).toNat - 1 = f := by omega
    have e2 : ((d : Int)).toNat = d := by omega
    have I1 := Lib.hid (l01In_yes ((f + 1 : Nat) : Int) 1 4 w h1 h2)
    have I2 := Lib.hid (l01In_yes (d : Int) 0 40 w h3 h4)
    by_cases hc : cn f d ≤ 100
    · have E : Hid (hcOf ((f + 1 : Nat) : Int) (d : Int) = 0) := Lib.hid (by unfold hcOf; rw [if_pos h, e1, e2, if_pos hc])
      rw [E.out]
      generalize cn f d = c at *
      have hc' : ¬ (100 : Int) < (c : Int) := by omega
      clear h h1 h2 h3 h4 e1 e2 E
      generalize ((f + 1 : Nat) : Int) = x at *
      generalize (d : Int) = y at *
      go_enter Try.func42, Try.ntmps42
      go_wp2_with fail
      refine I1.out.mono ?_
      rintro e w' ⟨rfl, rfl⟩
      go_wp2_with fail
      refine I2.out.mono ?_
      rintro e w' ⟨rfl, rfl⟩
      go_wp2_with fail
      refine CN.out.mono ?_
      rintro e w' ⟨rfl, rfl⟩
      go_wp2_with fail
      go_ret
      exact ⟨rfl, rfl⟩
    · have E : Hid (hcOf ((f + 1 : Nat) : Int) (d : Int) = 3) := Lib.hid (by unfold hcOf; rw [if_pos h, e1, e2, if_neg hc])
      rw [E.out]
      generalize cn f d = c at *
      have hc' : (100 : Int) < (c : Int) := by omega
      clear h h1 h2 h3 h4 e1 e2 E hc
      generalize ((f + 1 : Nat) : Int) = x at *
      generalize (d : Int) = y at *
      go_enter Try.func42, Try.ntmps42
      go_wp2_with fail
      refine I1.out.mono ?_
      rintro e w' ⟨rfl, rfl⟩
      go_wp2_with fail
      refine I2.out.mono ?_
      rintro e w' ⟨rfl, rfl⟩
      go_wp2_with fail
      refine CN.out.mono ?_
      rintro e w' ⟨rfl, rfl⟩
      go_wp2_with fail
      go_ret
      exact ⟨rfl, rfl⟩
  · have E : Hid (hcOf a b = 2) := Lib.hid (by unfold hcOf; rw [if_neg h])
    rw [E.out]
    by_cases h1 : 1 ≤ a ∧ a ≤ 4
    · have I1 := Lib.hid (l01In_yes a 1 4 w h1.1 h1.2)
      have I2 := Lib.hid (l01In_no b 0 40 w (by unfold moIn at h; omega))
      clear h h1 E
      go_enter Try.func42, Try.ntmps42
      go_wp2_with fail
      refine I1.out.mono ?_
      rintro e w' ⟨rfl, rfl⟩
      go_wp2_with fail
      refine I2.out.mono ?_
      rintro e w' ⟨rfl, rfl⟩
      go_wp2_with fail
      go_ret
      exact ⟨rfl, rfl⟩
    · have I1 := Lib.hid (l01In_no a 1 4 w (by omega))
      clear h h1 E
      go_enter Try.func42, Try.ntmps42
      go_wp2_with fail
      refine I1.out.mono ?_
      rintro e w' ⟨rfl, rfl⟩
      go_wp2_with fail
      go_ret
      exact ⟨rfl, rfl⟩

/-! ### Rows of rows of lists -/
theorem rowsL_ofR (zs : List (List Int)) : rowsL (rowsOf zs) zs.length = zs := by
  unfold rowsL
  apply List.ext_getElem?
  intro i
  rw [List.getElem?_map]
  by_cases h : i < zs.length
  · rw [List.getElem?_range h, List.getElem?_eq_getElem h]
    simp [rowsOf, h]
  · rw [List.getElem?_eq_none (by simp; omega), List.getElem?_eq_none (by omega)]
    rfl
theorem mrg_add {T own : List (List Int)} (hT : Asc T) (ho : Asc own) : mrg T own = oddY (T ++ own) := by
  obtain ⟨h1, h2⟩ := mrg_spec T own hT ho
  refine oddY_eq h1 fun z => ?_
  rw [h2, par_app, par_nodup T hT.nodup, par_nodup own ho.nodup]
theorem hasB_mem (T : List (List Int)) (y : List Int) : hasB (rowsOf T) T.length y = true ↔ y ∈ T := by
  rw [hasB_true]
  constructor
  · rintro ⟨i, hi, rfl⟩
    unfold rowsOf
    rw [List.getElem?_eq_getElem hi]
    exact List.getElem_mem hi
  · intro h
    obtain ⟨i, hi, rfl⟩ := List.getElem_of_mem h
    exact ⟨i, hi, by unfold rowsOf; rw [List.getElem?_eq_getElem hi]; rfl⟩

abbrev RwZ := List (Value × List (List Int))
def rzR (zs : RwZ) : List (List (List Int)) := zs.map fun z => z.2
/-- V holds rows, each in memory that calls made. -/
structure FamR (w : World) (V : Value) (zs : RwZ) : Prop where
  sh : V ≠ .slice none 0 0
  out : w.ownsRow 0 25 1 V zs.length (zs.map fun z => z.1)
  inn : ∀ z ∈ zs, ∃ VS, FamL w 0 z.1 VS z.2
theorem FamR.below {w w' : World} {V : Value} {zs : RwZ} (h : FamR w V zs) (b : Below w.heap.size w w') : FamR w' V zs :=
  ⟨h.sh, own_below h.out b, fun z hz => by obtain ⟨VS, f⟩ := h.inn z hz; exact ⟨VS, f.below b⟩⟩
theorem FamR.head {w : World} {V : Value} {zs : RwZ} (h : FamR w V zs) : ∃ g cap, V = .slice (some ⟨g, 0, none⟩) zs.length cap ∧ zs.length ≤ cap := by
  rcases h.out.2 with ⟨e, _⟩ | ⟨g, cap, cur, e, _, _, h1, _⟩
  · exact absurd e h.sh
  · exact ⟨g, cap, e, h1⟩
theorem FamR.cell {w : World} {g cap : Nat} {zs : RwZ} (h : FamR w (.slice (some ⟨g, 0, none⟩) zs.length cap) zs) (i : Nat) (hi : i < zs.length) : w.cell? ⟨g, i, none⟩ = some zs[i].1 := by
  rw [h.out.cellAt i (by omega), List.getElem?_map, List.getElem?_eq_getElem hi]
  rfl

/-- What stays: terms in order, with P. -/
structure OkT (P : List Int → Prop) (T : List (List Int)) : Prop where
  asc : Asc T
  all : ∀ t ∈ T, P t
theorem OkT.rem {P : List Int → Prop} {T : List (List Int)} (h : OkT P T) {R : List (List (List Int))} (hR : RowsOk P R) (i : Nat) : OkT P (remR (R.take i) T) :=
  ⟨remR_asc h.asc _, remR_all h.all _ fun r hr => hR.all r (List.mem_of_mem_take hr)⟩
/-- What P has to give. -/
def SmP (P : List Int → Prop) : Prop := (∀ T, OkT P T → T.length ≤ 100) ∧ ∀ t, P t → t.length ≤ 4

theorem last_cell {w : World} {b : Nat} {VS : Nat → Value} {L : List (List Int)} (hne : L ≠ []) (h : ∀ i, i < L.length → w.cell? ⟨b, i, none⟩ = some (VS i)) : w.cell? ⟨b, L.length - 1, none⟩ = some (VS (L.length - 1)) :=
  h _ (by have := List.length_pos_iff.2 hne; omega)

set_option maxHeartbeats 4000000 in
theorem l09Row_any (P : List Int → Prop) (V t : Value) (zs : RwZ) (T : List (List Int)) (VT : Nat → Value) (w : World) (hP : SmP P) (hV : FamR w V zs) (hT : FamL w 0 t VT T) (hR : RowsOk P (rzR zs)) (hO : OkT P T) (hl : zs.length ≤ 1000) :
    Calls Try.prog 70 #[V, t] w fun e w' => ∃ V' VS', e = .returned V' ∧ FamL w' 0 V' VS' (remR (rzR zs) T) ∧ Below w.heap.size w w' := by
  obtain ⟨g, cap, rfl, hcap⟩ := hV.head
  have HV := Lib.hid hV
  have HR := Lib.hid hR
  have HO := Lib.hid hO
  have HP := Lib.hid hP
  have T0 : Hid (FamL w 0 t VT (remR ((rzR zs).take 0) T)) := Lib.hid hT
  have B0 := Lib.hid (Below.refl w.heap.size w)
  clear hV hT hR hO hP
  go_enter Try.func70, Try.ntmps70
  go_wp2_with fail
  go_loopw [1, 5, 6] (fun t c _ wr => ∃ (i : Nat) (VT : Nat → Value), i ≤ zs.length ∧ c = .int .i64 i ∧ Hid (FamL wr 0 t VT (remR ((rzR zs).take i) T)) ∧ Hid (Below w.heap.size w wr)) (fun _ c _ _ => zs.length - (intOf c).toNat)
  case atStart => exact ⟨0, VT, by omega, rfl, T0, B0⟩
  case round =>
    clear T0 B0
    obtain ⟨i, US, hi, rfl, hF, hB⟩ := hrel
    by_cases hlt : i < zs.length
    · have hlt' : (i : Int) < (zs.length : Int) := by omega
      have HVr := HV.out.below hB.out
      have c1 : wr.cell? ⟨g, i, none⟩ = some zs[i].1 := HVr.cell i hlt
      obtain ⟨VO, fo⟩ := HVr.inn zs[i] (List.getElem_mem hlt)
      have hir : i < (rzR zs).length := by unfold rzR; rw [List.length_map]; exact hlt
      have hmem : zs[i].2 ∈ rzR zs := List.mem_map.2 ⟨_, List.getElem_mem hlt, rfl⟩
      have e5 : (rzR zs)[i]? = some zs[i].2 := by unfold rzR; rw [List.getElem?_map, List.getElem?_eq_getElem hlt]; rfl
      have NXT : Hid (remR ((rzR zs).take (i + 1)) T = addR (remR ((rzR zs).take i) T) zs[i].2) := Lib.hid (by rw [List.take_add_one, e5, Option.toList_some, remR_snoc])
      have hne := HR.out.ne _ hmem
      have hasc := HR.out.asc _ hmem
      have OKO : OkT P zs[i].2 := ⟨hasc, HR.out.all _ hmem⟩
      have OKT := HO.out.rem HR.out i
      have L1 : Hid ((remR ((rzR zs).take i) T).length ≤ 100) := Lib.hid (HP.out.1 _ OKT)
      have L2 : Hid (zs[i].2.length ≤ 100) := Lib.hid (HP.out.1 _ OKO)
      have R1 : Hid (∀ q : Nat, ∀ k, k < (remR ((rzR zs).take i) T).length → (rowsOf (remR ((rzR zs).take i) T) k).length ≤ 1000000) := Lib.hid fun q k hk => by
        have := rowsOf_len _ 4 (fun x hx => HP.out.2 x (OKT.all x hx)) k hk
        omega
      have R2 : Hid (∀ k, k < zs[i].2.length → (rowsOf zs[i].2 k).length ≤ 1000000) := Lib.hid fun k hk => by
        have := rowsOf_len _ 4 (fun x hx => HP.out.2 x (OKO.all x hx)) k hk
        omega
      obtain ⟨ov, hov⟩ : ∃ ov, zs[i].1 = ov := ⟨_, rfl⟩
      obtain ⟨own, hown⟩ : ∃ own, zs[i].2 = own := ⟨_, rfl⟩
      rw [hov] at c1 fo
      rw [hown] at fo NXT hne hasc L2 R2
      obtain ⟨oa, oc, rfl, hom, hoc⟩ := fo.head
      have hpos := List.length_pos_iff.2 hne
      obtain ⟨ob, rfl, hcs⟩ := hoc.resolve_left (by omega)
      have c2 := last_cell hne hcs
      have RL : RdL wr (VO (own.length - 1)) (lastL own) := by
        have := rd_of_own (fo.inn (own.length - 1) (by omega)) rfl
        have e : rowsOf own (own.length - 1) = lastL own := rfl
        rw [e] at this
        exact this
      obtain ⟨p, hp⟩ : ∃ p, own.length - 1 = p := ⟨_, rfl⟩
      rw [hp] at c2 RL
      have l2 := L2.out
      have hlen : (own.length : Int) - 1 = (p : Int) := by omega
      have hw1 : wrap64 ((own.length : Int) - 1) = (p : Int) := by rw [wrap_sm (by omega) (by omega), hlen]
      have hpl : (p : Int) < (own.length : Int) := by omega
      have PL := Lib.hid (l01Place_any _ _ (rowsOf (remR ((rzR zs).take i) T)) _ (lastL own) wr hF.out.rdss RL (by have := L1.out; omega))
      have FO := Lib.hid fo
      have HM := hasB_mem (remR ((rzR zs).take i) T) (lastL own)
      have MA := Lib.hid (mrg_add OKT.asc hasc)
      generalize remR ((rzR zs).take i) T = TI at *
      generalize VO p = ol at c2 PL
      clear HVr fo hmem e5 hov hown OKO OKT hcs RL hne hasc hlen hoc hir
      by_cases hin : lastL own ∈ TI
      · have hb := HM.2 hin
        have NX2 : Hid (remR ((rzR zs).take (i + 1)) T = mrg TI own) := Lib.hid (by rw [NXT.out, MA.out]; exact if_pos hin)
        have HBB := Lib.hid hb
        have SM := Lib.hid (fun q : Nat => l01Sum_any u1 (.slice (some ⟨ob, 0, none⟩) own.length oc) TI.length own.length (rowsOf TI) (rowsOf own) US VO 0 0 (wr.drewN q) (hF.out.drewN q) (FO.out.drewN q) (by have := L1.out; omega) (by have := L2.out; omega) (R1.out q) R2.out)
        clear hin hb HM NXT MA
        go_wp2_with fail
        refine PL.out.mono ?_
        rintro e w5 ⟨r, rfl, hr1, hr2, q, rfl⟩
        have hr0 : (0 : Int) ≤ r := of_decide_eq_true (hr2.trans HBB.out)
        have B5 := Lib.hid (below_drewN hB.out q)
        clear hr1 hr2 PL
        go_wp2_with fail
        refine (SM.out q).mono ?_
        rintro e w6 ⟨V6, VS6, rfl, f6, s6, b6⟩
        rw [rowsL_ofR, rowsL_ofR] at f6
        have F6 : Hid (FamL w6 0 V6 VS6 (remR ((rzR zs).take (i + 1)) T)) := Lib.hid (by rw [NX2.out]; exact f6.base (Nat.zero_le _))
        have B6 := Lib.hid (B5.out.step1 b6)
        clear f6 s6 b6 SM hF hB
        go_wp2_with fail
        go_roundw
        case rel => exact ⟨i + 1, VS6, by omega, by go_num, F6, B6⟩
        case measure => simp [intOf]; omega
      · have hb : hasB (rowsOf TI) TI.length (lastL own) = false := by
          cases e : hasB (rowsOf TI) TI.length (lastL own) with
          | false => rfl
          | true => exact absurd (HM.1 e) hin
        have NX2 : Hid (remR ((rzR zs).take (i + 1)) T = TI) := Lib.hid (by rw [NXT.out]; exact if_neg hin)
        have HBB := Lib.hid hb
        clear hin hb HM NXT MA
        go_wp2_with fail
        refine PL.out.mono ?_
        rintro e w5 ⟨r, rfl, hr1, hr2, q, rfl⟩
        have hr0 : ¬ (0 : Int) ≤ r := of_decide_eq_false (hr2.trans HBB.out)
        have B5 := Lib.hid (below_drewN hB.out q)
        have F5 : Hid (FamL (wr.drewN q) 0 u1 US (remR ((rzR zs).take (i + 1)) T)) := Lib.hid (by rw [NX2.out]; exact hF.out.drewN q)
        clear hr1 hr2 PL hF hB
        go_wp2_with fail
        go_roundw
        case rel => exact ⟨i + 1, US, by omega, by go_num, F5, B5⟩
        case measure => simp [intOf]; omega
    · obtain rfl : i = zs.length := by omega
      have e : (rzR zs).take zs.length = rzR zs := List.take_of_length_le (by unfold rzR; rw [List.length_map]; exact Nat.le_refl _)
      rw [e] at hF
      go_wp2_with fail
      go_ret
      exact ⟨_, _, rfl, hF.out, hB.out⟩
end Go.Proofs.Ytggebkcmokpcmaa
end
section
namespace Go.Proofs.Ytggebkcmokpcmaa
open Go.RowKit Go.Proofs.Ytggebkcmokpcmaa.Pl Go.Proofs.Ytggebkcmokpcmaa.Ml
set_option linter.unusedVariables false
set_option maxRecDepth 100000

theorem own_some9 {w : World} {B n : Nat} {v : Value} {e : TypeId} {xs : List Value} (h : w.ownsRow B e 1 v n xs) (hne : v ≠ .slice none 0 0) : ∃ b c, v = .slice (some ⟨b, 0, none⟩) n c ∧ ∀ w', Below w.heap.size w w' → ∀ j u, xs[j]? = some u → w'.cell? ⟨b, j, none⟩ = some u := by
  have hl := h.1
  rcases h.2 with ⟨e1, _⟩ | ⟨g, cap, cur, e1, _, _, h1, _⟩
  · exact absurd e1 hne
  · subst e1
    refine ⟨g, cap, rfl, fun w' hb j u hu => ?_⟩
    rw [(own_below h hb).cellAt j (by have := (List.getElem?_eq_some_iff.1 hu).1; omega)]
    exact hu
theorem FamR.ins {w w' : World} {V V' vx : Value} {zs : RwZ} {x : List (List Int)} {VX : Nat → Value} {B a : Nat} (h : FamR w V zs) (hx : FamL w 0 vx VX x) (b : Below w.heap.size w w') (sh : V' ≠ .slice none 0 0)
    (ho : w'.ownsRow B 25 1 V' (zs.length + 1) ((zs.take a).map (fun z => z.1) ++ (vx :: (zs.drop a).map (fun z => z.1)))) : FamR w' V' (zs.take a ++ (vx, x) :: zs.drop a) := by
  refine ⟨sh, ?_, fun z hz => ?_⟩
  · have e : (zs.take a ++ (vx, x) :: zs.drop a).length = zs.length + 1 := by
      rw [List.length_append, List.length_cons, List.length_take, List.length_drop]; omega
    rw [e, List.map_append, List.map_cons]
    exact own_base ho (Nat.zero_le _)
  · have hz2 : z ∈ zs ∨ z = (vx, x) := by
      rcases List.mem_append.1 hz with hz | hz
      · exact .inl (List.mem_of_mem_take hz)
      · rcases List.mem_cons.1 hz with hz | hz
        · exact .inr hz
        · exact .inl (List.mem_of_mem_drop hz)
    rcases hz2 with hz | rfl
    · obtain ⟨VS, f⟩ := h.inn z hz
      exact ⟨VS, f.below b⟩
    · exact ⟨VX, hx.below b⟩
theorem rzR_ins (zs : RwZ) (vx : Value) (x : List (List Int)) : rzR (zs.take (plcR (rzR zs) (lastL x)) ++ (vx, x) :: zs.drop (plcR (rzR zs) (lastL x))) = insR (rzR zs) x := by
  unfold insR
  generalize plcR (rzR zs) (lastL x) = a
  unfold rzR
  rw [List.map_append, List.map_cons, List.map_take, List.map_drop]

theorem SmP_tm {f d : Nat} (hf : f < 4) (hc : cn f d ≤ 100) : SmP (TmP f d) :=
  ⟨fun T h => Nat.le_trans (tms_len hf h.asc h.all) hc, fun t h => by have := h.1; omega⟩
theorem OkT.remAll {P : List Int → Prop} {T : List (List Int)} (h : OkT P T) {R : List (List (List Int))} (hR : RowsOk P R) : OkT P (remR R T) := ⟨remR_asc h.asc _, remR_all h.all _ hR.all⟩
/-- The rows of the first t monomials. -/
theorem hitM_at {f e i d : Nat} (hf : f < 4) (hd : e + i = d) (h40 : d ≤ 40) (R : List (List (List Int))) (hR : RowsOk (TmP f d) R) (t : Nat) : RowsOk (TmP f d) (hitM i R ((ms f e []).take t)) ∧ (hitM i R ((ms f e []).take t)).length ≤ R.length + t := by
  obtain ⟨h1, h2⟩ := hitM_ok hf hd h40 ((ms f e []).take t) (fun m hm => List.mem_of_mem_take hm) R hR
  refine ⟨h1, Nat.le_trans h2 ?_⟩
  rw [List.length_take]
  omega

/-- What the loops keep. -/
structure RwJ (w : World) (V : Value) (zs : RwZ) (R : List (List (List Int))) (wr : World) : Prop where
  bel : Below w.heap.size w wr
  fam : FamR wr V zs
  eq : rzR zs = R
theorem RwJ.up {w wr w' : World} {V : Value} {zs : RwZ} {R : List (List (List Int))} (h : RwJ w V zs R wr) (b : Below wr.heap.size wr w') : RwJ w V zs R w' := ⟨h.bel.step1 b, h.fam.below b, h.eq⟩
theorem RwJ.len {w wr : World} {V : Value} {zs : RwZ} {R : List (List (List Int))} (h : RwJ w V zs R wr) : zs.length = R.length := by rw [← h.eq]; unfold rzR; rw [List.length_map]
theorem RwJ.start (w : World) : RwJ w (.slice (some ⟨w.heap.size, 0, none⟩) 0 0) [] [] (w.alloc (.cells #[] 25)) :=
  ⟨(Below.refl _ _).alloc (Nat.le_refl _) _, ⟨by simp, own_base (World.ownsRow_made w #[] 0 (Nat.le_refl _) (Nat.zero_le _) (by simp)) (Nat.zero_le _), fun z hz => by simp at hz⟩, rfl⟩

/-- What is asked of the place of a row. -/
theorem plc_cases (zs : RwZ) (x : List Int) (a : Nat) (ha : a ≤ plcR (rzR zs) x) :
    (a < plcR (rzR zs) x ∧ ∃ h : a < zs.length, lexLt x (lastL zs[a].2) = true) ∨ (a = plcR (rzR zs) x ∧ ((∃ h : a < zs.length, lexLt x (lastL zs[a].2) = false) ∨ a = zs.length)) := by
  have hl : (rzR zs).length = zs.length := by unfold rzR; rw [List.length_map]
  have hat : ∀ (h : a < zs.length) (h' : a < (rzR zs).length), (rzR zs)[a] = zs[a].2 := fun h h' => by simp [rzR]
  by_cases h : a < plcR (rzR zs) x
  · obtain ⟨h1, h2⟩ := plcR_lt (rzR zs) x a h
    refine .inl ⟨h, by omega, ?_⟩
    rw [← hat (by omega) h1]
    exact h2
  · have e : a = plcR (rzR zs) x := by omega
    refine .inr ⟨e, ?_⟩
    by_cases h2 : a < zs.length
    · refine .inl ⟨h2, ?_⟩
      rw [← hat h2 (by omega)]
      have := plcR_at (rzR zs) x (by omega)
      rw [← this]
      congr 2
      simp only [← e]
    · have := plcR_le (rzR zs) x
      exact .inr (by omega)
theorem plcZ_le (zs : RwZ) (x : List Int) : plcR (rzR zs) x ≤ zs.length := by
  have := plcR_le (rzR zs) x
  unfold rzR at this
  rw [List.length_map] at this
  exact this

/-- A row's last list, where it lies. -/
theorem fam_last {w : World} {v : Value} {VS : Nat → Value} {L : List (List Int)} (h : FamL w 0 v VS L) (hne : L ≠ []) (hl : L.length ≤ 100) :
    ∃ (b c p : Nat) (u : Value), v = .slice (some ⟨b, 0, none⟩) L.length c ∧ p < L.length ∧ (L.length : Int) - 1 = (p : Int) ∧ w.cell? ⟨b, p, none⟩ = some u ∧ RdL w u (lastL L) := by
  obtain ⟨oa, oc, rfl, hom, hoc⟩ := h.head
  have hpos := List.length_pos_iff.2 hne
  obtain ⟨ob, rfl, hcs⟩ := hoc.resolve_left (by omega)
  refine ⟨ob, oc, L.length - 1, VS (L.length - 1), rfl, by omega, by omega, last_cell hne hcs, ?_⟩
  have := rd_of_own (h.inn (L.length - 1) (by omega)) rfl
  exact this
end Go.Proofs.Ytggebkcmokpcmaa
end
