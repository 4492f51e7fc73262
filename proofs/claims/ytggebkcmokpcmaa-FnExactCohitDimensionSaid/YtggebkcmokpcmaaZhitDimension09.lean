/-
  Joined: HImJ.
-/
import Derived.Test.YtggebkcmokpcmaaZhitDimension08
section
namespace Go.Proofs.Ytggebkcmokpcmaa
open Go.RowKit Go.Proofs.Ytggebkcmokpcmaa.Pl
set_option linter.unusedVariables false
set_option maxRecDepth 100000

set_option maxHeartbeats 1000000 in
theorem withCl_any (ov lv : Value) (own left : List (List Int)) (q : Nat) (w : World) (hc : w.cell? ⟨q, 0, none⟩ = some lv) (h1 : RdY w ov (own.map pwK)) (h2 : RdY w lv (left.map pwK)) (n1 : own ≠ []) (n2 : left ≠ []) (f1 : ∀ z ∈ own, z.length = 4) (f2 : ∀ z ∈ left, z.length = 4) :
    Calls Try.prog 96 #[ov, .pointer (some ⟨q, 0, none⟩)] w fun e w' => e = .returned (.bool (lexLt (lastL own) (lastL left))) ∧ Below w.heap.size w w' := by
  have hql := World.block_lt_of_cell? w _ hc
  have GR1 := Lib.hid (greatest_any ov own n1 f1 w.drew (h1.below (Below.refl _ _).drew))
  have GR2 := Lib.hid (fun w5 (hb : Below w.heap.size w w5) => greatest_any lv left n2 f2 w5 (h2.below hb))
  have IL := Lib.hid (fun w => isLess_any (lastL own) (lastL left) (f1 _ (lastL_mem n1)) (f2 _ (lastL_mem n2)) w)
  have CC := Lib.hid (fun w5 (hb : Below w.heap.size w w5) => (hb.cell (p := ⟨q, 0, none⟩) hql).trans hc)
  have hc0 := CC.out _ (Below.refl _ _).drew
  clear h1 h2 n1 n2 f1 f2 hql
  generalize pwK (lastL own) = K1 at *
  generalize pwK (lastL left) = K2 at *
  generalize lexLt (lastL own) (lastL left) = r at *
  go_enter Try.func96, Try.ntmps96
  go_wp2_with fail
  go_region_law (first
    | (go_simp; go_at_call 78; refine (GR2.out _ B5).mono ?_; rintro e w6 ⟨rfl, b6⟩; have B6 : Below w.heap.size w w6 := B5.step1 b6)
    | (go_simp; go_at_call 78; refine GR1.out.mono ?_; rintro e w5 ⟨rfl, b5⟩; have B5 : Below w.heap.size w w5 := belD1 b5; have c5 := CC.out w5 B5)
    | (go_simp; go_at_call 97; refine (IL.out w6).mono ?_; rintro e w7 ⟨rfl, b7⟩; have B7 : Below w.heap.size w w7 := B6.step1 b7))
  all_goals
    go_wp2_with fail
    go_ret
    exact ⟨rfl, B7⟩

/-- Where the place is. -/
theorem plc_idx (zs : RwZ) (x : List Int) (hno : ∀ r ∈ rzR zs, lastL r ≠ x) (i : Nat) (hi : i ≤ plcR (rzR zs) x) :
    (i < plcR (rzR zs) x ∧ ∃ h : i < zs.length, lexLt (lastL zs[i].2) x = false) ∨ (i = plcR (rzR zs) x ∧ ((∃ h : i < zs.length, lexLt (lastL zs[i].2) x = true) ∨ i = zs.length)) := by
  rcases plc_cases zs x i hi with ⟨h1, h2, h3⟩ | ⟨h1, ⟨h2, h3⟩ | h2⟩
  · exact .inl ⟨h1, h2, lexLt_asymm _ _ h3⟩
  · refine .inr ⟨h1, .inl ⟨h2, ?_⟩⟩
    cases e : lexLt (lastL zs[i].2) x with
    | true => rfl
    | false => exact absurd (lexLt_total _ _ h3 e).symm (hno _ (List.mem_map.2 ⟨_, List.getElem_mem h2, rfl⟩))
  · exact .inr ⟨h1, .inr h2⟩

def IxPost (n p : Nat) (w : World) (e : Ending) (w' : World) : Prop := e = .returned (.int .i64 (if p < n then (p : Int) else -1)) ∧ Below w.heap.size w w'
set_option maxHeartbeats 1000000 in
theorem indexH_any (S lv : Value) (zs : RwZ) (left : List (List Int)) (B q : Nat) (w : World) (hS : FamY w B S zs) (hc : w.cell? ⟨q, 0, none⟩ = some lv) (h2 : RdY w lv (left.map pwK)) (n2 : left ≠ []) (f2 : ∀ z ∈ left, z.length = 4) (hR : ∀ r ∈ rzR zs, r ≠ [] ∧ ∀ z ∈ r, z.length = 4) (hno : ∀ r ∈ rzR zs, lastL r ≠ lastL left) (hl : zs.length ≤ 1000) :
    Calls Try.prog 95 #[S, .func (.func 96) #[] #[.pointer (some ⟨q, 0, none⟩)]] w (IxPost zs.length (plcR (rzR zs) (lastL left)) w) := by
  obtain ⟨sa, scap, rfl, hcs⟩ := hS.head
  have hql := World.block_lt_of_cell? w _ hc
  have HC := Lib.hid hcs
  have PI := Lib.hid (plc_idx zs (lastL left) hno)
  have CL : Hid (∀ i (hi : i < zs.length) w5, Below w.heap.size w w5 → Calls Try.prog 96 #[zs[i].1, .pointer (some ⟨q, 0, none⟩)] w5 fun e w' => e = .returned (.bool (lexLt (lastL zs[i].2) (lastL left))) ∧ Below w5.heap.size w5 w') := Lib.hid (fun i hi w5 hb => by
    obtain ⟨a1, a2⟩ := hR zs[i].2 (List.mem_map.2 ⟨_, List.getElem_mem hi, rfl⟩)
    exact withCl_any _ lv _ left q w5 ((hb.cell (p := ⟨q, 0, none⟩) hql).trans hc) ((rdY_of_own (hS.inn _ (List.getElem_mem hi)) a2).below hb) (h2.below hb) a1 n2 a2 f2)
  have hpl := plcZ_le zs (lastL left)
  clear hS hc h2 n2 f2 hR hno hcs hql
  generalize plcR (rzR zs) (lastL left) = p at *
  go_enter Try.func95, Try.ntmps95
  go_wp2_with fail
  go_loopw [5, 8] (fun _ c wr => ∃ i : Nat, i ≤ p ∧ c = .int .i64 i ∧ Hid (Below w.heap.size w wr)) (fun _ c _ => zs.length + 1 - (intOf c).toNat)
  case atStart => exact ⟨0, by omega, rfl, Lib.hid (Below.refl _ _)⟩
  case round =>
    obtain ⟨i, hi, rfl, hB⟩ := hrel
    rcases PI.out i hi with ⟨hip, hin, hlx⟩ | ⟨hip, ⟨hin, hlx⟩ | hin⟩
    · have hlt' : (i : Int) < (zs.length : Int) := by omega
      obtain ⟨g, rfl, hcell⟩ := HC.out.resolve_left (by omega)
      have hcc := hcell i hin
      have c1 : wr.cell? ⟨g, i, none⟩ = some zs[i].1 := (hB.out.cell (p := ⟨g, i, none⟩) (World.block_lt_of_cell? w _ hcc)).trans hcc
      have C1 := Lib.hid (CL.out i hin wr hB.out)
      rw [hlx] at C1
      clear hcell hcc hlx
      generalize zs[i].1 = ov at *
      go_wp2_with fail
      refine C1.out.mono ?_
      rintro e w5 ⟨rfl, b5⟩
      have B5 := Lib.hid (hB.out.step1 b5)
      clear b5 hB c1 C1
      go_wp2_with fail
      go_roundw
      case rel => exact ⟨i + 1, by omega, by go_num, B5⟩
      case measure => simp [intOf]; omega
    · have hlt' : (i : Int) < (zs.length : Int) := by omega
      obtain ⟨g, rfl, hcell⟩ := HC.out.resolve_left (by omega)
      have hcc := hcell i hin
      have c1 : wr.cell? ⟨g, i, none⟩ = some zs[i].1 := (hB.out.cell (p := ⟨g, i, none⟩) (World.block_lt_of_cell? w _ hcc)).trans hcc
      have C1 := Lib.hid (CL.out i hin wr hB.out)
      rw [hlx] at C1
      have RT : Hid ((if p < zs.length then (p : Int) else -1) = (i : Int)) := Lib.hid (by rw [if_pos (by omega), hip])
      clear hcell hcc hlx hip
      generalize zs[i].1 = ov at *
      go_wp2_with fail
      refine C1.out.mono ?_
      rintro e w5 ⟨rfl, b5⟩
      have B5 := Lib.hid (hB.out.step1 b5)
      clear b5 hB c1 C1
      go_wp2_with fail
      go_ret
      exact ⟨congrArg (fun z => Ending.returned (.int .i64 z)) RT.out.symm, B5.out⟩
    · have hlt' : ¬ (i : Int) < (zs.length : Int) := by omega
      have RT : Hid ((if p < zs.length then (p : Int) else -1) = -1) := Lib.hid (by rw [if_neg (by omega)])
      clear hip hin
      go_wp2_with fail
      go_ret
      exact ⟨congrArg (fun z => Ending.returned (.int .i64 z)) RT.out.symm, hB.out⟩
end Go.Proofs.Ytggebkcmokpcmaa
end
