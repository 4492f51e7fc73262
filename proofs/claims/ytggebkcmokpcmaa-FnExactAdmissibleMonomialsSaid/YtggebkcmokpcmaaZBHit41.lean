/-
  Joined: HKamT.
-/
import Derived.Test.YtggebkcmokpcmaaZBHit40
import Derived.Test.YtggebkcmokpcmaaZBHit28
import Derived.Test.YtggebkcmokpcmaaZBHit33
section
namespace Go.Proofs.Ytggebkcmokpcmaa.Pl
open Go.RowKit
set_option linter.unusedVariables false
set_option maxRecDepth 100000

/-- The sum with a list behind all others. -/
theorem sum_last {w0 wr w1 : World} {k0 : Int} {V0 S v : Value} {US : Nat → Value} {L : List (List Int)} {x : List Int} {B : Nat} (h : KamJ w0 k0 V0 S US L wr) (b : Below wr.heap.size wr w1)
    (ho : w1.ownsRow B 2 1 v x.length (x.map (Value.int .i64))) (ha : Asc (L ++ [x])) (hl : L.length ≤ 2000) (h4 : ∀ t ∈ L, t.length ≤ 4) (hx : x.length ≤ 4) :
    Calls Try.prog 68 #[S, .slice (some ⟨w1.heap.size, 0, none⟩) 1 1] (w1.alloc (.cells #[v] 42)) fun e w' => ∃ S' US', e = .returned S' ∧ KamJ w0 k0 V0 S' US' (L ++ [x]) w' := by
  have b2 : Below wr.heap.size wr (w1.alloc (.cells #[v] 42)) := b.step1 ((Below.refl _ _).alloc (Nat.le_refl _) _)
  have J2 := h.up b2
  have f1 : FamL (w1.alloc (.cells #[v] 42)) 0 (.slice (some ⟨w1.heap.size, 0, none⟩) 1 1) (fun _ => v) [x] := fam_one (own_base ho (Nat.zero_le _)) (Nat.zero_le _)
  refine (l01Sum_any S _ L.length 1 (rowsOf L) (rowsOf [x]) US (fun _ => v) _ _ _ J2.fam f1 (by omega) (by omega) (fun i hi => ?_) (fun i hi => ?_)).mono ?_
  · have := rowsOf_len L 4 h4 i hi; omega
  · have := rowsOf_len [x] 4 (fun t ht => by rw [List.mem_singleton.1 ht]; exact hx) i (by simpa using hi); omega
  · rintro e w' ⟨S', US', rfl, f, s, b3⟩
    have e1 : rowsL (rowsOf [x]) 1 = [x] := rowsL_ofH [x]
    rw [rowsL_ofH, e1, mrg_last L x ha] at f s
    exact ⟨S', US', rfl, J2.bx.up b3, f.base J2.bx.bel.size, s⟩

/-- What the limit asks. -/
def KamCase (w : World) (a0 : Option Addr) (m : Nat) (k0 : Int) : Prop :=
  m = 0 ∨ (0 < m ∧ ∃ (b0 o0 : Nat) (v0 : Value) (x : Int), a0 = some ⟨b0, o0, none⟩ ∧ w.cell? ⟨b0, o0, none⟩ = some v0 ∧ DegIs w v0 x ∧ (0 ≤ x ∧ x ≤ 40) ∧ 2 * x + k0 ≤ 40)

/-- The first k, as values. -/
def upI (xs : List Int) (k : Nat) : List Value := ((xs.take k).map upE).map (Value.int .i64)
theorem upI_all (xs : List Int) : upI xs xs.length = (upL xs).map (Value.int .i64) := by unfold upI upL; rw [List.take_length]
theorem upL_take (xs : List Int) (k : Nat) (h : k < xs.length) : upI xs (k + 1) = upI xs k ++ [.int .i64 (2 * xs[k] + 1)] := by
  unfold upI
  rw [List.take_add_one, List.getElem?_eq_getElem h, Option.toList_some, List.map_append, List.map_append]
  rfl

set_option maxHeartbeats 4000000 in
theorem specKamUp_ok (k0 : Int) (a0 : Option Addr) (m q0 : Nat) (X : Nat → List Int) (w : World) (hk : 1 ≤ k0 ∧ k0 ≤ 4) (hm : m ≤ 2000) (h : RdSS w (.slice a0 m q0) m X) (hX : ∀ i, i < m → (X i).length ≤ 4 ∧ ∀ z ∈ X i, 0 ≤ z ∧ z ≤ 40) (hA : Asc (rowsL X m)) (DC : KamCase w a0 m k0)
    (IS : Hid (∀ wx, Below w.heap.size w wx → Calls Try.prog 67 #[.agg #[.int .i64 k0, .slice a0 m q0]] wx (SaysB true wx))) :
    Calls Try.prog 40 #[.agg #[.int .i64 k0, .slice a0 m q0]] w (ResY k0 ((rowsL X m).map upL) 0 w) := by
  have t2 := Try.underlying31
  obtain ⟨i0, hi0, hz0, hz1, hz2⟩ := info_parts Try.info2
  have HDC := Lib.hid DC
  have HX := Lib.hid hX
  have HAS := Lib.hid hA
  obtain ⟨_, hsm, VS, hc, hr⟩ := h
  have HC := Lib.hid hc
  have HR := Lib.hid hr
  obtain ⟨w1, hw1⟩ : ∃ w1, w1 = ((w.alloc (.cells #[.int .i64 k0, .slice a0 m q0] 31)).alloc (.cells #[.int .i64 0, .slice none 0 0] 31)) := ⟨_, rfl⟩
  have S1 : Hid (Bx2Q w k0 (.slice a0 m q0) w1) := Lib.hid (by rw [hw1]; exact Bx2Q.start _ _ _)
  clear DC hX hA hc hr hsm
  have d0 := S1.out.boxA.c0
  have d1 := S1.out.boxA.c1
  go_enter Try.func40, Try.ntmps40
  go_upto_region 1 with fail
  rw [← hw1]
  clear hw1
  go_wp2_with fail
  refine (IS.out w1 S1.out.bel).mono ?_
  rintro e w2 ⟨rfl, b2⟩
  have S2 := Lib.hid (S1.out.up b2)
  clear b2 S1 d0 d1
  have d0 := S2.out.boxA.c0
  have d1 := S2.out.boxA.c1
  go_upto_region 3 with fail
  go_cut [3, 13] (fun s3 s13 wx => s3 = .int .i64 0 ∧ s13 = .bool false ∧ Hid (Bx2Q w k0 (.slice a0 m q0) wx))
  case first =>
    rcases HDC.out with h | ⟨hm0, b0, o0, v0, x, rfl, c0, D0, hx, hxi⟩
    · subst h
      have hm1 : decide (0 < (0 : Nat)) = false := rfl
      go_quiet (fail)
      go_wp2_with fail
      go_meet
      exact ⟨rfl, rfl, Lib.hid (S2.out.up (below_drewN (Below.refl _ _) _))⟩
    · have hm1 : decide (0 < m) = true := decide_eq_true (by omega)
      have hm2 : (0 : Int) < (m : Int) := by omega
      have hw1' : wrap64 (2 * x) = 2 * x := wrap_sm (by omega) (by omega)
      have hw2' : wrap64 (2 * x + k0) = 2 * x + k0 := wrap_sm (by omega) (by omega)
      have hov2 : decide (40 < 2 * x + k0) = false := decide_eq_false (by omega)
      have hov3 : ¬ 40 < 2 * x + k0 := by omega
      have DG0 := Lib.hid (fun q : Nat => l08Degree_some b0 o0 m q0 v0 x (w2.drewN q) hm0 (((S2.out.bel.cell (p := ⟨b0, o0, none⟩) (World.block_lt_of_cell? w _ c0)).trans c0)) (Lib.hid ((D0.below S2.out.bel).drewN q)))
      clear c0 D0 hm0 hxi HDC hx hk
      go_quiet ((go_at_call 69; exact Calls.quiet_of (DG0.out _)))
      go_wp2_with fail
      go_meet
      exact ⟨rfl, rfl, Lib.hid (S2.out.up (below_drewN (Below.refl _ _) _))⟩
  case rest =>
    obtain ⟨rfl, rfl, S3⟩ := hcut
    clear d0 d1 S2 HDC
    have I0 : Hid (KamJ w k0 (.slice a0 m q0) (.slice (some ⟨wc.heap.size, 0, none⟩) 0 0) (fun _ => undef) ((rowsL X 0).map upL) (wc.alloc (.cells #[] 42))) := Lib.hid ⟨S3.out.up ((Below.refl _ _).alloc (Nat.le_refl _) _), ⟨own_base (World.ownsRow_made wc #[] 0 (Nat.le_refl _) (Nat.zero_le _) (by simp)) S3.out.bel.size, fun i hi => absurd hi (Nat.not_lt_zero _)⟩, fun i j hi => absurd hi (Nat.not_lt_zero _)⟩
    clear S3
    go_wp2_with fail
    go_loopw [4, 5, 6, 7] (fun S c _ _ wr => ∃ (i : Nat) (US : Nat → Value), i ≤ m ∧ c = .int .i64 i ∧ Hid (KamJ w k0 (.slice a0 m q0) S US ((rowsL X i).map upL) wr)) (fun _ c _ _ _ => m - (intOf c).toNat)
    case atStart => exact ⟨0, _, by omega, rfl, I0⟩
    case round =>
      clear I0
      obtain ⟨i, US, hi, rfl, hJ⟩ := hrel
      have d0 := hJ.out.bx.boxA.c0
      have d1 := hJ.out.bx.boxA.c1
      by_cases hlt : i < m
      · have hlt' : (i : Int) < (m : Int) := by omega
        obtain ⟨b, off, ⟨cap', e⟩, hc'⟩ := HC.out.resolve_left (by omega)
        cases e
        have hcb := hc' i hlt
        obtain ⟨ai, ci, evi, hmi, hci⟩ := HR.out i hlt
        rw [evi] at hcb
        have HCB := Lib.hid hcb
        have HCI := Lib.hid hci
        have HXI := Lib.hid (HX.out i hlt)
        have NXT : Hid ((rowsL X (i + 1)).map upL = (rowsL X i).map upL ++ [upL (X i)]) := Lib.hid (by rw [rowsL_succ, List.map_append]; rfl)
        have ASI : Hid (Asc ((rowsL X i).map upL ++ [upL (X i)])) := Lib.hid (by
          rw [← NXT.out]
          refine asc_up ?_
          have e : rowsL X m = rowsL X (i + 1) ++ (rowsL X m).drop (i + 1) := by
            rw [show rowsL X (i + 1) = (rowsL X m).take (i + 1) by unfold rowsL; rw [← List.map_take, List.take_range, Nat.min_eq_left (by omega)], List.take_append_drop]
          have := HAS.out
          rw [e] at this
          exact (List.pairwise_append.1 this).1)
        have LI : Hid (((rowsL X i).map upL).length ≤ 2000 ∧ ∀ t ∈ (rowsL X i).map upL, t.length ≤ 4) := Lib.hid ⟨by rw [List.length_map, rowsL_len]; omega, fun t ht => by
          obtain ⟨x, hx, rfl⟩ := List.mem_map.1 ht
          obtain ⟨j, hj, rfl⟩ := mem_rowsL hx
          rw [upL_len]
          exact (HX.out j (by omega)).1⟩
        have SL : Hid (∀ (w1 : World) (v : Value) (B : Nat), Below wr.heap.size wr w1 → w1.ownsRow B 2 1 v (upL (X i)).length ((upL (X i)).map (Value.int .i64)) → Calls Try.prog 68 #[u4, .slice (some ⟨w1.heap.size, 0, none⟩) 1 1] (w1.alloc (.cells #[v] 42)) fun e w' => ∃ S' US', e = .returned S' ∧ KamJ w k0 (.slice (some ⟨b, off, none⟩) m q0) S' US' ((rowsL X (i + 1)).map upL) w') := Lib.hid (fun w1 v B hb ho => by
          rw [NXT.out]
          exact sum_last hJ.out hb ho ASI.out LI.out.1 LI.out.2 (by rw [upL_len]; exact HXI.out.1))
        have B0 : Hid (Below wr.heap.size wr (wr.alloc (.cells #[] 2))) := Lib.hid ((Below.refl _ _).alloc (Nat.le_refl _) _)
        have O0 : Hid ((wr.alloc (.cells #[] 2)).ownsRow wr.heap.size 2 1 (.slice (some ⟨wr.heap.size, 0, none⟩) 0 0) 0 (upI (X i) 0)) := Lib.hid (World.ownsRow_made wr #[] 0 (Nat.le_refl _) (Nat.zero_le _) (by simp))
        have JJ := hJ
        clear hJ hc' hcb hci NXT ASI LI evi
        generalize X i = xs at *
        go_wp2_with fail
        obtain ⟨wo, hwo⟩ : ∃ wo, wo = wr := ⟨_, rfl⟩
        subst hwo
        clear d0 d1
        go_loopw [6, 7] (fun S c wi => ∃ (k : Nat), k ≤ xs.length ∧ c = .int .i64 k ∧ Hid (wi.ownsRow wo.heap.size 2 1 S k (upI xs k)) ∧ Hid (Below wo.heap.size wo wi)) (fun _ c _ => xs.length - (intOf c).toNat)
        case atStart => exact ⟨0, by omega, rfl, O0, B0⟩
        case round =>
          clear O0 B0
          obtain ⟨k, hk5, rfl, hO, hB⟩ := hrel
          have J5 := Lib.hid (JJ.out.up hB.out)
          have d1 := J5.out.bx.boxA.c1
          have c1 : wr.cell? ⟨b, off + i, none⟩ = some (.slice ai xs.length ci) := (J5.out.bx.bel.cell (p := ⟨b, off + i, none⟩) (World.block_lt_of_cell? w _ HCB.out)).trans HCB.out
          by_cases hkl : k < xs.length
          · have hkl' : (k : Int) < (xs.length : Int) := by omega
            obtain ⟨b2, off2, rfl, hc2⟩ := HCI.out.resolve_left (by omega)
            have c2 : wr.cell? ⟨b2, off2 + k, none⟩ = some (.int .i64 xs[k]) := by
              have := hc2 k hkl
              rw [List.getElem?_eq_getElem hkl, Option.getD_some] at this
              exact (J5.out.bx.bel.cell (p := ⟨b2, off2 + k, none⟩) (World.block_lt_of_cell? w _ this)).trans this
            have NX := Lib.hid (upL_take xs k hkl)
            have hb := HXI.out.2 xs[k] (List.getElem_mem hkl)
            have hl4 := HXI.out.1
            generalize xs[k] = x at *
            have hw1' : wrap64 (2 * x) = 2 * x := wrap_sm (by omega) (by omega)
            have hw2' : wrap64 (2 * x + 1) = 2 * x + 1 := wrap_sm (by omega) (by omega)
            have hsz := hB.out.size
            clear hc2
            go_wp2_with (at_builtin; refine wpList_append_own _ rfl _ _ 42 rfl wo.heap.size 2 i0 (.int .i64 0) 1 8 Try.underlying42 hi0 hz0 hz1 hz2 rfl (by decide) _ _ _ rfl (hO.out.alloc _) ⟨wr.heap.size, 0, none⟩ 1 1 [.int .i64 (2 * x + 1)] rfl rfl ?c1 ?c2 ?c3 ?c4 ?c5 ?_)
            case c1 => exact cell_one_new _ _ _
            case c2 => intro u hu; simp at hu; subst hu; rfl
            case c3 => unfold maxLen; omega
            case c4 => omega
            case c5 => simp; omega
            intro v' w5 hown' hgrow _
            have HO5 : Hid (w5.ownsRow wo.heap.size 2 1 v' (k + 1) (upI xs (k + 1))) := Lib.hid (by rw [NX.out]; exact hown')
            have HB5 : Hid (Below wo.heap.size wo w5) := Lib.hid ((hB.out.alloc hsz _).grown hgrow (by simp; omega) (fun k hk => (hO.out.lt k hk).1))
            clear hgrow hown' hO hB d1 c1 c2 NX J5
            go_wp2_with fail
            go_roundw
            case rel => exact ⟨k + 1, by omega, by go_num, HO5, HB5⟩
            case measure => simp [intOf]; omega
          · obtain rfl : k = xs.length := by omega
            obtain ⟨ua, uc, eU, _⟩ := own_len hO.out
            subst eU
            have SM := Lib.hid (SL.out wr _ _ hB.out (by have := hO.out; rw [upI_all] at this; rw [upL_len]; exact this))
            clear hO SL JJ J5 HCB HCI
            go_wp2_with fail
            refine SM.out.mono ?_
            rintro e w5 ⟨S', US', rfl, J6⟩
            have J7 := Lib.hid J6
            clear J6 SM d1 c1
            go_wp2_with fail
            go_roundw
            case rel => exact ⟨i + 1, US', by omega, by go_num, J7⟩
            case measure => simp [intOf]; omega
      · obtain rfl : i = m := by omega
        generalize (rowsL X i).map upL = M at *
        obtain ⟨sa, sc, eS, _⟩ := Fam.head hJ.out.fam
        subst eS
        have r0 := hJ.out.bx.boxR.c0
        have r1 := hJ.out.bx.boxR.c1
        have f0 := hJ.out.bx.boxR.fr 0
        have f1 := hJ.out.bx.boxR.fr 1
        have FIN := Lib.hid (okEndQ (C := k0) hJ.out.bx (Below.refl _ _) hJ.out.fam hJ.out.sep 0)
        clear hJ
        go_wp2_with fail
        refine bodyPost_ret (results_box2_tmp rfl _ _ (w.heap.size + 1) _ _ _ rfl FIN.out.1 t2 (by kernel_rfl)) rfl ?_
        exact FIN.out.2
end Go.Proofs.Ytggebkcmokpcmaa.Pl
end
