/-
  The walk of laws.FnSpikes.
-/
import Derived.Test.YtfhfnjcfkpcmnaaWSpikes
namespace Go.Proofs.Ytfhfnjcfkpcmnaa
open Go.RowKit
set_option linter.unusedVariables false

set_option maxRecDepth 100000 in
theorem spikes_big (a0 : Option Addr) (len0 cap0 : Nat) (w : World) (h : 4096 < len0) (hm : len0 ≤ maxLen) :
    Calls Try.prog 4 #[.slice a0 len0 cap0] w fun e w' => e = .returned (.bool true) ∧ Below w.heap.size w w' := by
  go_enter Try.func4, Try.ntmps4
  go_wp2_with fail
  refine (big_yes a0 len0 cap0 w h hm).mono ?_
  rintro e w' ⟨rfl, rfl⟩
  go_wp2_with fail
  go_ret
  exact ⟨rfl, Below.refl _ _⟩

set_option maxRecDepth 100000 in
set_option maxHeartbeats 4000000 in
theorem walk_FnSpikes (a0 : Option Addr) (len0 cap0 : Nat) (z0 : List Int) (w : World) (w0 : IsRow .u8 w a0 len0 cap0 z0) :
    Calls Try.prog 4 #[.slice a0 len0 cap0] w fun e w' => e = .returned (.bool true) ∧ Below w.heap.size w w' := by
  obtain ⟨hcode, hmax⟩ := w0.code
  clear w0
  by_cases h : len0 ≤ 4096
  · have HC := Lib.hid hcode
    clear hcode hmax
    go_enter Try.func4, Try.ntmps4
    go_wp2_with fail
    refine (big_no a0 len0 cap0 w h).mono ?_
    rintro e W0 ⟨rfl, rfl⟩
    go_wp2_with fail
    refine (DrawSpikesOf_any a0 len0 cap0 _ HC.out h).mono ?_
    rintro e w1 ⟨d, rfl, hd0, hd1, b1⟩
    have IM := Lib.hid (fun (wx : World) => implSpikesOf_all d wx)
    have SP := Lib.hid (fun (wx : World) => specSpikesOf_all d wx)
    go_wp2_with fail
    refine (IM.out _).mono ?_
    rintro e w2 ⟨Vg, VSg, rfl, fg, b2, sg⟩
    have B2 := Lib.hid (b1.trans (b2.mono b1.size))
    have FG2 := Lib.hid fg
    clear fg sg b1 b2
    go_wp2_with fail
    refine (SP.out _).mono ?_
    rintro e w3 ⟨Vw, VSw, rfl, fw, b3⟩
    have FW := Lib.hid fw
    have FG := Lib.hid (FG2.out.below b3)
    have B3 := Lib.hid (B2.out.trans (b3.mono B2.out.size))
    clear fw b3 FG2 B2
    by_cases hin : 0 ≤ d ∧ d ≤ 40
    · obtain ⟨n, rfl⟩ := Int.eq_ofNat_of_zero_le hin.1
      have hn : n ≤ 40 := by have := hin.2; omega
      obtain ⟨E1, E2⟩ := sk_in n hn
      rw [E1] at FG FW
      have E2h := Lib.hid E2
      have ROK := Lib.hid (rows_ok n hn)
      have LE := Lib.hid (least_at n hn)
      clear E1 E2 hin IM SP hd0 hd1
      generalize spk 40 [] n n = xss at FG FW ROK
      generalize lst n = l at ROK LE
      rw [E2h.out]
      go_wp2_with fail
      refine (rows5_same Vg Vw xss.length _ _ VSg VSw _ _ FG.out FW.out).mono ?_
      rintro e w4 ⟨rfl, q, rfl⟩
      have HRD : Hid (∀ j, j < xss.length → RdI w3 (VSg j) (rowsOf xss j).length (fun i => (rowsOf xss j)[i]?.getD 0)) := Lib.hid FG.out.rd
      obtain ⟨a, cap, rfl, _, hcells⟩ := FG.out.head
      obtain ⟨b, rfl, hcell⟩ := hcells.resolve_left (by have := ROK.out.2.1; omega)
      have HCELL := Lib.hid hcell
      clear hcells hcell FG FW
      obtain ⟨m, hm⟩ : ∃ m, m = xss.length := ⟨_, rfl⟩
      rw [← hm] at HCELL HRD ROK
      have hm' := ROK.out.2.1
      have hM := ROK.out.2.2.1
      have hl := ROK.out.2.2.2.1
      rw [← hm]
      clear hm
      go_wp2_with fail
      refine (LE.out _).mono ?_
      rintro e w4 ⟨rfl, rfl⟩
      clear LE E2h
      have hm0 : ((m : Int) == 0) = false := by rw [beq_eq_false_iff_ne]; omega
      go_wp2_with fail
      go_loopw [10, 11] (fun c i wr => ∃ (j p : Nat), j ≤ m ∧ i = .int .i64 j ∧ c = .bool (mt xss l j) ∧ Hid (wr = w3.drewN p)) (fun _ i _ => m - (intOf i).toNat)
      case atStart => exact ⟨0, q, by omega, rfl, rfl, Lib.hid rfl⟩
      case round =>
        obtain ⟨j, p, hj, rfl, rfl, hw⟩ := hrel
        by_cases hlt : j < m
        · have hlt' : (j : Int) < (m : Int) := by omega
          obtain ⟨nj, aj, cj, MT1, hs40, hll, c1, SUM, HEL⟩ := row_law xss n m l j p b VSg w3 wr hlt ROK.out HRD.out HCELL.out hw.out
          have hll' : (l : Int) ≤ (nj : Int) := by omega
          generalize mt xss l j = B0 at MT1 ⊢
          have key : B0 = true ∨ (B0 = false ∧ nj = l) ∨ (B0 = false ∧ nj ≠ l) := by
            cases B0
            · by_cases e : nj = l
              · exact .inr (.inl ⟨rfl, e⟩)
              · exact .inr (.inr ⟨rfl, e⟩)
            · exact .inl rfl
          rcases key with rfl | ⟨rfl, e0⟩ | ⟨rfl, e0⟩
          · have MT2 : Hid (mt xss l (j + 1) = true) := Lib.hid (by rw [MT1.out]; rfl)
            clear MT1
            go_wp2_with (go_at_call 45; refine SUM.out.mono ?_; rintro e w' ⟨rfl, rfl⟩)
            clear SUM c1
            go_loopw [12] (fun k wq => ∃ (i p2 : Nat), i ≤ nj ∧ k = .int .i64 i ∧ Hid (wq = w3.drewN p2)) (fun k _ => nj - (intOf k).toNat)
            case atStart => exact ⟨0, p, by omega, rfl, hw⟩
            case round =>
              obtain ⟨i, p2, hi, rfl, hw2⟩ := hrel
              obtain ⟨c1, hel⟩ := HEL.out wr p2 hw2.out
              by_cases hlt2 : i < nj
              · obtain ⟨e1, bj, oj, ⟨he1, he2, he3⟩, rfl, c2⟩ := hel i hlt2
                clear hel
                have hlt3 : (i : Int) < (nj : Int) := by omega
                have hw1 : IntKind.i64.wrap (e1 + 1) = e1 + 1 := IntWalk.i64_in _ (by omega)
                go_wp2
                go_quiet (fail)
                go_wp2
                go_roundw
                case rel => exact ⟨i + 1, p2 + nq, by omega, by go_num, Lib.hid (by rw [hw2.out]; exact World.drewN_drewN ..)⟩
                case measure => simp [intOf]; omega
              · clear hel
                go_wp2
                go_roundw
                case rel => exact ⟨j + 1, p2, by omega, by go_num, by rw [MT2.out], hw2⟩
                case measure => simp [intOf]; omega
          · have MT2 : Hid (mt xss l (j + 1) = true) := Lib.hid (by rw [MT1.out, decide_eq_true e0]; rfl)
            clear MT1
            have hb : ((nj : Int) == (l : Int)) = true := by rw [beq_iff_eq]; omega
            clear e0
            go_wp2_with (go_at_call 45; refine SUM.out.mono ?_; rintro e w' ⟨rfl, rfl⟩)
            clear SUM c1
            go_loopw [12] (fun k wq => ∃ (i p2 : Nat), i ≤ nj ∧ k = .int .i64 i ∧ Hid (wq = w3.drewN p2)) (fun k _ => nj - (intOf k).toNat)
            case atStart => exact ⟨0, p, by omega, rfl, hw⟩
            case round =>
              obtain ⟨i, p2, hi, rfl, hw2⟩ := hrel
              obtain ⟨c1, hel⟩ := HEL.out wr p2 hw2.out
              by_cases hlt2 : i < nj
              · obtain ⟨e1, bj, oj, ⟨he1, he2, he3⟩, rfl, c2⟩ := hel i hlt2
                clear hel
                have hlt3 : (i : Int) < (nj : Int) := by omega
                have hw1 : IntKind.i64.wrap (e1 + 1) = e1 + 1 := IntWalk.i64_in _ (by omega)
                go_wp2
                go_quiet (fail)
                go_wp2
                go_roundw
                case rel => exact ⟨i + 1, p2 + nq, by omega, by go_num, Lib.hid (by rw [hw2.out]; exact World.drewN_drewN ..)⟩
                case measure => simp [intOf]; omega
              · clear hel
                go_wp2
                go_roundw
                case rel => exact ⟨j + 1, p2, by omega, by go_num, by rw [MT2.out], hw2⟩
                case measure => simp [intOf]; omega
          · have MT2 : Hid (mt xss l (j + 1) = false) := Lib.hid (by rw [MT1.out, decide_eq_false e0]; rfl)
            clear MT1
            have hb : ((nj : Int) == (l : Int)) = false := by rw [beq_eq_false_iff_ne]; omega
            clear e0
            go_wp2_with (go_at_call 45; refine SUM.out.mono ?_; rintro e w' ⟨rfl, rfl⟩)
            clear SUM c1
            go_loopw [12] (fun k wq => ∃ (i p2 : Nat), i ≤ nj ∧ k = .int .i64 i ∧ Hid (wq = w3.drewN p2)) (fun k _ => nj - (intOf k).toNat)
            case atStart => exact ⟨0, p, by omega, rfl, hw⟩
            case round =>
              obtain ⟨i, p2, hi, rfl, hw2⟩ := hrel
              obtain ⟨c1, hel⟩ := HEL.out wr p2 hw2.out
              by_cases hlt2 : i < nj
              · obtain ⟨e1, bj, oj, ⟨he1, he2, he3⟩, rfl, c2⟩ := hel i hlt2
                clear hel
                have hlt3 : (i : Int) < (nj : Int) := by omega
                have hw1 : IntKind.i64.wrap (e1 + 1) = e1 + 1 := IntWalk.i64_in _ (by omega)
                go_wp2
                go_quiet (fail)
                go_wp2
                go_roundw
                case rel => exact ⟨i + 1, p2 + nq, by omega, by go_num, Lib.hid (by rw [hw2.out]; exact World.drewN_drewN ..)⟩
                case measure => simp [intOf]; omega
              · clear hel
                go_wp2
                go_roundw
                case rel => exact ⟨j + 1, p2, by omega, by go_num, by rw [MT2.out], hw2⟩
                case measure => simp [intOf]; omega
        · obtain rfl : j = m := by omega
          have HM : Hid (mt xss l j = true) := Lib.hid ROK.out.2.2.2.2.1
          have BK : Hid (Below W0.heap.size W0 wr) := Lib.hid (by rw [hw.out]; exact below_drewN B3.out p)
          clear B3 HCELL HRD
          rw [HM.out]
          clear HM ROK
          have CK := Lib.hid (HC.out.up BK.out)
          go_wp2_with fail
          refine (DrawLeastSpike_any a0 len0 cap0 _ CK.out (by omega)).mono ?_
          rintro e w5 ⟨x, rfl, hx0, hx1, b5⟩
          obtain ⟨u5, c5, I5, S5⟩ := least_both x hx0 hx1
          have I5 := Lib.hid I5
          have S5 := Lib.hid S5
          have B5 := Lib.hid (BK.out.trans (b5.mono BK.out.size))
          clear b5 hx0 hx1 CK
          go_wp2_with fail
          refine (I5.out _).mono ?_
          rintro e w6 ⟨rfl, b6⟩
          have B6 := Lib.hid (B5.out.trans (b6.mono B5.out.size))
          clear b6 I5
          go_wp2_with fail
          refine (S5.out _).mono ?_
          rintro e w7 ⟨rfl, b7⟩
          have B7 := Lib.hid (B6.out.trans (b7.mono B6.out.size))
          clear b7 S5
          have CL := Lib.hid (HC.out.up B7.out)
          go_wp2_with fail
          refine (DrawCountPartitions_any a0 len0 cap0 _ CL.out (by omega)).mono ?_
          rintro e w8 ⟨y, rfl, hy0, hy1, b8⟩
          obtain ⟨u8, c8, I8, S8⟩ := count_both y hy0 hy1
          have I8 := Lib.hid I8
          have S8 := Lib.hid S8
          have B8 := Lib.hid (B7.out.trans (b8.mono B7.out.size))
          clear b8 hy0 hy1 CL
          go_wp2_with fail
          refine (I8.out _).mono ?_
          rintro e w9 ⟨rfl, b9⟩
          have B9 := Lib.hid (B8.out.trans (b9.mono B8.out.size))
          clear b9 I8
          go_wp2_with fail
          refine (S8.out _).mono ?_
          rintro e w10 ⟨rfl, b10⟩
          have B10 := Lib.hid (B9.out.trans (b10.mono B9.out.size))
          clear b10 S8
          go_wp2_with fail
          go_ret
          exact ⟨rfl, B10.out⟩
    · obtain ⟨E1, E2⟩ := sk_out d hin
      rw [E1] at FG FW
      rw [E2]
      clear E1 E2 hin IM SP hd0 hd1
      go_wp2_with fail
      refine (rows5_same Vg Vw 0 _ _ VSg VSw _ _ FG.out FW.out).mono ?_
      rintro e w4 ⟨rfl, q, rfl⟩
      have BK := Lib.hid (below_drewN B3.out q)
      clear B3 FG FW
      have CK := Lib.hid (HC.out.up BK.out)
      go_wp2_with fail
      refine (DrawLeastSpike_any a0 len0 cap0 _ CK.out (by omega)).mono ?_
      rintro e w5 ⟨x, rfl, hx0, hx1, b5⟩
      obtain ⟨u5, c5, I5, S5⟩ := least_both x hx0 hx1
      have I5 := Lib.hid I5
      have S5 := Lib.hid S5
      have B5 := Lib.hid (BK.out.trans (b5.mono BK.out.size))
      clear b5 hx0 hx1 CK
      go_wp2_with fail
      refine (I5.out _).mono ?_
      rintro e w6 ⟨rfl, b6⟩
      have B6 := Lib.hid (B5.out.trans (b6.mono B5.out.size))
      clear b6 I5
      go_wp2_with fail
      refine (S5.out _).mono ?_
      rintro e w7 ⟨rfl, b7⟩
      have B7 := Lib.hid (B6.out.trans (b7.mono B6.out.size))
      clear b7 S5
      have CL := Lib.hid (HC.out.up B7.out)
      go_wp2_with fail
      refine (DrawCountPartitions_any a0 len0 cap0 _ CL.out (by omega)).mono ?_
      rintro e w8 ⟨y, rfl, hy0, hy1, b8⟩
      obtain ⟨u8, c8, I8, S8⟩ := count_both y hy0 hy1
      have I8 := Lib.hid I8
      have S8 := Lib.hid S8
      have B8 := Lib.hid (B7.out.trans (b8.mono B7.out.size))
      clear b8 hy0 hy1 CL
      go_wp2_with fail
      refine (I8.out _).mono ?_
      rintro e w9 ⟨rfl, b9⟩
      have B9 := Lib.hid (B8.out.trans (b9.mono B8.out.size))
      clear b9 I8
      go_wp2_with fail
      refine (S8.out _).mono ?_
      rintro e w10 ⟨rfl, b10⟩
      have B10 := Lib.hid (B9.out.trans (b10.mono B9.out.size))
      clear b10 S8
      go_wp2_with fail
      go_ret
      exact ⟨rfl, B10.out⟩
  · exact spikes_big a0 len0 cap0 w (by omega) hmax
end Go.Proofs.Ytfhfnjcfkpcmnaa
