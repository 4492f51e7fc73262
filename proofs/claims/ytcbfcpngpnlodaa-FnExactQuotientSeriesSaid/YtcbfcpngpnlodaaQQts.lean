/-
  QuotientSeries on both sides.
-/
import Derived.Test.YtcbfcpngpnlodaaQDiv
import Derived.Test.YtcbfcpngpnlodaaQIscB
import Derived.Test.YtcbfcpngpnlodaaWCount
namespace Go.Proofs.Ytcbfcpngpnlodaa
open Go.RowKit
set_option linter.unusedVariables false
set_option maxRecDepth 100000

theorem specQts_no (v : Value) (n : Nat) (G : Nat → Int) (d c : Int) (w : World) (h : RdI w v n G) (hc0 : c ≠ 0) (hc : (¬ okPr G n ∧ c = 1) ∨ (okPr G n ∧ ¬ (0 ≤ d ∧ d ≤ 200) ∧ c = 2) ∨ (okPr G n ∧ (0 ≤ d ∧ d ≤ 200) ∧ c = 0)) :
    Calls Try.prog 48 #[v, .int .i64 d] w (ResI [] c w) := by
  have A := Lib.hid (l07Deg_any v n G d c w h hc)
  have hcn : (c != 0) = true := bne_iff_ne.2 hc0
  clear h hc hc0
  go_enter Try.func48, Try.ntmps48
  go_wp2_with fail
  refine A.out.mono ?_
  rintro e w' ⟨rfl, rfl⟩
  go_wp2_with fail
  go_ret2
  exact ⟨_, rfl, World.ownsRow_nil _ _ _ _, Below.refl _ _⟩
theorem specQts_open (v : Value) (n d : Nat) (G : Nat → Int) (w : World) (h : RdI w v n G) (hok : okPr G n) (hd : d ≤ 200) (hcl : isCl (padF n G) = false) :
    Calls Try.prog 48 #[v, .int .i64 d] w (ResI [] 5 w) := by
  have A := Lib.hid (l07Deg_any v n G d 0 w h (.inr (.inr ⟨hok, ⟨by omega, by omega⟩, rfl⟩)))
  have B := l07Closed_any v n G w h hok
  rw [hcl] at B
  have B := Lib.hid B
  clear h hok hcl
  go_enter Try.func48, Try.ntmps48
  go_wp2_with fail
  refine A.out.mono ?_
  rintro e w' ⟨rfl, rfl⟩
  go_wp2_with fail
  refine B.out.mono ?_
  rintro e w' ⟨rfl, rfl⟩
  go_wp2_with fail
  go_ret2
  exact ⟨_, rfl, World.ownsRow_nil _ _ _ _, Below.refl _ _⟩
/-- The quotient series of a profile. -/
def quoP (n : Nat) (G : Nat → Int) : Nat → Int := admAll (expP n G) oneS 16
theorem quo_div (n d : Nat) (G : Nat → Int) (hn : n ≤ 16) (hd : d ≤ 200) (m : Nat) (hm : m ≤ d) : quoP n G m = divTo (serS (fun i => (G i).toNat) n) (quoP n G) (cntS 301) m m := by
  have h1 := conv_quo (expP n G) 16
  have h2 := quo_at (serS (expP n G) 16) (quoP n G) (cntS 16) h1 (ser_zero _ _) m
  rw [serS_pad G hn] at h2
  rw [h2]
  unfold divTo
  congr 1
  exact (cnt_agree (d := d) 16 (fun k hk => by have := stS_big hk; omega) 285 m hm).symm
set_option maxHeartbeats 1000000 in
theorem specQts_ok (v : Value) (n d : Nat) (G : Nat → Int) (w : World) (h : RdI w v n G) (hok : okPr G n) (hd : d ≤ 200) (hcl : isCl (padF n G) = true) :
    Calls Try.prog 48 #[v, .int .i64 d] w (ResI (repS d (quoP n G)) 0 w) := by
  have A := Lib.hid (l07Deg_any v n G d 0 w h (.inr (.inr ⟨hok, ⟨by omega, by omega⟩, rfl⟩)))
  have B := l07Closed_any v n G w h hok
  rw [hcl] at B
  have B := Lib.hid B
  have C := Lib.hid (specCount_any d w (by omega))
  have S := Lib.hid (fun wx (hb : Below w.heap.size w wx) => l07Series_any v n d G wx (h.below hb) hok hd)
  have HQ := Lib.hid (quo_div n d G hok.1 hd)
  clear h hok hcl
  go_enter Try.func48, Try.ntmps48
  go_wp2_with fail
  refine A.out.mono ?_
  rintro e w' ⟨rfl, rfl⟩
  go_wp2_with fail
  refine B.out.mono ?_
  rintro e w' ⟨rfl, rfl⟩
  go_wp2_with fail
  refine C.out.mono ?_
  rintro e w1 ⟨g, rfl, o1, b1⟩
  rw [cpTo_rep] at o1
  go_wp2_with fail
  refine (S.out w1 b1).mono ?_
  rintro e w2 ⟨g2, rfl, o2, b2⟩
  have O1 := Lib.hid (own_below o1 b2)
  have O2 := Lib.hid (own_base o2 b1.size)
  have B2 := Lib.hid (below_one b1 b2)
  clear o1 o2 b1 b2 A B C S
  go_wp2_with fail
  refine (l07Divide_any _ _ d (serS (fun i => (G i).toNat) n) (quoP n G) (cntS 301) w.heap.size w2 hd O1.out O2.out HQ.out).mono ?_
  rintro e w3 ⟨u, rfl, o3, b3⟩
  have O3 := Lib.hid (own_base o3 B2.out.size)
  have B3 := Lib.hid (below_one B2.out b3)
  clear o3 b3
  go_wp2_with fail
  go_ret2
  exact ⟨u, rfl, O3.out, B3.out⟩

theorem implQts_bad (v : Value) (n : Nat) (G : Nat → Int) (d : Int) (w : World) (h : RdI w v n G) (hok : ¬ okPr G n) :
    Calls Try.prog 49 #[v, .int .i64 d] w (ResI [] 1 w) := by
  have A := Lib.hid (implIsPr_no v n G w h hok)
  clear h hok
  go_enter Try.func49, Try.ntmps49
  go_wp2_with fail
  refine A.out.mono ?_
  rintro e w' ⟨rfl, rfl⟩
  go_wp2_with fail
  go_ret2
  exact ⟨_, rfl, World.ownsRow_nil _ _ _ _, Below.refl _ _⟩
theorem implQts_out (v : Value) (n : Nat) (G : Nat → Int) (d : Int) (w : World) (h : RdI w v n G) (hok : okPr G n) (hd : ¬ (0 ≤ d ∧ d ≤ 200)) :
    Calls Try.prog 49 #[v, .int .i64 d] w (ResI [] 2 w) := by
  have A := Lib.hid (implIsPr_yes v n G w h hok)
  clear h hok
  by_cases g1 : d < 0
  · clear hd
    go_enter Try.func49, Try.ntmps49
    go_wp2_with fail
    refine A.out.mono ?_
    rintro e w' ⟨rfl, rfl⟩
    go_wp2_with fail
    go_ret2
    exact ⟨_, rfl, World.ownsRow_nil _ _ _ _, Below.refl _ _⟩
  · have g2 : 200 < d := by omega
    clear hd
    go_enter Try.func49, Try.ntmps49
    go_wp2_with fail
    refine A.out.mono ?_
    rintro e w' ⟨rfl, rfl⟩
    go_wp2_with fail
    go_ret2
    exact ⟨_, rfl, World.ownsRow_nil _ _ _ _, Below.refl _ _⟩
theorem implQts_open (v : Value) (n d : Nat) (G : Nat → Int) (w : World) (h : RdI w v n G) (hok : okPr G n) (hd : d ≤ 200) (hcl : isCl (padF n G) = false) :
    Calls Try.prog 49 #[v, .int .i64 d] w (ResI [] 5 w) := by
  have A := Lib.hid (implIsPr_yes v n G w h hok)
  have P := Lib.hid (profileOf_any v n G w h hok.1)
  have C := fun wx => isClosed_any (padF n G) (pad_ten hok) wx
  rw [hcl] at C
  have C := Lib.hid C
  have g1 : ¬ (d : Int) < 0 := by omega
  have g2 : ¬ (200 : Int) < (d : Int) := by omega
  clear h hok hcl
  go_enter Try.func49, Try.ntmps49
  go_wp2_with fail
  refine A.out.mono ?_
  rintro e w' ⟨rfl, rfl⟩
  go_wp2_with fail
  refine P.out.mono ?_
  rintro e w1 ⟨rfl, b1⟩
  go_wp2_with fail
  refine (C.out _).mono ?_
  rintro e w2 ⟨rfl, b2⟩
  have B2 := Lib.hid (below_one b1 b2)
  clear b1 b2
  go_wp2_with fail
  go_ret2
  exact ⟨_, rfl, World.ownsRow_nil _ _ _ _, B2.out⟩

set_option maxHeartbeats 2000000 in
theorem implQts_ok (v : Value) (n d : Nat) (G : Nat → Int) (w : World) (h : RdI w v n G) (hok : okPr G n) (hd : d ≤ 200) (hcl : isCl (padF n G) = true) :
    Calls Try.prog 49 #[v, .int .i64 d] w (ResI (repS d (quoP n G)) 0 w) := by
  have A := Lib.hid (implIsPr_yes v n G w h hok)
  have O := Lib.hid (fun wx => seriesOfOne_any d wx (by omega))
  have P := Lib.hid (fun wx (hb : Below w.heap.size w wx) => profileOf_any v n G wx (h.below hb) hok.1)
  have C := fun wx => isClosed_any (padF n G) (pad_ten hok) wx
  rw [hcl] at C
  have C := Lib.hid C
  have HI : Hid (∀ j : Nat, j < 16 → ∀ w : World, (Instr.index 56 (.agg (arK (padF n G))) (.int .i64 (j : Int))).run Try.prog w = .ok (.int .i64 (padF n G j)) w) := Lib.hid fun j hj w => idxQ w _ j hj _ _ (arK_at _ j hj)
  have HN := Lib.hid (fun i => padF_nonneg hok i)
  have g1 : ¬ (d : Int) < 0 := by omega
  have g2 : ¬ (200 : Int) < (d : Int) := by omega
  clear h hok hcl
  go_enter Try.func49, Try.ntmps49
  go_wp2_with fail
  refine A.out.mono ?_
  rintro e w' ⟨rfl, rfl⟩
  go_wp2_with fail
  refine (P.out w (Below.refl _ _)).mono ?_
  rintro e w1 ⟨rfl, b1⟩
  go_wp2_with fail
  refine (C.out _).mono ?_
  rintro e w2 ⟨rfl, b2⟩
  have B2 := Lib.hid (below_one b1 b2)
  clear b1 b2
  go_wp2_with fail
  refine (O.out w2).mono ?_
  rintro e w3 ⟨g, rfl, o3, b3⟩
  have B3 := Lib.hid (below_one B2.out b3)
  have HG : w.heap.size ≤ g := Nat.le_trans B2.out.size (World.ownsRow.lt o3 g rfl).1
  go_wp2_with fail
  refine (P.out w3 B3.out).mono ?_
  rintro e w4 ⟨rfl, b4⟩
  have O4 : Hid (RowS w4 w.heap.size g d (d + 1) (admAll (expP n G) oneS 0)) := Lib.hid (own_base (own_below o3 b4) B2.out.size)
  have B4 := Lib.hid (below_one B3.out b4)
  clear o3 b3 b4 A O P C B2 B3
  generalize arK (padF n G) = K at *
  go_wp2_with fail
  go_loopw [7, 8, 26] (fun _ _ c wr => ∃ j : Nat, j ≤ 16 ∧ c = .int .i64 j ∧ Hid (RowS wr w.heap.size g d (d + 1) (admAll (expP n G) oneS j)) ∧ Hid (Below w.heap.size w wr)) (fun _ _ c _ => 16 - (intOf c).toNat)
  case atStart => exact ⟨0, by omega, rfl, O4, B4⟩
  case round =>
    clear O4 B4
    obtain ⟨j, hj, rfl, ho, hb⟩ := hrel
    by_cases hlt : j < 16
    · have hlt' : (j : Int) < 16 := by omega
      have hix := HI.out j hlt
      have hp := HN.out j
      obtain ⟨x, hx⟩ := Int.eq_ofNat_of_zero_le hp.1
      have E : Hid (admAll (expP n G) oneS (j + 1) = admS (stS j * 2 ^ x) (admAll (expP n G) oneS j)) := Lib.hid (by rw [admAll]; unfold stQ expP; rw [hx, Int.toNat_natCast])
      rw [hx] at hix hp
      have S1 := Lib.hid (fun wx => spikeNumber_any (j + 1) wx (by omega))
      have ES : Hid ((((2 ^ (j + 1) - 1 : Nat)) : Int) = ((stS j : Nat) : Int)) := Lib.hid rfl
      rw [ES.out] at S1
      have SP := stS_pos j
      have S2 : stS j ≤ 65536 := by
        have : 2 ^ (j + 1) ≤ 2 ^ 16 := Nat.pow_le_pow_right (by decide) (by omega)
        unfold stS; omega
      have hpow : 2 ^ x ≤ 2 ^ 10 := Nat.pow_le_pow_right (by decide) (by omega)
      have hpp : 0 < 2 ^ x := Nat.pow_pos (by decide)
      have hbig : stS j * 2 ^ x ≤ 65536 * 1024 := Nat.mul_le_mul S2 hpow
      have hpos : 0 < stS j * 2 ^ x := Nat.mul_pos SP hpp
      have ESH : Hid (wrap64 (((stS j : Nat) : Int) * 2 ^ x) = ((stS j * 2 ^ x : Nat) : Int)) := Lib.hid (by
        have e : ((stS j : Nat) : Int) * 2 ^ x = ((stS j * 2 ^ x : Nat) : Int) := by simp
        rw [e]
        generalize stS j * 2 ^ x = q at *
        unfold wrap64; omega)
      have AD := Lib.hid (fun wx hr => admit_any w.heap.size g d (d + 1) (stS j * 2 ^ x) (admAll (expP n G) oneS j) wx (by omega) hpos (by omega) hr)
      have hx10 : (x : Int) ≤ 10 := by omega
      clear hp hpow hpp hbig hpos
      generalize stS j * 2 ^ x = q at *
      generalize stS j = st at *
      go_wp2_with fail
      refine (S1.out _).mono ?_
      rintro e w' ⟨rfl, rfl⟩
      go_wp2_with fail
      rw [ESH.out]
      refine (AD.out _ ho.out).mono ?_
      rintro e w5 ⟨rfl, o5, g5, _⟩
      have O5 : Hid (RowS w5 w.heap.size g d (d + 1) (admAll (expP n G) oneS (j + 1))) := Lib.hid (by rw [E.out]; exact o5)
      have B5 := Lib.hid (hb.out.grown g5 hb.out.size (fun k hk => by cases hk; exact HG))
      clear o5 g5 ho hb AD
      go_wp2_with fail
      go_roundw
      case rel => exact ⟨j + 1, by omega, by go_num, O5, B5⟩
      case measure => simp [intOf]; omega
    · have hlt' : ¬ (j : Int) < 16 := by omega
      obtain rfl : j = 16 := by omega
      have F : Hid (wr.ownsRow w.heap.size 2 1 (.slice (some ⟨g, 0, none⟩) (d + 1) (d + 1)) (repS d (quoP n G)).length ((repS d (quoP n G)).map (Value.int .i64))) := Lib.hid (by rw [repS_len]; exact ho.out)
      clear ho
      go_wp2_with fail
      go_ret2
      exact ⟨_, rfl, F.out, hb.out⟩

theorem QuotientSeries_both (n : Nat) (G : Nat → Int) (hb : ∀ i, -9223372036854775808 ≤ G i ∧ G i ≤ 9223372036854775807) (d : Int) (hw : (Lit.int .i64 d).wf = true) :
    ∃ (zs : List Int) (c : Int), zs.length ≤ 1048576 ∧
    (∀ v w, RdI w v n G → Calls Try.prog 48 #[v, .int .i64 d] w (ResI zs c w)) ∧
    (∀ v w, RdI w v n G → Calls Try.prog 49 #[v, .int .i64 d] w (ResI zs c w)) := by
  by_cases hok : okPr G n
  · by_cases hd : 0 ≤ d ∧ d ≤ 200
    · obtain ⟨D, rfl⟩ := Int.eq_ofNat_of_zero_le hd.1
      cases hcl : isCl (padF n G) with
      | true =>
        refine ⟨_, 0, ?_, fun v w h => specQts_ok v n D G w h hok (by omega) hcl, fun v w h => implQts_ok v n D G w h hok (by omega) hcl⟩
        rw [repS_len]; omega
      | false => exact ⟨[], 5, by decide, fun v w h => specQts_open v n D G w h hok (by omega) hcl, fun v w h => implQts_open v n D G w h hok (by omega) hcl⟩
    · exact ⟨[], 2, by decide, fun v w h => specQts_no v n G d 2 w h (by decide) (.inr (.inl ⟨hok, hd, rfl⟩)), fun v w h => implQts_out v n G d w h hok hd⟩
  · exact ⟨[], 1, by decide, fun v w h => specQts_no v n G d 1 w h (by decide) (.inl ⟨hok, rfl⟩), fun v w h => implQts_bad v n G d w h hok⟩
end Go.Proofs.Ytcbfcpngpnlodaa
