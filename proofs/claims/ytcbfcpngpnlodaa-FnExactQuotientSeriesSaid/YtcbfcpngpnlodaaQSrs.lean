/-
  SeriesOfProfile on both sides.
-/
import Derived.Test.YtcbfcpngpnlodaaQRowS
namespace Go.Proofs.Ytcbfcpngpnlodaa
open Go.RowKit
set_option linter.unusedVariables false
set_option maxRecDepth 100000

theorem l07Deg_any (v : Value) (n : Nat) (G : Nat → Int) (d c : Int) (w : World) (h : RdI w v n G) (hc : (¬ okPr G n ∧ c = 1) ∨ (okPr G n ∧ ¬ (0 ≤ d ∧ d ≤ 200) ∧ c = 2) ∨ (okPr G n ∧ (0 ≤ d ∧ d ≤ 200) ∧ c = 0)) :
    Calls Try.prog 78 #[v, .int .i64 d] w fun e w' => e = .returned (.int .i64 c) ∧ w = w' := by
  rcases hc with ⟨h1, rfl⟩ | ⟨h1, h2, rfl⟩ | ⟨h1, h2, rfl⟩
  · have A := Lib.hid (l07Is_no v n G w h h1)
    clear h h1
    go_enter Try.func78, Try.ntmps78
    go_wp2_with fail
    refine A.out.mono ?_
    rintro e w' ⟨rfl, rfl⟩
    go_wp2_with fail
    go_ret
    exact ⟨rfl, rfl⟩
  · have A := Lib.hid (l07Is_yes v n G w h h1)
    have B := Lib.hid (l01In_no d 0 200 w (by omega))
    clear h h1 h2
    go_enter Try.func78, Try.ntmps78
    go_wp2_with fail
    refine A.out.mono ?_
    rintro e w' ⟨rfl, rfl⟩
    go_wp2_with fail
    refine B.out.mono ?_
    rintro e w' ⟨rfl, rfl⟩
    go_wp2_with fail
    go_ret
    exact ⟨rfl, rfl⟩
  · have A := Lib.hid (l07Is_yes v n G w h h1)
    have B := Lib.hid (l01In_yes d 0 200 w h2.1 h2.2)
    clear h h1 h2
    go_enter Try.func78, Try.ntmps78
    go_wp2_with fail
    refine A.out.mono ?_
    rintro e w' ⟨rfl, rfl⟩
    go_wp2_with fail
    refine B.out.mono ?_
    rintro e w' ⟨rfl, rfl⟩
    go_wp2_with fail
    go_ret
    exact ⟨rfl, rfl⟩

theorem rowNew_resI {d : Nat} {s : Nat → Int} {w : World} {e : Ending} {w' : World} : RowNew d s w e w' → ∃ v, e = .returned v ∧ w'.ownsRow w.heap.size 2 1 v (repS d s).length ((repS d s).map (Value.int .i64)) ∧ Below w.heap.size w w' := by
  rintro ⟨g, rfl, h1, h2⟩
  refine ⟨_, rfl, ?_, h2⟩
  rw [repS_len]
  exact h1

theorem specSer_no (v : Value) (n : Nat) (G : Nat → Int) (d c : Int) (w : World) (h : RdI w v n G) (hc0 : c ≠ 0) (hc : (¬ okPr G n ∧ c = 1) ∨ (okPr G n ∧ ¬ (0 ≤ d ∧ d ≤ 200) ∧ c = 2) ∨ (okPr G n ∧ (0 ≤ d ∧ d ≤ 200) ∧ c = 0)) :
    Calls Try.prog 46 #[v, .int .i64 d] w (ResI [] c w) := by
  have A := Lib.hid (l07Deg_any v n G d c w h hc)
  have hcn : (c != 0) = true := bne_iff_ne.2 hc0
  clear h hc hc0
  go_enter Try.func46, Try.ntmps46
  go_wp2_with fail
  refine A.out.mono ?_
  rintro e w' ⟨rfl, rfl⟩
  go_wp2_with fail
  go_ret2
  exact ⟨_, rfl, World.ownsRow_nil _ _ _ _, Below.refl _ _⟩
theorem specSer_ok (v : Value) (n d : Nat) (G : Nat → Int) (w : World) (h : RdI w v n G) (hok : okPr G n) (hd : d ≤ 200) :
    Calls Try.prog 46 #[v, .int .i64 d] w (ResI (repS d (serS (fun i => (G i).toNat) n)) 0 w) := by
  have A := Lib.hid (l07Deg_any v n G d 0 w h (.inr (.inr ⟨hok, ⟨by omega, by omega⟩, rfl⟩)))
  have B := Lib.hid (l07Series_any v n d G w h hok hd)
  clear h hok
  go_enter Try.func46, Try.ntmps46
  go_wp2_with fail
  refine A.out.mono ?_
  rintro e w' ⟨rfl, rfl⟩
  go_wp2_with fail
  refine B.out.mono ?_
  intro e w' hr
  obtain ⟨u, rfl, h1, h2⟩ := rowNew_resI hr
  go_wp2_with fail
  go_ret2
  exact ⟨u, rfl, h1, h2⟩

/-- The exponents that the program has. -/
def expP (n : Nat) (G : Nat → Int) (i : Nat) : Nat := (padF n G i).toNat
theorem serS_congr {H H' : Nat → Nat} : ∀ {n : Nat}, (∀ i, i < n → H i = H' i) → serS H n = serS H' n
  | 0, _ => rfl
  | n + 1, h => by rw [serS, serS, h n (by omega), serS_congr (fun i hi => h i (by omega))]
theorem serS_pad {n : Nat} (G : Nat → Int) (hn : n ≤ 16) : serS (expP n G) 16 = serS (fun i => (G i).toNat) n := by
  rw [serS_zero (expP n G) n (fun i hi => by unfold expP padF; rw [if_neg (by omega)]; rfl) 16 hn]
  exact serS_congr fun i hi => by unfold expP padF; rw [if_pos hi]

set_option maxHeartbeats 2000000 in
theorem implSer_ok (v : Value) (n d : Nat) (G : Nat → Int) (w : World) (h : RdI w v n G) (hok : okPr G n) (hd : d ≤ 200) :
    Calls Try.prog 47 #[v, .int .i64 d] w (ResI (repS d (serS (expP n G) 16)) 0 w) := by
  have A := Lib.hid (implIsPr_yes v n G w h hok)
  have O := Lib.hid (seriesOfOne_any d w (by omega))
  have P := Lib.hid (fun wx (hb : Below w.heap.size w wx) => profileOf_any v n G wx (h.below hb) hok.1)
  have HI : Hid (∀ j : Nat, j < 16 → ∀ w : World, (Instr.index 56 (.agg (arK (padF n G))) (.int .i64 (j : Int))).run Try.prog w = .ok (.int .i64 (padF n G j)) w) := Lib.hid fun j hj w => idxQ w _ j hj _ _ (arK_at _ j hj)
  have HN := Lib.hid (fun i => padF_nonneg hok i)
  have g1 : ¬ (d : Int) < 0 := by omega
  have g2 : ¬ (200 : Int) < (d : Int) := by omega
  clear h hok
  go_enter Try.func47, Try.ntmps47
  go_wp2_with fail
  refine A.out.mono ?_
  rintro e w' ⟨rfl, rfl⟩
  go_wp2_with fail
  refine O.out.mono ?_
  rintro e w1 ⟨g, rfl, o1, b1⟩
  have HG : w.heap.size ≤ g := (World.ownsRow.lt o1 g rfl).1
  go_wp2_with fail
  refine (P.out w1 b1).mono ?_
  rintro e w2 ⟨rfl, b2⟩
  have O2 : Hid (RowS w2 w.heap.size g d (d + 1) (serS (expP n G) 0)) := Lib.hid (own_below o1 b2)
  have B2 := Lib.hid (below_one b1 b2)
  clear o1 b1 b2 A O P
  generalize arK (padF n G) = K at *
  go_wp2_with fail
  go_loopw [7, 8, 22] (fun _ _ c wr => ∃ j : Nat, j ≤ 16 ∧ c = .int .i64 j ∧ Hid (RowS wr w.heap.size g d (d + 1) (serS (expP n G) j)) ∧ Hid (Below w.heap.size w wr)) (fun _ _ c _ => 16 - (intOf c).toNat)
  case atStart => exact ⟨0, by omega, rfl, O2, B2⟩
  case round =>
    clear O2 B2
    obtain ⟨j, hj, rfl, ho, hb⟩ := hrel
    by_cases hlt : j < 16
    · have hlt' : (j : Int) < 16 := by omega
      have hix := HI.out j hlt
      have hp := HN.out j
      obtain ⟨x, hx⟩ := Int.eq_ofNat_of_zero_le hp.1
      have E : Hid (serS (expP n G) (j + 1) = excS (stS j * 2 ^ x) (admS (stS j) (serS (expP n G) j))) := Lib.hid (by rw [serS_step]; unfold expP; rw [hx, Int.toNat_natCast])
      rw [hx] at hix hp
      have S1 := Lib.hid (fun wx => spikeNumber_any (j + 1) wx (by omega))
      have ES : Hid ((((2 ^ (j + 1) - 1 : Nat)) : Int) = ((stS j : Nat) : Int)) := Lib.hid rfl
      rw [ES.out] at S1
      have SP := stS_pos j
      have S2 : stS j ≤ 65536 := by
        have : 2 ^ (j + 1) ≤ 2 ^ 16 := Nat.pow_le_pow_right (by decide) (by omega)
        unfold stS; omega
      have hpow : 2 ^ x ≤ 2 ^ 10 := Nat.pow_le_pow_right (by decide) (by omega)
      have hpp : 0 < 2 ^ x := Nat.pow_pos (by decide)
      have hbig : stS j * 2 ^ x ≤ 65536 * 1024 := Nat.mul_le_mul S2 hpow
      have hpos : 0 < stS j * 2 ^ x := Nat.mul_pos SP hpp
      have ESH : Hid (wrap64 (((stS j : Nat) : Int) * 2 ^ x) = ((stS j * 2 ^ x : Nat) : Int)) := Lib.hid (by
        have e : ((stS j : Nat) : Int) * 2 ^ x = ((stS j * 2 ^ x : Nat) : Int) := by simp
        rw [e]
        generalize stS j * 2 ^ x = q at *
        unfold wrap64; omega)
      have AD := Lib.hid (fun wx hr => admit_any w.heap.size g d (d + 1) (stS j) (serS (expP n G) j) wx (by omega) SP (by omega) hr)
      have EX := Lib.hid (fun wx hr => exclude_any w.heap.size g d (d + 1) (stS j * 2 ^ x) (admS (stS j) (serS (expP n G) j)) wx (by omega) hpos (by omega) hr)
      have hx10 : (x : Int) ≤ 10 := by omega
      clear hp hpow hpp hbig hpos
      generalize stS j * 2 ^ x = q at *
      generalize stS j = st at *
      go_wp2_with fail
      refine (S1.out _).mono ?_
      rintro e w' ⟨rfl, rfl⟩
      go_wp2_with fail
      refine (AD.out _ ho.out).mono ?_
      rintro e w3 ⟨rfl, o3, g3, _⟩
      have O3 := Lib.hid o3
      have B3 := Lib.hid (hb.out.grown g3 hb.out.size (fun k hk => by cases hk; exact HG))
      clear o3 g3 ho hb AD
      go_wp2_with fail
      refine (S1.out _).mono ?_
      rintro e w' ⟨rfl, rfl⟩
      go_wp2_with fail
      rw [ESH.out]
      refine (EX.out _ O3.out).mono ?_
      rintro e w4 ⟨rfl, o4, g4, _⟩
      have O4 : Hid (RowS w4 w.heap.size g d (d + 1) (serS (expP n G) (j + 1))) := Lib.hid (by rw [E.out]; exact o4)
      have B4 := Lib.hid (B3.out.grown g4 B3.out.size (fun k hk => by cases hk; exact HG))
      clear o4 g4 O3 B3 EX
      go_wp2_with fail
      go_roundw
      case rel => exact ⟨j + 1, by omega, by go_num, O4, B4⟩
      case measure => simp [intOf]; omega
    · have hlt' : ¬ (j : Int) < 16 := by omega
      obtain rfl : j = 16 := by omega
      have F : Hid (wr.ownsRow w.heap.size 2 1 (.slice (some ⟨g, 0, none⟩) (d + 1) (d + 1)) (repS d (serS (expP n G) 16)).length ((repS d (serS (expP n G) 16)).map (Value.int .i64))) := Lib.hid (by rw [repS_len]; exact ho.out)
      clear ho
      go_wp2_with fail
      go_ret2
      exact ⟨_, rfl, F.out, hb.out⟩
theorem implSer_bad (v : Value) (n : Nat) (G : Nat → Int) (d : Int) (w : World) (h : RdI w v n G) (hok : ¬ okPr G n) :
    Calls Try.prog 47 #[v, .int .i64 d] w (ResI [] 1 w) := by
  have A := Lib.hid (implIsPr_no v n G w h hok)
  clear h hok
  go_enter Try.func47, Try.ntmps47
  go_wp2_with fail
  refine A.out.mono ?_
  rintro e w' ⟨rfl, rfl⟩
  go_wp2_with fail
  go_ret2
  exact ⟨_, rfl, World.ownsRow_nil _ _ _ _, Below.refl _ _⟩
theorem implSer_out (v : Value) (n : Nat) (G : Nat → Int) (d : Int) (w : World) (h : RdI w v n G) (hok : okPr G n) (hd : ¬ (0 ≤ d ∧ d ≤ 200)) :
    Calls Try.prog 47 #[v, .int .i64 d] w (ResI [] 2 w) := by
  have A := Lib.hid (implIsPr_yes v n G w h hok)
  clear h hok
  by_cases g1 : d < 0
  · clear hd
    go_enter Try.func47, Try.ntmps47
    go_wp2_with fail
    refine A.out.mono ?_
    rintro e w' ⟨rfl, rfl⟩
    go_wp2_with fail
    go_ret2
    exact ⟨_, rfl, World.ownsRow_nil _ _ _ _, Below.refl _ _⟩
  · have g2 : 200 < d := by omega
    clear hd
    go_enter Try.func47, Try.ntmps47
    go_wp2_with fail
    refine A.out.mono ?_
    rintro e w' ⟨rfl, rfl⟩
    go_wp2_with fail
    go_ret2
    exact ⟨_, rfl, World.ownsRow_nil _ _ _ _, Below.refl _ _⟩

theorem SeriesOfProfile_both (n : Nat) (G : Nat → Int) (hb : ∀ i, -9223372036854775808 ≤ G i ∧ G i ≤ 9223372036854775807) (d : Int) (hw : (Lit.int .i64 d).wf = true) :
    ∃ (zs : List Int) (c : Int), zs.length ≤ 1048576 ∧
    (∀ v w, RdI w v n G → Calls Try.prog 46 #[v, .int .i64 d] w (ResI zs c w)) ∧
    (∀ v w, RdI w v n G → Calls Try.prog 47 #[v, .int .i64 d] w (ResI zs c w)) := by
  by_cases hok : okPr G n
  · by_cases hd : 0 ≤ d ∧ d ≤ 200
    · obtain ⟨D, rfl⟩ := Int.eq_ofNat_of_zero_le hd.1
      refine ⟨_, 0, ?_, fun v w h => specSer_ok v n D G w h hok (by omega), fun v w h => ?_⟩
      · rw [repS_len]; omega
      · have := implSer_ok v n D G w h hok (by omega)
        rw [serS_pad G hok.1] at this
        exact this
    · exact ⟨[], 2, by decide, fun v w h => specSer_no v n G d 2 w h (by decide) (.inr (.inl ⟨hok, hd, rfl⟩)), fun v w h => implSer_out v n G d w h hok hd⟩
  · exact ⟨[], 1, by decide, fun v w h => specSer_no v n G d 1 w h (by decide) (.inl ⟨hok, rfl⟩), fun v w h => implSer_bad v n G d w h hok⟩
end Go.Proofs.Ytcbfcpngpnlodaa
