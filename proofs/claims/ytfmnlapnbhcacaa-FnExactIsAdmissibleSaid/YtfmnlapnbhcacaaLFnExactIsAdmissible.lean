/-
  Admissible words: contracts of spec.IsAdmissible and impl.IsAdmissible, and the walk of laws.FnExactIsAdmissible.
-/
import Derived.Test.YtfmnlapnbhcacaaWWord
import Derived.Deep.QuietTactic
import Derived.BigQuiet
namespace Go.Proofs.Ytfmnlapnbhcacaa
open Go.RowKit
set_option maxRecDepth 100000
set_option linter.unusedVariables false

/-- The integer before is at least twice the integer i. -/
def okAdm (G : Nat → Int) (i : Nat) : Prop := 0 < i → 2 * G i ≤ G (i - 1)
/-- A call that only reads answers v. -/
def Tells (v : Value) (w : World) (e : Ending) (w' : World) : Prop := e = .returned v ∧ ∃ q, w' = w.drewN q

theorem l03Adm_some (v : Value) (n z : Nat) (r : Bool) (G : Nat → Int) (w : World) (h : RdI w v n G) (hz : z ≤ n) (hn20 : n ≤ 20) (hw : ∀ i, i < n → 1 ≤ G i ∧ G i ≤ 40) (hgood : ∀ i, i < z → okAdm G i)
    (hend : (z = n ∧ r = true) ∨ (0 < z ∧ z < n ∧ ¬ okAdm G z ∧ r = false)) :
    Calls Try.prog 105 #[v] w (Tells (.bool r) w) := by
  obtain ⟨a, cap, rfl, hm, hc⟩ := h
  by_cases h0 : n = 0
  · subst h0
    obtain ⟨_, rfl⟩ := hend.resolve_right (fun h => by omega)
    clear hc hgood hend hw
    go_enter Try.func105, Try.ntmps105
    go_wp2
    refine wp_loop_rounds 1 ?_
    rw [rounds_succ]
    go_wp2
    go_ret
    exact ⟨rfl, 0, rfl⟩
  · obtain ⟨b, off, rfl, hc'⟩ := hc.resolve_left h0
    have HC := Lib.hid hc'
    have HO := Lib.hid hgood
    have HE := Lib.hid hend
    have HW := Lib.hid hw
    clear hc hc' hgood hend hw
    go_enter Try.func105, Try.ntmps105
    go_wp2
    go_loopw [3] (fun c wr => ∃ k q : Nat, 1 ≤ k ∧ (k ≤ z ∨ k = 1) ∧ c = .int .i64 k ∧ Hid (wr = w.drewN q)) (fun c _ => n - (intOf c).toNat)
    case atStart => exact ⟨1, 0, by omega, by omega, rfl, Lib.hid rfl⟩
    case round =>
      obtain ⟨k, q, hk1, hk2, rfl, hwr⟩ := hrel
      by_cases hkn : k < n
      · have hlt' : (k : Int) < (n : Int) := by omega
        have hk1' : (1 : Int) ≤ (k : Int) := by omega
        have hkm' : (k : Int) - 1 < (n : Int) := by omega
        have c1 : wr.cell? ⟨b, off + k, none⟩ = some (.int .i64 (G k)) := by rw [hwr.out]; exact HC.out k hkn
        have c2 : wr.cell? ⟨b, off + (k - 1), none⟩ = some (.int .i64 (G (k - 1))) := by rw [hwr.out]; exact HC.out (k - 1) (by omega)
        have w1 := HW.out k hkn
        have w2 := HW.out (k - 1) (by omega)
        by_cases hlt : k < z
        · have ha := HO.out k hlt (by omega)
          generalize G k = x at c1 w1 ha
          generalize G (k - 1) = y at c2 w2 ha
          have g1 : ¬ y < 2 * x := by omega
          go_wp2
          go_quiet (fail)
          go_wp2
          go_roundw
          case rel => exact ⟨k + 1, q + nq, by omega, by omega, by go_num, Lib.hid (by rw [hwr.out]; exact World.drewN_drewN ..)⟩
          case measure => simp [intOf]; omega
        · obtain ⟨hzp, _, hbad, rfl⟩ : 0 < z ∧ z < n ∧ ¬ okAdm G z ∧ r = false := by
            rcases HE.out with ⟨h1, h2⟩ | h1
            · omega
            · exact h1
          obtain rfl : k = z := by omega
          have hb : G (k - 1) < 2 * G k := by
            apply Decidable.byContradiction
            intro hc
            exact hbad (fun _ => by omega)
          clear hbad
          generalize G k = x at c1 w1 hb
          generalize G (k - 1) = y at c2 w2 hb
          go_wp2
          go_quiet (fail)
          go_wp2
          go_ret
          exact ⟨rfl, q + nq, by rw [hwr.out]; exact World.drewN_drewN ..⟩
      · obtain rfl : r = true := by
          rcases HE.out with ⟨_, h⟩ | ⟨_, h, _⟩
          · exact h
          · omega
        go_wp2
        go_ret
        exact ⟨rfl, q, hwr.out⟩

theorem implAdm_some (v : Value) (n z : Nat) (r : Bool) (G : Nat → Int) (w : World) (h : RdI w v n G) (hz : z ≤ n) (hok : okWord G n) (hb : ∀ i, -9223372036854775808 ≤ G i ∧ G i ≤ 9223372036854775807) (hgood : ∀ i, i < z → okAdm G i)
    (hend : (z = n ∧ r = true) ∨ (0 < z ∧ z < n ∧ ¬ okAdm G z ∧ r = false)) :
    Calls Try.prog 52 #[v] w (Tells (.tuple #[.bool r, .int .i64 0]) w) := by
  have A := Lib.hid (isWord_yes v n G w h hok hb)
  have hw := hok.le
  have hn20 := hok.1
  clear hb hok
  obtain ⟨a, cap, rfl, hm, hc⟩ := h
  by_cases h0 : n = 0
  · subst h0
    obtain ⟨_, rfl⟩ := hend.resolve_right (fun h => by omega)
    clear hc hgood hend hw
    go_enter Try.func52, Try.ntmps52
    go_wp2_with fail
    refine A.out.mono ?_
    rintro e w' ⟨rfl, rfl⟩
    go_wp2_with fail
    refine wp_loop_rounds 1 ?_
    rw [rounds_succ]
    go_wp2
    go_ret2
    exact ⟨rfl, 0, rfl⟩
  · obtain ⟨b, off, rfl, hc'⟩ := hc.resolve_left h0
    have HC := Lib.hid hc'
    have HO := Lib.hid hgood
    have HE := Lib.hid hend
    have HW := Lib.hid hw
    clear hc hc' hgood hend hw
    go_enter Try.func52, Try.ntmps52
    go_wp2_with fail
    refine A.out.mono ?_
    rintro e w' ⟨rfl, rfl⟩
    clear A
    go_wp2_with fail
    go_loopw [4] (fun c wr => ∃ k q : Nat, 1 ≤ k ∧ (k ≤ z ∨ k = 1) ∧ c = .int .i64 k ∧ Hid (wr = w.drewN q)) (fun c _ => n - (intOf c).toNat)
    case atStart => exact ⟨1, 0, by omega, by omega, rfl, Lib.hid rfl⟩
    case round =>
      obtain ⟨k, q, hk1, hk2, rfl, hwr⟩ := hrel
      by_cases hkn : k < n
      · have hlt' : (k : Int) < (n : Int) := by omega
        have hk1' : (1 : Int) ≤ (k : Int) := by omega
        have hkm' : (k : Int) - 1 < (n : Int) := by omega
        have c1 : wr.cell? ⟨b, off + k, none⟩ = some (.int .i64 (G k)) := by rw [hwr.out]; exact HC.out k hkn
        have c2 : wr.cell? ⟨b, off + (k - 1), none⟩ = some (.int .i64 (G (k - 1))) := by rw [hwr.out]; exact HC.out (k - 1) (by omega)
        have w1 := HW.out k hkn
        have w2 := HW.out (k - 1) (by omega)
        by_cases hlt : k < z
        · have ha := HO.out k hlt (by omega)
          generalize G k = x at c1 w1 ha
          generalize G (k - 1) = y at c2 w2 ha
          have g1 : ¬ y < 2 * x := by omega
          go_wp2
          go_quiet (fail)
          go_wp2
          go_roundw
          case rel => exact ⟨k + 1, q + nq, by omega, by omega, by go_num, Lib.hid (by rw [hwr.out]; exact World.drewN_drewN ..)⟩
          case measure => simp [intOf]; omega
        · obtain ⟨hzp, _, hbad, rfl⟩ : 0 < z ∧ z < n ∧ ¬ okAdm G z ∧ r = false := by
            rcases HE.out with ⟨h1, h2⟩ | h1
            · omega
            · exact h1
          obtain rfl : k = z := by omega
          have hb : G (k - 1) < 2 * G k := by
            apply Decidable.byContradiction
            intro hc
            exact hbad (fun _ => by omega)
          clear hbad
          generalize G k = x at c1 w1 hb
          generalize G (k - 1) = y at c2 w2 hb
          go_wp2
          go_quiet (fail)
          go_wp2
          go_ret2
          exact ⟨rfl, q + nq, by rw [hwr.out]; exact World.drewN_drewN ..⟩
      · obtain rfl : r = true := by
          rcases HE.out with ⟨_, h⟩ | ⟨_, h, _⟩
          · exact h
          · omega
        go_wp2
        go_ret2
        exact ⟨rfl, q, hwr.out⟩

theorem specAdm_ok (v : Value) (n : Nat) (r : Bool) (G : Nat → Int) (w : World) (h : RdI w v n G) (hok : okWord G n) (A : Calls Try.prog 105 #[v] w (Tells (.bool r) w)) :
    Calls Try.prog 50 #[v] w (Tells (.tuple #[.bool r, .int .i64 0]) w) := by
  have W := Lib.hid (l03Word_yes v n G w h hok)
  have A := Lib.hid A
  clear h hok
  go_enter Try.func50, Try.ntmps50
  go_wp2_with fail
  refine W.out.mono ?_
  rintro e w' ⟨rfl, rfl⟩
  go_wp2_with fail
  refine A.out.mono ?_
  rintro e w' ⟨rfl, q, rfl⟩
  go_wp2_with fail
  go_ret2
  exact ⟨rfl, q, rfl⟩
theorem specAdm_bad (v : Value) (n : Nat) (G : Nat → Int) (w : World) (h : RdI w v n G) (hok : ¬ okWord G n) :
    Calls Try.prog 50 #[v] w (Tells (.tuple #[.bool false, .int .i64 1]) w) := by
  have W := Lib.hid (l03Word_no v n G w h hok)
  clear h hok
  go_enter Try.func50, Try.ntmps50
  go_wp2_with fail
  refine W.out.mono ?_
  rintro e w' ⟨rfl, rfl⟩
  go_wp2_with fail
  go_ret2
  exact ⟨rfl, 0, rfl⟩
theorem implAdm_bad (v : Value) (n : Nat) (G : Nat → Int) (w : World) (h : RdI w v n G) (hok : ¬ okWord G n) (hb : ∀ i, -9223372036854775808 ≤ G i ∧ G i ≤ 9223372036854775807) :
    Calls Try.prog 52 #[v] w (Tells (.tuple #[.bool false, .int .i64 1]) w) := by
  have W := Lib.hid (isWord_no v n G w h hok hb)
  clear h hok
  go_enter Try.func52, Try.ntmps52
  go_wp2_with fail
  refine W.out.mono ?_
  rintro e w' ⟨rfl, rfl⟩
  go_wp2_with fail
  go_ret2
  exact ⟨rfl, 0, rfl⟩

theorem adm_both (n : Nat) (G : Nat → Int) (hb : ∀ i, -9223372036854775808 ≤ G i ∧ G i ≤ 9223372036854775807) : ∃ r c,
    (∀ v w, RdI w v n G → Calls Try.prog 50 #[v] w (Tells (.tuple #[.bool r, .int .i64 c]) w)) ∧
    (∀ v w, RdI w v n G → Calls Try.prog 52 #[v] w (Tells (.tuple #[.bool r, .int .i64 c]) w)) := by
  by_cases hok : okWord G n
  · by_cases ha : ∀ i, i < n → okAdm G i
    · exact ⟨true, 0, fun v w h => specAdm_ok v n true G w h hok (l03Adm_some v n n true G w h (Nat.le_refl _) hok.1 hok.le ha (.inl ⟨rfl, rfl⟩)),
        fun v w h => implAdm_some v n n true G w h (Nat.le_refl _) hok hb ha (.inl ⟨rfl, rfl⟩)⟩
    · obtain ⟨z, hz, hbad, hgood⟩ := first_bad0 (okAdm G) n ha
      have hz0 : 0 < z := Decidable.byContradiction fun h => hbad (fun h' => absurd h' h)
      exact ⟨false, 0, fun v w h => specAdm_ok v n false G w h hok (l03Adm_some v n z false G w h (by omega) hok.1 hok.le hgood (.inr ⟨hz0, hz, hbad, rfl⟩)),
        fun v w h => implAdm_some v n z false G w h (by omega) hok hb hgood (.inr ⟨hz0, hz, hbad, rfl⟩)⟩
  · exact ⟨false, 1, fun v w h => specAdm_bad v n G w h hok, fun v w h => implAdm_bad v n G w h hok hb⟩

theorem walk_FnExactIsAdmissible (a0 : Option Addr) (len0 cap0 : Nat) (z0 : List Int) (w : World) (w0 : IsRow .i64 w a0 len0 cap0 z0) :
    Calls Try.prog 6 #[.slice a0 len0 cap0] w fun e w' => e = .returned (.bool true) ∧ Below w.heap.size w w' := by
  have hr := w0.rd
  have hb : ∀ i, -9223372036854775808 ≤ (fun i => z0.getD i 0) i ∧ (fun i => z0.getD i 0) i ≤ 9223372036854775807 := w0.bounds
  clear w0
  generalize (fun i => z0.getD i 0) = G at hr hb
  by_cases hbig : len0 ≤ 1048576
  · have hbig' : (len0 : Int) ≤ 1048576 := by omega
    obtain ⟨r, c, S, I⟩ := adm_both len0 G hb
    have hrr : (r != r) = false := bne_self_eq_false _
    have S := Lib.hid S
    have I := Lib.hid I
    have R := Lib.hid hr
    clear hr hb
    go_enter Try.func6, Try.ntmps6
    go_wp2_with fail
    refine (toInt64S_any _ len0 G _ (by omega) R.out).mono ?_
    rintro e w1 ⟨v1, rfl, o1, b1⟩
    have r1 := Lib.hid ((rd_of_own o1 (cpy_length G len0 len0).symm).congr (cpy_get G len0))
    have B1 := Lib.hid b1
    have R1 := Lib.hid (R.out.below b1)
    clear o1 b1 R
    go_wp2_with fail
    refine (S.out _ _ r1.out).mono ?_
    rintro e w2 ⟨rfl, q2, rfl⟩
    have B2 := Lib.hid (below_drewN B1.out q2)
    go_wp2_with fail
    refine (toInt64S_any _ len0 G _ (by omega) (R1.out.drewN q2)).mono ?_
    rintro e w3 ⟨v3, rfl, o3, b3⟩
    have r3 := Lib.hid ((rd_of_own o3 (cpy_length G len0 len0).symm).congr (cpy_get G len0))
    have B3 := Lib.hid (B2.out.trans (b3.mono B2.out.size))
    have R3 := Lib.hid ((R1.out.drewN q2).below b3)
    clear o3 b3 B2 B1 R1 r1
    go_wp2_with fail
    refine (I.out _ _ r3.out).mono ?_
    rintro e w4 ⟨rfl, q4, rfl⟩
    have B4 := Lib.hid (below_drewN B3.out q4)
    have R4 := Lib.hid (R3.out.drewN q4)
    have r4 := Lib.hid (r3.out.drewN q4)
    clear B3 R3 r3
    go_wp2_with fail
    refine (toInt64S_any _ len0 G _ (by omega) R4.out).mono ?_
    rintro e w5 ⟨v5, rfl, o5, b5⟩
    have r5 := Lib.hid ((rd_of_own o5 (cpy_length G len0 len0).symm).congr (cpy_get G len0))
    have B5 := Lib.hid (B4.out.trans (b5.mono B4.out.size))
    have r45 := Lib.hid (r4.out.below b5)
    clear o5 b5 B4 R4 r4
    go_wp2_with fail
    refine (eqInt64S_same _ _ len0 G _ r45.out r5.out).mono ?_
    rintro e w6 ⟨rfl, q, rfl⟩
    go_wp2_with fail
    go_ret
    exact ⟨rfl, below_drewN B5.out q⟩
  · have hbig' : (1048576 : Int) < (len0 : Int) := by omega
    go_enter Try.func6, Try.ntmps6
    go_wp2
    go_ret
    exact ⟨rfl, Below.refl _ _⟩
end Go.Proofs.Ytfmnlapnbhcacaa
