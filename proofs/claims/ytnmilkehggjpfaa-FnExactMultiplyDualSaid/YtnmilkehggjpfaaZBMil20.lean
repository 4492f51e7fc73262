/-
  Joined: PMove, WMultiLaw.
-/
import Derived.Test.YtnmilkehggjpfaaZBMil19
import Derived.BigRegion
import Derived.WalkSmall
import Derived.Test.YtnmilkehggjpfaaZBMil07
section
namespace Go.Proofs.Ytnmilkehggjpfaa
open Go.RowKit
set_option linter.unusedVariables false
set_option maxRecDepth 100000

/-- The world when move was done. -/
def wMove (w : World) (b i j : Nat) (T : Tab) (n : Int) : World :=
  ((w.setCell ⟨b, i * 6 + j, none⟩ (.int .i64 (T i j + n))).setCell ⟨b, i * 6, none⟩ (.int .i64 (T i 0 - n * 2 ^ j))).setCell ⟨b, j, none⟩ (.int .i64 (T 0 j - n))

theorem move_upd {i j : Nat} (hi : 0 < i) (hj : 0 < j) (n : Int) (T : Tab) : updT (updT (updT T i j (T i j + n)) i 0 (T i 0 - n * 2 ^ j)) 0 j (T 0 j - n) = mv i j n T := by
  funext a b
  unfold updT mv
  by_cases h1 : a = i ∧ b = j
  · rw [if_pos h1, if_pos h1, if_neg (by omega), if_neg (by omega)]
  · rw [if_neg h1, if_neg h1]
    by_cases h2 : a = i ∧ b = 0
    · rw [if_pos h2, if_pos h2, if_neg (by omega)]
    · rw [if_neg h2, if_neg h2]

/-- What stays when only block q was written. -/
structure OffB (q : Nat) (W W' : World) : Prop where
  os : W'.os = W.os
  tape : W'.tape = W.tape
  output : W'.output = W.output
  size : W'.heap.size = W.heap.size
  block : ∀ b, b ≠ q → W'.heap[b]? = W.heap[b]?
theorem OffB.refl (q : Nat) (W : World) : OffB q W W := ⟨rfl, rfl, rfl, rfl, fun _ _ => rfl⟩
theorem OffB.trans {q : Nat} {A B C : World} (h : OffB q A B) (k : OffB q B C) : OffB q A C := ⟨k.os.trans h.os, k.tape.trans h.tape, k.output.trans h.output, k.size.trans h.size, fun b hb => (k.block b hb).trans (h.block b hb)⟩
theorem OffB.set (q : Nat) (W : World) (o : Nat) (v : Value) : OffB q W (W.setCell ⟨q, o, none⟩ v) := ⟨rfl, rfl, rfl, by simp [World.setCell], fun b hb => heap_setCell_other W ⟨q, o, none⟩ b v hb⟩
theorem OffB.drew (q : Nat) (W : World) : OffB q W W.drew := ⟨rfl, rfl, rfl, rfl, fun _ _ => rfl⟩
theorem TabAt.drew {w : World} {b : Nat} {T : Tab} (h : TabAt w b T) : TabAt w.drew b T := h

def MoveRes (b i j : Nat) (n : Int) (T : Tab) (w : World) (e : Ending) (w' : World) : Prop := e = .returned (.tuple #[]) ∧ TabAt w' b (mv i j n T) ∧ OffB b w w'

set_option maxHeartbeats 1000000 in
theorem move_any (b i j : Nat) (n : Int) (T : Tab) (w : World) (h : TabAt w b T) (hi : 0 < i) (hj : 0 < j) (hij : i + j < 6) (hn : -1000000 ≤ n ∧ n ≤ 1000000) (h1 : 0 ≤ T i j ∧ T i j ≤ 10000000000) (h2 : 0 ≤ T i 0 ∧ T i 0 ≤ 10000000000) (h3 : 0 ≤ T 0 j ∧ T 0 j ≤ 10000000000) :
    Calls Try.prog 187 #[.pointer (some ⟨b, 0, none⟩), .int .i64 i, .int .i64 j, .int .i64 n] w (MoveRes b i j n T w) := by
  have hc1 := h.cell i j (by omega) (by omega)
  have hf1 := h.fr (i * 6 + j)
  have A1 := h.set i j (by omega) (by omega) (T i j + n)
  have e2 : (updT T i j (T i j + n)) i 0 = T i 0 := by unfold updT; rw [if_neg (by omega)]
  have hc3w := h.cell 0 j (by omega) (by omega)
  rw [Nat.zero_mul, Nat.zero_add] at hc3w
  have hf3w := h.fr j
  have hc2 := A1.cell i 0 (by omega) (by omega)
  rw [e2] at hc2
  have hf2 := A1.fr (i * 6)
  have A2 := A1.set i 0 (by omega) (by omega) (T i 0 - n * 2 ^ j)
  have e3 : (updT (updT T i j (T i j + n)) i 0 (T i 0 - n * 2 ^ j)) 0 j = T 0 j := by unfold updT; rw [if_neg (by omega), if_neg (by omega)]
  have hc3 := A2.cell 0 j (by omega) (by omega)
  rw [e3] at hc3
  have hf3 := A2.fr j
  have A3 := A2.set 0 j (by omega) (by omega) (T 0 j - n)
  rw [move_upd hi hj] at A3
  rw [Nat.zero_mul, Nat.zero_add] at hc3 A3
  rw [Nat.add_zero] at hc2 A2 A3
  have O3 : Hid (OffB b w (((w.setCell ⟨b, i * 6 + j, none⟩ (.int .i64 (T i j + n))).setCell ⟨b, i * 6, none⟩ (.int .i64 (T i 0 - n * 2 ^ j))).setCell ⟨b, j, none⟩ (.int .i64 (T 0 j - n)))) := Lib.hid (((OffB.set b w _ _).trans (OffB.set b _ _ _)).trans (OffB.set b _ _ _))
  have F3 := Lib.hid A3
  have hi6 : (i : Int) < 6 := by omega
  have hi0 : (0 : Int) ≤ (i : Int) := by omega
  have ho1 : (i * 6 + j : Nat) ≠ i * 6 := by omega
  clear h A1 A2 A3 e2 e3
  generalize T i j = x1 at *
  generalize T i 0 = x2 at *
  generalize T 0 j = x3 at *
  have hjj : j = 1 ∨ j = 2 ∨ j = 3 ∨ j = 4 := by omega
  rcases hjj with rfl | rfl | rfl | rfl
  all_goals
    go_enter Try.func187, Try.ntmps187
    go_wp2_with fail
    go_region
    go_wp2_with fail
    go_region
    go_wp2_with fail
    go_region
    go_end0
    exact ⟨rfl, F3.out, ((O3.out.trans (.drew b _)).trans (.drew b _)).trans (.drew b _)⟩

/-- What the counter keeps while it goes through the places. -/
structure AdvI (b : Nat) (w : World) (R : Tab) (ps : List (Nat × Nat)) (c : Int) (U : Tab) (wr : World) : Prop where
  tab : TabAt wr b U
  off : OffB b w wr
  res : advG ps U = R
  inner : ∀ a b, 0 < a → 0 < b → 0 ≤ U a b ∧ U a b ≤ 1000000
  all : ∀ a b, 0 ≤ U a b ∧ U a b ≤ 1000000 + 16000000 * c
theorem AdvI.step {b : Nat} {w : World} {R : Tab} {ps : List (Nat × Nat)} {c : Int} {U : Tab} {wr wr' : World} {i j : Nat} (h : AdvI b w R ((i, j) :: ps) c U wr) (hi : 0 < i) (hj : 0 < j) (hj4 : j < 5) (hno : ¬ (0 < U i 0 / 2 ^ j ∧ 0 < U 0 j)) (ht : TabAt wr' b (mv i j (-U i j) U)) (ho : OffB b wr wr') (hc : 0 ≤ c) :
    AdvI b w R ps (c + 1) (mv i j (-U i j) U) wr' := by
  have e := h.res
  rw [advG, if_neg hno] at e
  have a1 := h.inner i j hi hj
  have a2 := h.all i 0
  have a3 := h.all 0 j
  have pw : (2 : Int) ^ j ≤ 16 := by
    have : j = 1 ∨ j = 2 ∨ j = 3 ∨ j = 4 := by omega
    rcases this with rfl | rfl | rfl | rfl <;> decide
  have pp : (0 : Int) ≤ 2 ^ j := Int.le_of_lt (pow_pos' j)
  have q1 : 0 ≤ U i j * 2 ^ j := Int.mul_nonneg a1.1 pp
  have q2 : U i j * 2 ^ j ≤ 1000000 * 16 := Int.mul_le_mul a1.2 pw pp (by omega)
  have q3 : -U i j * 2 ^ j = -(U i j * 2 ^ j) := Int.neg_mul _ _
  refine ⟨ht, h.off.trans ho, e, fun a b' ha hb => ?_, fun a b' => ?_⟩
  · unfold mv
    by_cases e1 : a = i ∧ b' = j
    · rw [if_pos e1]; omega
    · rw [if_neg e1, if_neg (by omega), if_neg (by omega)]; exact h.inner a b' ha hb
  · have a4 := h.all a b'
    unfold mv
    by_cases e1 : a = i ∧ b' = j
    · rw [if_pos e1]; omega
    · rw [if_neg e1]
      by_cases e2 : a = i ∧ b' = 0
      · rw [if_pos e2, q3]; omega
      · rw [if_neg e2]
        by_cases e3 : a = 0 ∧ b' = j
        · rw [if_pos e3]; omega
        · rw [if_neg e3]; omega
def AdvRes (b : Nat) (R : Tab) (w : World) (e : Ending) (w' : World) : Prop := e = .returned (.tuple #[]) ∧ TabAt w' b R ∧ OffB b w w'

set_option maxHeartbeats 2000000 in
theorem advance_any (b : Nat) (T : Tab) (w : World) (h : TabAt w b T) (hT : ∀ a b, 0 ≤ T a b ∧ T a b ≤ 1000000) :
    Calls Try.prog 162 #[.pointer (some ⟨b, 0, none⟩)] w (AdvRes b (advG posI T) w) := by
  obtain ⟨R, hR⟩ : ∃ R, advG posI T = R := ⟨_, rfl⟩
  have I0 : Hid (AdvI b w R (restP 1 1) (((5 * 1 + 1 : Nat) : Int)) T w) := Lib.hid ⟨h, OffB.refl b w, by rw [restP_one]; exact hR, fun a c _ _ => hT a c, fun a c => by have := hT a c; omega⟩
  rw [hR]
  clear h hT hR
  go_enter Try.func162, Try.ntmps162
  go_wp2_with fail
  go_loopw [2, 3] (fun ci _ wr => ∃ (i : Nat) (U : Tab), 1 ≤ i ∧ i ≤ 6 ∧ ci = .int .i64 i ∧ Hid (AdvI b w R (restP i 1) (((5 * i + 1 : Nat) : Int)) U wr)) (fun ci _ _ => 6 - (intOf ci).toNat)
  case atStart => exact ⟨1, T, by omega, by omega, rfl, I0⟩
  case round =>
    clear I0
    obtain ⟨i, U, hi1, hi6, rfl, hI⟩ := hrel
    rename World => w1
    by_cases hlt : i < 6
    · have hlt' : (i : Int) < 6 := by omega
      go_wp2_with fail
      go_loopw [3] (fun cj wr => ∃ (j : Nat) (U : Tab), 1 ≤ j ∧ j ≤ 6 - i ∧ cj = .int .i64 j ∧ Hid (AdvI b w R (restP i j) (((5 * i + j : Nat) : Int)) U wr)) (fun cj _ => 6 - (intOf cj).toNat)
      case atStart => exact ⟨1, U, by omega, by omega, rfl, hI⟩
      case round =>
        clear hI
        obtain ⟨j, U, hj1, hj6, rfl, hI⟩ := hrel
        rename World => w2
        by_cases hlj : i + j < 6
        · have hlj' : (i : Int) + (j : Int) < 6 := by omega
          rw [restP_all (by omega) (by omega) hlj] at hI
          have c1 := hI.out.tab.cell i 0 (by omega) (by omega)
          have c2 := hI.out.tab.cell 0 j (by omega) (by omega)
          have c3 := hI.out.tab.cell i j (by omega) (by omega)
          rw [Nat.zero_mul, Nat.zero_add] at c2
          rw [Nat.add_zero] at c1
          have b1 := hI.out.all i 0
          have b2 := hI.out.all 0 j
          have b3 := hI.out.inner i j (by omega) (by omega)
          have hi0 : (0 : Int) ≤ (i : Int) := by omega
          have MV := Lib.hid (fun (n : Int) (hn : -1000000 ≤ n ∧ n ≤ 1000000) => move_any b i j n U w2 hI.out.tab (by omega) (by omega) hlj hn ⟨b3.1, by omega⟩ ⟨b1.1, by omega⟩ ⟨b2.1, by omega⟩)
          have hng : -1000000 ≤ -U i j ∧ -U i j ≤ 1000000 := by omega
          have MN := Lib.hid (MV.out (-U i j) hng)
          have MP := Lib.hid (MV.out 1 (by omega))
          have hj4 : j < 5 := by omega
          have STEP := Lib.hid (fun wr' => AdvI.step (wr' := wr') hI.out (by omega) (by omega) hj4)
          have RES := Lib.hid hI.out.res
          have OFF := Lib.hid hI.out.off
          obtain ⟨x, hx⟩ : ∃ x, U i 0 = x := ⟨_, rfl⟩
          obtain ⟨y, hy⟩ : ∃ y, U 0 j = y := ⟨_, rfl⟩
          obtain ⟨z, hz⟩ : ∃ z, U i j = z := ⟨_, rfl⟩
          have HE : Hid (U i 0 = x ∧ U 0 j = y) := Lib.hid ⟨hx, hy⟩
          rw [hx] at c1 b1
          rw [hy] at c2 b2
          rw [hz] at c3 b3
          have MN2 : Hid (Calls Try.prog 187 #[.pointer (some ⟨b, 0, none⟩), .int .i64 i, .int .i64 j, .int .i64 (-z)] w2 (MoveRes b i j (-U i j) U w2)) := Lib.hid (by have := MN.out; rw [← hz]; exact this)
          have hzw : wrap64 (-z) = -z := wrap_same (by omega) (by omega)
          clear hx hy hz MN MV hI b1 b2 b3
          have hcase : (0 < x / 2 ^ j ∧ 0 < y) ∨ (0 < x / 2 ^ j ∧ ¬ 0 < y) ∨ ¬ 0 < x / 2 ^ j := by
            by_cases p1 : 0 < x / 2 ^ j
            · by_cases p2 : 0 < y
              · exact .inl ⟨p1, p2⟩
              · exact .inr (.inl ⟨p1, p2⟩)
            · exact .inr (.inr p1)
          have hjj : j = 1 ∨ j = 2 ∨ j = 3 ∨ j = 4 := by omega
          rcases hcase with ⟨p1, p2⟩ | ⟨p1, p2⟩ | p1
          · have RES2 : Hid (mv i j 1 U = R) := Lib.hid (by have := RES.out; rw [advG, if_pos (by rw [HE.out.1, HE.out.2]; exact ⟨p1, p2⟩)] at this; exact this)
            clear STEP RES HE
            rcases hjj with rfl | rfl | rfl | rfl
            all_goals
              go_wp2_with fail
              refine MP.out.mono ?_
              rintro e w3 ⟨rfl, h1, h2⟩
              have H1 := Lib.hid h1
              have H2 := Lib.hid h2
              clear h1 h2
              go_wp2_with fail
              refine bodyPost_ret (results_none rfl _ _ _) rfl ?_
              exact ⟨rfl, by rw [← RES2.out]; exact H1.out, OFF.out.trans H2.out⟩
          · have NO : Hid (¬ (0 < U i 0 / 2 ^ j ∧ 0 < U 0 j)) := Lib.hid (by rw [HE.out.1, HE.out.2]; exact fun h => p2 h.2)
            clear RES HE MP OFF
            rcases hjj with rfl | rfl | rfl | rfl
            all_goals
              go_wp2_with fail
              refine MN2.out.mono ?_
              rintro e w3 ⟨rfl, h1, h2⟩
              have S3 := Lib.hid (STEP.out w3 NO.out h1 h2 (by omega))
              clear h1 h2
              go_wp2_with fail
              go_roundw
              case rel => first | exact ⟨2, _, by omega, by omega, rfl, S3⟩ | exact ⟨3, _, by omega, by omega, rfl, S3⟩ | exact ⟨4, _, by omega, by omega, rfl, S3⟩ | exact ⟨5, _, by omega, by omega, rfl, S3⟩
              case measure => simp [intOf]
          · have NO : Hid (¬ (0 < U i 0 / 2 ^ j ∧ 0 < U 0 j)) := Lib.hid (by rw [HE.out.1, HE.out.2]; exact fun h => p1 h.1)
            clear RES HE MP OFF
            rcases hjj with rfl | rfl | rfl | rfl
            all_goals
              go_wp2_with fail
              refine MN2.out.mono ?_
              rintro e w3 ⟨rfl, h1, h2⟩
              have S3 := Lib.hid (STEP.out w3 NO.out h1 h2 (by omega))
              clear h1 h2
              go_wp2_with fail
              go_roundw
              case rel => first | exact ⟨2, _, by omega, by omega, rfl, S3⟩ | exact ⟨3, _, by omega, by omega, rfl, S3⟩ | exact ⟨4, _, by omega, by omega, rfl, S3⟩ | exact ⟨5, _, by omega, by omega, rfl, S3⟩
              case measure => simp [intOf]
        · obtain rfl : j = 6 - i := by omega
          have hlj' : ¬ (i : Int) + ((6 - i : Nat) : Int) < 6 := by omega
          have J : Hid (AdvI b w R (restP (i + 1) 1) (((5 * (i + 1) + 1 : Nat) : Int)) U w2) := Lib.hid (by
            have h := hI.out
            rw [restP_next (by omega) hlt (by omega) (by omega) (by omega)] at h
            exact ⟨h.tab, h.off, h.res, h.inner, fun a c => by have := h.all a c; omega⟩)
          clear hI
          go_wp2_with fail
          go_roundw
          case rel => exact ⟨i + 1, U, by omega, by omega, by go_num, J⟩
          case measure => simp [intOf]; omega
    · obtain rfl : i = 6 := by omega
      have H : Hid (TabAt w1 b R ∧ OffB b w w1) := Lib.hid ⟨by have h := hI.out; have e := h.res; rw [restP_end] at e; rw [← e]; exact h.tab, hI.out.off⟩
      clear hI
      go_wp2_with fail
      go_end0
      exact ⟨rfl, H.out.1, H.out.2⟩
end Go.Proofs.Ytnmilkehggjpfaa
end
section
namespace Go.Proofs.Ytnmilkehggjpfaa
open Go.RowKit
set_option maxRecDepth 100000
set_option linter.unusedVariables false

theorem implMulti_long (v : Value) (n : Nat) (G : Nat → Int) (w : World) (h : RdI w v n G) (hn : 20 < n) :
    Calls Try.prog 164 #[v] w fun e w' => e = .returned (.tuple #[.int .i64 0, .int .i64 2]) ∧ w = w' := by
  obtain ⟨a, cap, rfl, hm, hc⟩ := h
  clear hc
  have hn' : (20 : Int) < (n : Int) := by omega
  go_enter Try.func164, Try.ntmps164
  go_wp2
  go_ret2
  exact ⟨rfl, rfl⟩

theorem implMulti_bad (v : Value) (n : Nat) (G : Nat → Int) (w : World) (h : RdI w v n G) (hn : n ≤ 20) (hok : ¬ okNums G n) :
    Calls Try.prog 164 #[v] w fun e w' => e = .returned (.tuple #[.int .i64 0, .int .i64 2]) ∧ w = w' := by
  have A := Lib.hid (areNumbers_no v n G w h hok)
  obtain ⟨a, cap, rfl, hm, hc⟩ := h
  clear hc hok
  have hn' : (n : Int) ≤ 20 := by omega
  go_enter Try.func164, Try.ntmps164
  go_wp2_with (go_at_call 139; refine A.out.mono ?_; rintro e w' ⟨rfl, rfl⟩)
  go_ret2
  exact ⟨rfl, rfl⟩

theorem implMulti_ok (v : Value) (n : Nat) (G : Nat → Int) (w : World) (h : RdI w v n G) (hn : n ≤ 20) (hok : okNums G n) (hap : apt G n) :
    Calls Try.prog 164 #[v] w fun e w' => e = .returned (.tuple #[.int .i64 1, .int .i64 0]) ∧ w = w' := by
  have A := Lib.hid (areNumbers_yes v n G w h hok)
  obtain ⟨a, cap, rfl, hm, hc⟩ := h
  have hn' : (n : Int) ≤ 20 := by omega
  by_cases h0 : n = 0
  · subst h0
    clear hc hok hap
    go_enter Try.func164, Try.ntmps164
    go_wp2_with (go_at_call 139; refine A.out.mono ?_; rintro e w' ⟨rfl, rfl⟩)
    refine wp_loop_rounds 1 ?_
    rw [rounds_succ]
    go_wp2
    go_ret2
    exact ⟨rfl, rfl⟩
  · obtain ⟨b, off, rfl, hc'⟩ := hc.resolve_left h0
    have HC := Lib.hid hc'
    have HO := Lib.hid hap
    clear hc hc' h0 hap hok
    go_enter Try.func164, Try.ntmps164
    go_wp2_with (go_at_call 139; refine A.out.mono ?_; rintro e w' ⟨rfl, rfl⟩)
    clear A
    go_loop [4, 6, 17] (fun t _ c => ∃ j : Nat, j ≤ n ∧ c = .int .i64 j ∧ t = .int .i64 (tk G j)) (fun _ _ c => n - (intOf c).toNat)
    case atStart => exact ⟨0, by omega, rfl, rfl⟩
    case round =>
      obtain ⟨j, hj, rfl, rfl⟩ := hrel
      by_cases hlt : j < n
      · have hlt' : (j : Int) < (n : Int) := by omega
        have c1 := HC.out j hlt
        have h1 := HO.out j hlt
        have HT : Hid (tk G (j + 1) = bits .or .i64 (tk G j) (G j)) := Lib.hid rfl
        generalize G j = x at c1 h1 HT
        generalize tk G j = y at h1 HT ⊢
        go_wp2
        go_round
        case rel => exact ⟨j + 1, by omega, by go_num, by rw [HT.out]⟩
        case measure => simp [intOf]; omega
      · go_wp2
        go_ret2
        exact ⟨rfl, rfl⟩

theorem implMulti_not (v : Value) (n : Nat) (G : Nat → Int) (w : World) (h : RdI w v n G) (hn : n ≤ 20) (hok : okNums G n) (hap : ¬ apt G n) :
    Calls Try.prog 164 #[v] w fun e w' => e = .returned (.tuple #[.int .i64 0, .int .i64 0]) ∧ w = w' := by
  have A := Lib.hid (areNumbers_yes v n G w h hok)
  obtain ⟨a, cap, rfl, hm, hc⟩ := h
  have hn' : (n : Int) ≤ 20 := by omega
  obtain ⟨q, hq, hbad, hok'⟩ := apt_not hap
  obtain ⟨b, off, rfl, hc'⟩ := hc.resolve_left (by omega)
  have HC := Lib.hid hc'
  have HO := Lib.hid hok'
  have HB := Lib.hid hbad
  clear hc hc' hap hok hok' hbad
  go_enter Try.func164, Try.ntmps164
  go_wp2_with (go_at_call 139; refine A.out.mono ?_; rintro e w' ⟨rfl, rfl⟩)
  clear A
  go_loop [4, 6, 17] (fun t _ c => ∃ j : Nat, j ≤ q ∧ c = .int .i64 j ∧ t = .int .i64 (tk G j)) (fun _ _ c => n - (intOf c).toNat)
  case atStart => exact ⟨0, by omega, rfl, rfl⟩
  case round =>
    obtain ⟨j, hj, rfl, rfl⟩ := hrel
    have hlt' : (j : Int) < (n : Int) := by omega
    have c1 := HC.out j (by omega)
    by_cases hlt : j < q
    · have h1 := HO.out j hlt
      have HT : Hid (tk G (j + 1) = bits .or .i64 (tk G j) (G j)) := Lib.hid rfl
      generalize G j = x at c1 h1 HT
      generalize tk G j = y at h1 HT ⊢
      go_wp2
      go_round
      case rel => exact ⟨j + 1, by omega, by go_num, by rw [HT.out]⟩
      case measure => simp [intOf]; omega
    · obtain rfl : j = q := by omega
      have h1 := HB.out
      clear HB
      generalize G j = x at c1 h1
      generalize tk G j = y at h1 ⊢
      go_wp2
      go_ret2
      exact ⟨rfl, rfl⟩

end Go.Proofs.Ytnmilkehggjpfaa
end
