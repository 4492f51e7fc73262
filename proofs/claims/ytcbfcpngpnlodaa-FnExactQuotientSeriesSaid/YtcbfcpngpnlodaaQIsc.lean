/-
  IsClosedProfile on both sides: (impl.profile).isClosed, spec.l07Closed.
-/
import Derived.Test.YtcbfcpngpnlodaaQMach
import Derived.Test.YtcbfcpngpnlodaaQCon
namespace Go.Proofs.Ytcbfcpngpnlodaa
open Go Go.RowKit
set_option linter.unusedVariables false
set_option maxRecDepth 100000

theorem at16_pad (n : Nat) (G : Nat → Int) (h : n ≤ 16) (k : Nat) : at16 (padF n G) k = padF n G k := by
  unfold at16
  split
  · rfl
  · unfold padF; rw [if_neg (by omega)]

/-- An array is loaded whole by an operation that is guarded, and wanted. -/
theorem ldKQg {ops : Array Oper} {rest : List Oper} {op : Oper} {a : Act} {w : World} {Q : Exit → Act → World → Prop} (hw : Region.wanted op (yielded ops a.tmps) = true) (x : Operand) (ho : op.op = .load 56 x)
    (b o : Nat) (hx : a.eval x = .pointer (some ⟨b, o, none⟩)) (k : Array Value) (hc : w.rangeAt b o k.toList) (hs : k.size = 16) (h : wpList Try.prog ops Q rest (a.put op.dst (.agg k)) w) : wpList Try.prog ops Q (op :: rest) a w :=
  wpList_step fun K hK => by
    simp only [hw, if_true]
    exact wp_load_mid 56 x ho b o hx k.toList _ hc Try.underlying56 rfl (by rw [sizeQ]; simp [hs]) (hK _ _ (by simpa using h))

/-- What isClosed answers. -/
noncomputable def isCl (f : Nat → Int) : Bool := @decide (ClosedN 32 (at16 f)) (Classical.propDecidable _)

set_option maxHeartbeats 2000000 in
theorem isClosed_any (f : Nat → Int) (hf : ∀ k, 0 ≤ at16 f k ∧ at16 f k ≤ 10) (w : World) : Calls Try.prog 56 #[.agg (arK f)] w (SaysV (.bool (isCl f)) w) := by
  have A1 : Hid (ArAt (w.alloc (.cells (arK f) 56)) w.heap.size f) := Lib.hid (ArAt.new w f)
  have B1 : Hid (Below w.heap.size w (w.alloc (.cells (arK f) 56))) := Lib.hid ((Below.refl _ _).alloc (Nat.le_refl _) _)
  have HF := Lib.hid hf
  have S5 := Lib.hid (arK_size f)
  have CL := Lib.hid (fun wx => closure_any f hf wx)
  clear hf
  go_enter Try.func56, Try.ntmps56
  go_upto_region 1 with fail
  generalize (w.alloc (.cells (arK f) 56)) = w1 at *
  have HR := Lib.hid A1.out.range
  obtain ⟨KF, hKF⟩ : ∃ KF, arK f = KF := ⟨_, rfl⟩
  have HK := Lib.hid hKF
  rw [hKF] at HR S5 CL
  clear hKF
  go_wp2_with (refine ldKQ rfl _ rfl w.heap.size 0 rfl KF HR.out S5.out ?_)
  refine (CL.out _).mono ?_
  rintro e w2 ⟨c, b, rfl, b2, hpost⟩
  have B2 := Lib.hid (below_one B1.out b2)
  have A2 := Lib.hid (A1.out.up b2)
  have HP := Lib.hid hpost
  have C5 := Lib.hid (arK_size c)
  have C1 := Lib.hid (arK_one c)
  have AC : Hid (ArAt (w2.alloc (.cells (arK c) 56)) w2.heap.size c) := Lib.hid (ArAt.new w2 c)
  have A3 : Hid (ArAt (w2.alloc (.cells (arK c) 56)) w.heap.size f) := Lib.hid (A2.out.alloc _)
  have B3 : Hid (Below w.heap.size w (w2.alloc (.cells (arK c) 56))) := Lib.hid (B2.out.alloc B2.out.size _)
  have EQ : ∀ wx, (Op.equalIn 10000 56 (.agg (arK c)) (.agg (arK f))).run Try.prog wx = .ok (sameA c f) wx := fun wx => eq_ar _ _ wx
  have G := guardQ
  rw [HK.out] at EQ
  have HRC := Lib.hid AC.out.range
  have HRF := Lib.hid A3.out.range
  rw [HK.out] at HRF
  obtain ⟨KC, hKC⟩ : ∃ KC, arK c = KC := ⟨_, rfl⟩
  rw [hKC] at EQ HRC HRF C5 C1 B3 ⊢
  clear hKC hpost A1 B1 A2 b2 AC A3 CL HR
  have FIN : Hid ((b && sameA c f) = isCl f) := Lib.hid (by
    unfold isCl
    rcases HP.out with ⟨rfl, h⟩ | ⟨rfl, h, _⟩
    · by_cases hc : ClosedN 32 (at16 f)
      · rw [(sameA_iff c f).2 (fun i hi => by
          have := h.self (hc.less (by omega)) i
          unfold at16 at this
          rw [if_pos hi, if_pos hi] at this
          exact this), @decide_eq_true _ (Classical.propDecidable _) hc]
        rfl
      · rw [@decide_eq_false _ (Classical.propDecidable _) hc]
        cases hs : sameA c f with
        | false => rfl
        | true =>
          refine absurd (h.closed.congr fun i hi => ?_) hc
          have hs' := (sameA_iff c f).1 hs
          unfold at16
          split
          · exact hs' i (by assumption)
          · rfl
    · have : ¬ ClosedN 32 (at16 f) := fun hc => h.not (hc.less (by omega))
      rw [@decide_eq_false _ (Classical.propDecidable _) this]
      rfl)
  clear HP HF HK
  generalize sameA c f = q at *
  cases b with
  | true =>
    go_wp2_with (first
      | (refine stKQ w2 rfl _ _ rfl rfl KC rfl C5.out C1.out ?_)
      | (refine ldKQg (by rfl) _ rfl w2.heap.size 0 rfl KC HRC.out C5.out ?_)
      | (refine ldKQg (by rfl) _ rfl w.heap.size 0 rfl KF HRF.out S5.out ?_))
    go_ret
    exact ⟨by rw [← FIN.out]; rfl, B3.out⟩
  | false =>
    go_wp2_with (refine stKQ w2 rfl _ _ rfl rfl KC rfl C5.out C1.out ?_)
    go_ret
    exact ⟨by rw [← FIN.out]; rfl, B3.out⟩

/-! ### spec.l07Closed -/
def okC (f : Nat → Int) (a b : Nat) : Prop := reqF f a b ≤ f (a + b + 1)
theorem isCl_no {f : Nat → Int} {a b : Nat} (h : ¬ okC (at16 f) a b) (hab : a + b + 1 < 32) : isCl f = false :=
  @decide_eq_false _ (Classical.propDecidable _) (fun hc => h (hc a b hab))
theorem isCl_yes {n : Nat} {G : Nat → Int} (hok : okPr G n) (h : ∀ a, a < n → ∀ b, b < n → okC (padF n G) a b) : isCl (padF n G) = true := by
  refine @decide_eq_true _ (Classical.propDecidable _) (ClosedN.congr (g := padF n G) (fun a b hab => ?_) (fun i _ => (at16_pad n G hok.1 i).symm))
  have h1 := padF_nonneg hok (a + b + 1)
  by_cases ha : a < n
  · by_cases hb : b < n
    · exact h a ha b hb
    · have : padF n G b = 0 := if_neg hb
      unfold reqF; omega
  · have : padF n G a = 0 := if_neg ha
    unfold reqF; omega

set_option maxHeartbeats 2000000 in
theorem l07Closed_any (v : Value) (n : Nat) (G : Nat → Int) (w : World) (h : RdI w v n G) (hok : okPr G n) :
    Calls Try.prog 54 #[v] w fun e w' => e = .returned (.bool (isCl (padF n G))) ∧ w = w' := by
  have hn : n ≤ 16 := hok.1
  have AT := Lib.hid (fun (j : Nat) (hj : j ≤ 100) => l07At_in v n G w j (by omega) h (by omega))
  have HOK := Lib.hid hok
  obtain ⟨va, vc, rfl⟩ : ∃ a c, v = .slice a n c := by obtain ⟨a, c, e, _⟩ := h; exact ⟨a, c, e⟩
  clear h hok
  go_enter Try.func54, Try.ntmps54
  go_wp2_with fail
  go_loop [3, 4] (fun c _ => ∃ I : Nat, I ≤ n ∧ c = .int .i64 ((I : Int) + 1) ∧ Hid (∀ a, a < I → ∀ b, b < n → okC (padF n G) a b)) (fun c _ => (n + 1 - intOf c).toNat)
  case atStart => exact ⟨0, by omega, by simp, Lib.hid (fun a ha => absurd ha (Nat.not_lt_zero _))⟩
  case round =>
    obtain ⟨I, hI, rfl, hA⟩ := hrel
    by_cases hIn : I < n
    · have hc : (I : Int) + 1 ≤ (n : Int) := by omega
      go_wp2_with fail
      go_loop [4] (fun c => ∃ J : Nat, J ≤ n ∧ c = .int .i64 ((J : Int) + 1) ∧ Hid (∀ b, b < J → okC (padF n G) I b)) (fun c => (n + 1 - intOf c).toNat)
      case atStart => exact ⟨0, by omega, by simp, Lib.hid (fun b hb => absurd hb (Nat.not_lt_zero _))⟩
      case round =>
        obtain ⟨J, hJ, rfl, hB⟩ := hrel
        by_cases hJn : J < n
        · have hd : (J : Int) + 1 ≤ (n : Int) := by omega
          have C1 := AT.out (I + J + 1) (by omega)
          have C2 := AT.out J (by omega)
          have C3 := AT.out I (by omega)
          rw [show ((I + J + 1 : Nat) : Int) + 1 = (I : Int) + 1 + ((J : Int) + 1) by omega] at C1
          have C1 := Lib.hid C1
          have C2 := Lib.hid C2
          have C3 := Lib.hid C3
          have p1 := padF_nonneg HOK.out I
          have p2 := padF_nonneg HOK.out J
          have p3 := padF_nonneg HOK.out (I + J + 1)
          have HO : Hid (okC (padF n G) I J ↔ min (padF n G J) (padF n G I - ((J : Int) + 1)) ≤ padF n G (I + J + 1)) := Lib.hid Iff.rfl
          generalize padF n G (I + J + 1) = x at *
          generalize padF n G J = y at *
          generalize hz : padF n G I = z0 at *
          clear hz
          obtain ⟨z, hz⟩ : ∃ z, z0 - ((J : Int) + 1) = z := ⟨_, rfl⟩
          have e1 : wrap64 (z0 - ((J : Int) + 1)) = z := by rw [← hz]; unfold wrap64; omega
          rw [hz] at HO
          clear hz p1
          by_cases hok : okC (padF n G) I J
          · have h1 := HO.out.1 hok
            have hB2 : Hid (∀ b, b < J + 1 → okC (padF n G) I b) := Lib.hid (fun b hb => by
              by_cases e : b = J
              · rw [e]; exact hok
              · exact hB.out b (by omega))
            clear HO hB hok
            rcases (show (z < y ∧ ¬ x < z) ∨ (¬ z < y ∧ ¬ x < y) by omega) with ⟨g1, g2⟩ | ⟨g1, g2⟩
            all_goals
              clear h1
              go_wp2_with fail
              refine C1.out.mono ?_
              rintro e w' ⟨rfl, rfl⟩
              go_wp2_with fail
              refine C2.out.mono ?_
              rintro e w' ⟨rfl, rfl⟩
              go_wp2_with fail
              refine C3.out.mono ?_
              rintro e w' ⟨rfl, rfl⟩
              go_wp2_with fail
              go_round
              case rel => exact ⟨J + 1, by omega, by go_num, hB2⟩
              case measure => simp [intOf]; omega
          · have h1 : x < min y z := Int.lt_of_not_ge (fun h => hok (HO.out.2 h))
            have F : Hid (isCl (padF n G) = false) := Lib.hid (isCl_no (a := I) (b := J) (fun h => hok (by
              unfold okC reqF at *
              rw [at16_pad n G hn, at16_pad n G hn, at16_pad n G hn] at h
              exact h)) (by omega))
            clear HO hB hok
            rcases (show (z < y ∧ x < z) ∨ (¬ z < y ∧ x < y) by omega) with ⟨g1, g2⟩ | ⟨g1, g2⟩
            all_goals
              clear h1
              go_wp2_with fail
              refine C1.out.mono ?_
              rintro e w' ⟨rfl, rfl⟩
              go_wp2_with fail
              refine C2.out.mono ?_
              rintro e w' ⟨rfl, rfl⟩
              go_wp2_with fail
              refine C3.out.mono ?_
              rintro e w' ⟨rfl, rfl⟩
              go_wp2_with fail
              go_ret
              exact ⟨by rw [F.out]; rfl, rfl⟩
        · have hd : ¬ (J : Int) + 1 ≤ (n : Int) := by omega
          obtain rfl : J = n := by omega
          have hA2 : Hid (∀ a, a < I + 1 → ∀ b, b < J → okC (padF J G) a b) := Lib.hid (fun a ha => by
            by_cases e : a = I
            · rw [e]; exact hB.out
            · exact hA.out a (by omega))
          clear hA hB
          go_wp2_with fail
          go_round
          case rel => exact ⟨I + 1, by omega, by go_num, hA2⟩
          case measure => simp [intOf]; omega
    · have hc : ¬ (I : Int) + 1 ≤ (n : Int) := by omega
      obtain rfl : I = n := by omega
      have F : Hid (isCl (padF I G) = true) := Lib.hid (isCl_yes HOK.out hA.out)
      go_wp2_with fail
      go_ret
      exact ⟨by rw [F.out]; rfl, rfl⟩
end Go.Proofs.Ytcbfcpngpnlodaa
