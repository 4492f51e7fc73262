/-
  Joined: NBase, WIn, WSmall, WMulti.
-/
import Derived.Test.YtachdmklkkakbaaZactAddMilnor06
import Derived.Test.YtachdmklkkakbaaRows
import Derived.Test.YtachdmklkkakbaaZactAddMilnor01
import Derived.WalkLawsBesides
import Derived.WalkSpells
import Derived.Test.YtachdmklkkakbaaZactAddMilnor02
section
namespace Go.Proofs.Ytachdmklkkakbaa
open Go.RowKit
set_option linter.unusedVariables false
set_option maxRecDepth 100000

theorem toMilnor_any (V : Value) (m : Nat) (X : Nat → List Int) (w : World) (hm : m ≤ 1048576) (hX : ∀ i, i < m → (X i).length ≤ 1048576) (h : RdSS w V m X) :
    Calls Try.prog 14 #[.agg #[V]] w fun e w' => ∃ U US, e = .returned (.agg #[U]) ∧ Fam w' w.heap.size U m US X ∧ Below w.heap.size w w' ∧ Sep m US := by
  have H := Lib.hid h
  have HX := Lib.hid hX
  clear h hX
  have t1 := Try.underlying24
  have t2 := Try.underlying27
  go_enter Try.func14, Try.ntmps14
  go_wp2_with fail
  have W1 : ∃ w1, w1 = (((w.alloc (.cells #[V] 24)).alloc (.cells #[.slice none 0 0] 27)).alloc (.cells #[.slice none 0 0] 27)) := ⟨_, rfl⟩
  obtain ⟨w1, hw1⟩ := W1
  have B0 : Hid (Below w.heap.size w w1) := Lib.hid (by rw [hw1]; exact (((Below.refl w.heap.size w).alloc (Nat.le_refl _) _).alloc (by simp) _).alloc (by simp; omega) _)
  have b1 : Hid (Box1 w1 (w.heap.size + 1) 27 (.slice none 0 0)) := Lib.hid (by rw [hw1]; have := (Box1.new (w.alloc (.cells #[V] 24)) 27 (.slice none 0 0)).alloc (.cells #[.slice none 0 0] 27); simpa using this)
  have b2 : Hid (Box1 w1 (w.heap.size + 1 + 1) 27 (.slice none 0 0)) := Lib.hid (by rw [hw1]; have := Box1.new ((w.alloc (.cells #[V] 24)).alloc (.cells #[.slice none 0 0] 27)) 27 (.slice none 0 0); simpa using this)
  have hs : Hid (w1.heap.size = w.heap.size + 3) := Lib.hid (by rw [hw1]; simp)
  have R := Lib.hid (H.out.below B0.out)
  rw [← hw1]
  clear hw1
  refine (toSS_any V m X w1 hm HX.out R.out).mono ?_
  rintro e w2 ⟨U, US, rfl, ho, hb, hsp⟩
  obtain ⟨ua, ucap, rfl, _⟩ := ho.head
  have D1 := Lib.hid (b1.out.up hb)
  have D2 := Lib.hid (b2.out.up hb)
  have c10 := D1.out.c
  have c20 := D2.out.c
  have f10 := D1.out.fr 0
  have f20 := D2.out.fr 0
  have HO := Lib.hid ho
  have HS := Lib.hid hsp
  have HB := Lib.hid (B0.out.trans (hb.mono B0.out.size))
  clear ho hb hsp
  go_wp2
  have E1 := (D1.out.other ⟨w.heap.size + 1 + 1, 0, none⟩ (.slice ua m ucap) (by simp)).set (.slice ua m ucap)
  refine bodyPost_ret (results_cell_row rfl _ _ (w.heap.size + 1) 27 _ (0, 0) _ rfl E1 t2 rfl (by kernel_rfl)) rfl ?_
  have hb3 := (HB.out.setCell (p := ⟨w.heap.size + 1 + 1, 0, none⟩) (by simp; omega) (.slice ua m ucap)).setCell (p := ⟨w.heap.size + 1, 0, none⟩) (by simp) (.slice ua m ucap)
  refine ⟨_, US, rfl, ?_, hb3, HS.out⟩
  refine (Fam.same HO.out fun g hg hlt => ?_).base (by have := hs.out; omega)
  have := hs.out
  rw [heap_setCell_other _ _ _ _ (by simp; omega), heap_setCell_other _ _ _ _ (by simp; omega)]

theorem szMilnor_yes (V : Value) (m : Nat) (X : Nat → List Int) (left : Nat) (w : World) (h : RdSS w V m X) (hl : left ≤ 1048576) (hm : m + tot X m ≤ left) :
    Calls Try.prog 12 #[.agg #[V], .int .i64 (left : Int)] w fun e w' => e = .returned (.int .i64 ((left : Int) - ((m + tot X m : Nat) : Int))) ∧ Below w.heap.size w w' := by
  have B0 : Hid (Below w.heap.size w (w.alloc (.cells #[V] 24))) := Lib.hid ((Below.refl w.heap.size w).alloc (Nat.le_refl _) _)
  have SZ := Lib.hid (szSS_any V m X left _ (h.below B0.out) hl hm)
  have t1 := Try.underlying24
  have hge : ¬ (left : Int) - ((m + tot X m : Nat) : Int) < 0 := by omega
  generalize (left : Int) - ((m + tot X m : Nat) : Int) = lf at SZ hge
  clear h
  go_enter Try.func12, Try.ntmps12
  go_wp2_with fail
  refine SZ.out.mono ?_
  rintro e w' ⟨rfl, rfl⟩
  go_wp2_with fail
  go_ret
  exact ⟨rfl, B0.out⟩
theorem szMilnor_over (V : Value) (m : Nat) (X : Nat → List Int) (left : Nat) (w : World) (h : RdSS w V m X) (hl : left ≤ 1048576) (hm : left < m + tot X m) :
    Calls Try.prog 12 #[.agg #[V], .int .i64 (left : Int)] w fun e w' => e = .returned (.int .i64 (-1)) ∧ Below w.heap.size w w' := by
  have B0 : Hid (Below w.heap.size w (w.alloc (.cells #[V] 24))) := Lib.hid ((Below.refl w.heap.size w).alloc (Nat.le_refl _) _)
  have SZ := Lib.hid (szSS_over V m X left _ (h.below B0.out) hl hm)
  have t1 := Try.underlying24
  clear h
  go_enter Try.func12, Try.ntmps12
  go_wp2_with fail
  refine SZ.out.mono ?_
  rintro e w' ⟨rfl, rfl⟩
  go_wp2_with fail
  go_ret
  exact ⟨rfl, B0.out⟩

theorem eqMilnor_same (U1 U2 : Value) (m : Nat) (B1 B2 : Nat) (VA VB : Nat → Value) (X : Nat → List Int) (w : World) (h1 : Fam w B1 U1 m VA X) (h2 : Fam w B2 U2 m VB X) :
    Calls Try.prog 16 #[.agg #[U1], .agg #[U2]] w fun e w' => e = .returned (.bool true) ∧ Below w.heap.size w w' := by
  have t2 := Try.underlying27
  have B0 : Hid (Below w.heap.size w ((w.alloc (.cells #[U1] 27)).alloc (.cells #[U2] 27))) := Lib.hid (((Below.refl w.heap.size w).alloc (Nat.le_refl _) _).alloc (by simp) _)
  have E := Lib.hid (eqInt64SS_same U1 U2 m B1 B2 VA VB X _ (h1.below B0.out) (h2.below B0.out))
  clear h1 h2
  go_enter Try.func16, Try.ntmps16
  go_wp2_with fail
  refine E.out.mono ?_
  rintro e w' ⟨rfl, q, rfl⟩
  go_wp2_with fail
  go_ret
  exact ⟨rfl, below_drewN B0.out _⟩
end Go.Proofs.Ytachdmklkkakbaa
end
section
namespace Go.Proofs.Ytachdmklkkakbaa
open Go.RowKit
set_option maxRecDepth 100000

theorem l01In_yes (n a b : Int) (w : World) (h0 : a ≤ n) (h1 : n ≤ b) :
    Calls Try.prog 60 #[.int .i64 n, .int .i64 a, .int .i64 b] w fun e w' => e = .returned (.bool true) ∧ w = w' := by
  go_enter Try.func60, Try.ntmps60
  go_wp2
  go_ret
  exact ⟨rfl, rfl⟩

theorem l01In_no (n a b : Int) (w : World) (h : n < a ∨ b < n) :
    Calls Try.prog 60 #[.int .i64 n, .int .i64 a, .int .i64 b] w fun e w' => e = .returned (.bool false) ∧ w = w' := by
  by_cases h0 : a ≤ n
  · have h1 : ¬ n ≤ b := by omega
    clear h
    go_enter Try.func60, Try.ntmps60
    go_wp2
    go_ret
    exact ⟨rfl, rfl⟩
  · clear h
    go_enter Try.func60, Try.ntmps60
    go_wp2
    go_ret
    exact ⟨rfl, rfl⟩
end Go.Proofs.Ytachdmklkkakbaa
end
section
namespace Go.Proofs.Ytachdmklkkakbaa
open Go.RowKit
set_option maxRecDepth 100000

theorem isNumber_yes (n : Int) (w : World) (h0 : 0 ≤ n) (h1 : n ≤ 1000000000000) :
    Calls Try.prog 102 #[.int .i64 n] w fun e w' => e = .returned (.bool true) ∧ w = w' := by
  go_enter Try.func102, Try.ntmps102
  go_wp2
  go_ret
  exact ⟨rfl, rfl⟩

theorem isNumber_no (n : Int) (w : World) (h : n < 0 ∨ 1000000000000 < n) :
    Calls Try.prog 102 #[.int .i64 n] w fun e w' => e = .returned (.bool false) ∧ w = w' := by
  rcases h with h | h
  · go_enter Try.func102, Try.ntmps102
    go_wp2
    go_ret
    exact ⟨rfl, rfl⟩
  · have h0 : 0 ≤ n := by omega
    have h1 : ¬ n ≤ 1000000000000 := by omega
    go_enter Try.func102, Try.ntmps102
    go_wp2
    go_ret
    exact ⟨rfl, rfl⟩

end Go.Proofs.Ytachdmklkkakbaa
end
section
namespace Go.Proofs.Ytachdmklkkakbaa
open Go.RowKit
set_option maxRecDepth 100000
set_option linter.unusedVariables false

/-- All n numbers are in 0..MaxNumber. -/
def okNums (G : Nat → Int) (n : Nat) : Prop := ∀ i, i < n → 0 ≤ G i ∧ G i ≤ 1000000000000
theorem okNums_not {G : Nat → Int} {n : Nat} (h : ¬ okNums G n) : ∃ i, i < n ∧ (G i < 0 ∨ 1000000000000 < G i) ∧ okNums G i := by
  induction n with
  | zero => exact absurd (fun i hi => by omega) h
  | succ n ih =>
    by_cases h1 : okNums G n
    · refine ⟨n, by omega, ?_, h1⟩
      apply Decidable.byContradiction
      intro hc
      apply h
      intro i hi
      by_cases e : i = n
      · subst e; omega
      · exact h1 i (by omega)
    · obtain ⟨i, a, b, c⟩ := ih h1
      exact ⟨i, by omega, b, c⟩

theorem areNumbers_yes (v : Value) (n : Nat) (G : Nat → Int) (w : World) (h : RdI w v n G) (hok : okNums G n) :
    Calls Try.prog 84 #[v] w fun e w' => e = .returned (.bool true) ∧ w = w' := by
  obtain ⟨a, cap, rfl, hm, hc⟩ := h
  by_cases h0 : n = 0
  · subst h0
    clear hc
    go_enter Try.func84, Try.ntmps84
    go_wp2
    refine wp_loop_rounds 1 ?_
    rw [rounds_succ]
    go_wp2
    go_ret
    exact ⟨rfl, rfl⟩
  · obtain ⟨b, off, rfl, hc'⟩ := hc.resolve_left h0
    have HC := Lib.hid hc'
    have HO := Lib.hid hok
    clear hc hc' h0 hok
    unfold maxLen at hm
    go_enter Try.func84, Try.ntmps84
    go_wp2
    go_loop [4, 7] (fun _ c => ∃ j : Nat, j ≤ n ∧ c = .int .i64 j) (fun _ c => n - (intOf c).toNat)
    case atStart => exact ⟨0, by omega, rfl⟩
    case round =>
      obtain ⟨j, hj, rfl⟩ := hrel
      by_cases hlt : j < n
      · have hlt' : (j : Int) < (n : Int) := by omega
        have c1 := HC.out j hlt
        have h1 := (HO.out j hlt).1
        have h2 := (HO.out j hlt).2
        generalize G j = x at c1 h1 h2
        go_wp2_with (go_at_call 102; refine (isNumber_yes _ _ h1 h2).mono ?_; rintro e w' ⟨rfl, rfl⟩)
        go_round
        case rel => exact ⟨j + 1, by omega, by go_num⟩
        case measure => simp [intOf]; omega
      · go_wp2
        go_ret
        exact ⟨rfl, rfl⟩

theorem areNumbers_no (v : Value) (n : Nat) (G : Nat → Int) (w : World) (h : RdI w v n G) (hok : ¬ okNums G n) :
    Calls Try.prog 84 #[v] w fun e w' => e = .returned (.bool false) ∧ w = w' := by
  obtain ⟨a, cap, rfl, hm, hc⟩ := h
  obtain ⟨q, hq, hbad, hok'⟩ := okNums_not hok
  obtain ⟨b, off, rfl, hc'⟩ := hc.resolve_left (by omega)
  have HC := Lib.hid hc'
  have HO := Lib.hid hok'
  clear hc hc' hok hok'
  unfold maxLen at hm
  go_enter Try.func84, Try.ntmps84
  go_wp2
  go_loop [4, 7] (fun _ c => ∃ j : Nat, j ≤ q ∧ c = .int .i64 j) (fun _ c => n - (intOf c).toNat)
  case atStart => exact ⟨0, by omega, rfl⟩
  case round =>
    obtain ⟨j, hj, rfl⟩ := hrel
    have hlt' : (j : Int) < (n : Int) := by omega
    have c1 := HC.out j (by omega)
    by_cases hlt : j < q
    · have h1 := (HO.out j hlt).1
      have h2 := (HO.out j hlt).2
      clear hbad
      generalize G j = x at c1 h1 h2
      go_wp2_with (go_at_call 102; refine (isNumber_yes _ _ h1 h2).mono ?_; rintro e w' ⟨rfl, rfl⟩)
      go_round
      case rel => exact ⟨j + 1, by omega, by go_num⟩
      case measure => simp [intOf]; omega
    · obtain rfl : j = q := by omega
      have HB := Lib.hid hbad
      clear hbad
      generalize G j = x at c1 HB
      go_wp2_with (go_at_call 102; refine (isNumber_no _ _ HB.out).mono ?_; rintro e w' ⟨rfl, rfl⟩)
      go_ret
      exact ⟨rfl, rfl⟩

/-- What is taken behind j numbers; whether the first j are apart. -/
def tk (G : Nat → Int) : Nat → Int
  | 0 => 0
  | j + 1 => bits .or .i64 (tk G j) (G j)
def apt (G : Nat → Int) (n : Nat) : Prop := ∀ i, i < n → (bits .and .i64 (tk G i) (G i) != 0) = false
theorem apt_not {G : Nat → Int} {n : Nat} (h : ¬ apt G n) : ∃ i, i < n ∧ (bits .and .i64 (tk G i) (G i) != 0) = true ∧ apt G i := by
  induction n with
  | zero => exact absurd (fun i hi => by omega) h
  | succ n ih =>
    by_cases h1 : apt G n
    · refine ⟨n, by omega, ?_, h1⟩
      cases hb : (bits .and .i64 (tk G n) (G n) != 0) with
      | true => rfl
      | false =>
        exfalso
        apply h
        intro i hi
        by_cases e : i = n
        · subst e; exact hb
        · exact h1 i (by omega)
    · obtain ⟨i, a, b, c⟩ := ih h1
      exact ⟨i, by omega, b, c⟩

theorem l01Apart_yes (v : Value) (n : Nat) (G : Nat → Int) (w : World) (h : RdI w v n G) (hap : apt G n) :
    Calls Try.prog 130 #[v] w fun e w' => e = .returned (.bool true) ∧ w = w' := by
  obtain ⟨a, cap, rfl, hm, hc⟩ := h
  by_cases h0 : n = 0
  · subst h0
    clear hc
    go_enter Try.func130, Try.ntmps130
    go_wp2
    refine wp_loop_rounds 1 ?_
    rw [rounds_succ]
    go_wp2
    go_ret
    exact ⟨rfl, rfl⟩
  · obtain ⟨b, off, rfl, hc'⟩ := hc.resolve_left h0
    have HC := Lib.hid hc'
    have HO := Lib.hid hap
    clear hc hc' h0 hap
    unfold maxLen at hm
    go_enter Try.func130, Try.ntmps130
    go_wp2
    go_loop [3, 4] (fun t c => ∃ j : Nat, j ≤ n ∧ c = .int .i64 j ∧ t = .int .i64 (tk G j)) (fun _ c => n - (intOf c).toNat)
    case atStart => exact ⟨0, by omega, rfl, rfl⟩
    case round =>
      obtain ⟨j, hj, rfl, rfl⟩ := hrel
      by_cases hlt : j < n
      · have hlt' : (j : Int) < (n : Int) := by omega
        have c1 := HC.out j hlt
        have h1 := HO.out j hlt
        have HT : Hid (tk G (j + 1) = bits .or .i64 (tk G j) (G j)) := Lib.hid rfl
        generalize G j = x at c1 h1 HT
        generalize tk G j = y at h1 HT ⊢
        go_wp2
        go_round
        case rel => exact ⟨j + 1, by omega, by go_num, by rw [HT.out]⟩
        case measure => simp [intOf]; omega
      · go_wp2
        go_ret
        exact ⟨rfl, rfl⟩

theorem l01Apart_no (v : Value) (n : Nat) (G : Nat → Int) (w : World) (h : RdI w v n G) (hap : ¬ apt G n) :
    Calls Try.prog 130 #[v] w fun e w' => e = .returned (.bool false) ∧ w = w' := by
  obtain ⟨a, cap, rfl, hm, hc⟩ := h
  obtain ⟨q, hq, hbad, hok'⟩ := apt_not hap
  obtain ⟨b, off, rfl, hc'⟩ := hc.resolve_left (by omega)
  have HC := Lib.hid hc'
  have HO := Lib.hid hok'
  have HB := Lib.hid hbad
  clear hc hc' hap hok' hbad
  unfold maxLen at hm
  go_enter Try.func130, Try.ntmps130
  go_wp2
  go_loop [3, 4] (fun t c => ∃ j : Nat, j ≤ q ∧ c = .int .i64 j ∧ t = .int .i64 (tk G j)) (fun _ c => n - (intOf c).toNat)
  case atStart => exact ⟨0, by omega, rfl, rfl⟩
  case round =>
    obtain ⟨j, hj, rfl, rfl⟩ := hrel
    have hlt' : (j : Int) < (n : Int) := by omega
    have c1 := HC.out j (by omega)
    by_cases hlt : j < q
    · have h1 := HO.out j hlt
      have HT : Hid (tk G (j + 1) = bits .or .i64 (tk G j) (G j)) := Lib.hid rfl
      generalize G j = x at c1 h1 HT
      generalize tk G j = y at h1 HT ⊢
      go_wp2
      go_round
      case rel => exact ⟨j + 1, by omega, by go_num, by rw [HT.out]⟩
      case measure => simp [intOf]; omega
    · obtain rfl : j = q := by omega
      have h1 := HB.out
      clear HB
      generalize G j = x at c1 h1
      generalize tk G j = y at h1 ⊢
      go_wp2
      go_ret
      exact ⟨rfl, rfl⟩
end Go.Proofs.Ytachdmklkkakbaa
end
