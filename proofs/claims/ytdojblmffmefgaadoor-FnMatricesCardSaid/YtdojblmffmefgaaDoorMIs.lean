/-
  Contracts: spec.l02Is and impl.IsMatrix.
-/
import Derived.Test.YtdojblmffmefgaaDoorMBase
import Derived.Test.YtdojblmffmefgaaDoorWIn
import Derived.Deep.QuietTactic
import Derived.BigQuiet
namespace Go.Proofs.YtdojblmffmefgaaDoor
open Go.RowKit
set_option linter.unusedVariables false
set_option maxRecDepth 100000

theorem quiet_eq {P : Program} {f : FuncId} {args : Array Value} {w : World} {n : Nat} {v : Value}
    (h : Calls P f args (w.drewN n) fun e w' => e = .returned v ∧ w.drewN n = w') : Calls P f args (w.drewN n) fun e w'' => e = .returned v ∧ ∃ m, w'' = w.drewN m :=
  h.mono fun _ _ ⟨he, hm⟩ => ⟨he, n, hm.symm⟩

/-- r is a mask of k digits. -/
def maskB (r : Int) (k : Nat) : Bool := decide (0 ≤ r) && decide (r < 2 ^ k)
theorem maskB_div (r : Int) (k : Nat) : (r / 2 ^ k == 0) = maskB r k := by
  have hp : (0 : Int) < 2 ^ k := Int.pow_pos (by omega)
  unfold maskB
  by_cases h : 0 ≤ r ∧ r < 2 ^ k
  · rw [Int.ediv_eq_zero_of_lt h.1 h.2]; simp [h.1, h.2]
  · have : r / 2 ^ k ≠ 0 := by
      intro e
      rcases Int.lt_or_le r 0 with h1 | h1
      · have := Int.ediv_neg_of_neg_of_pos h1 hp; omega
      · have h2 := Int.lt_mul_of_ediv_lt hp (show r / 2 ^ k < 1 by omega)
        rw [Int.one_mul] at h2
        exact h ⟨h1, h2⟩
    rw [beq_eq_false_iff_ne.2 this]
    rcases Int.lt_or_le r 0 with h1 | h1
    · rw [decide_eq_false (by omega)]; rfl
    · rw [decide_eq_false (show ¬ r < 2 ^ k from fun h2 => h ⟨h1, h2⟩)]; simp
theorem pow60 (k : Nat) (hk : k ≤ 60) : (1 : Int) ≤ 2 ^ k ∧ (2 : Int) ^ k ≤ 1152921504606846976 := by
  have h1 : 2 ^ k ≤ 2 ^ 60 := Nat.pow_le_pow_right (by decide) hk
  have h2 := Nat.two_pow_pos k
  have e : ((2 ^ k : Nat) : Int) = 2 ^ k := by simp
  rw [← e]
  omega
theorem wrap_pow (k : Nat) (hk : k ≤ 60) : wrap64 (wrap64 (2 ^ k) - 1) = 2 ^ k - 1 := by
  obtain ⟨a, b⟩ := pow60 k hk
  have e : wrap64 (2 ^ k) = 2 ^ k := IntWalk.wrap64_in _ ⟨by omega, by omega⟩
  rw [e, IntWalk.wrap64_in _ ⟨by omega, by omega⟩]

theorem fits_any (r : Int) (k : Nat) (w : World) (hk : k ≤ 60) :
    Calls Tryd.prog 72 #[.int .i64 r, .int .i64 k] w fun e w' => e = .returned (.bool (maskB r k)) ∧ w = w' := by
  go_enter Tryd.func72, Tryd.ntmps72
  go_wp2
  go_ret
  exact ⟨by rw [← maskB_div]; rfl, rfl⟩

theorem l01InMask_any (r : Int) (k : Nat) (w : World) (hk : k ≤ 60) :
    Calls Tryd.prog 77 #[.int .i64 r, .int .i64 0, .int .i64 (wrap64 (wrap64 (2 ^ k) - 1))] w fun e w' => e = .returned (.bool (maskB r k)) ∧ w = w' := by
  rw [wrap_pow k hk]
  by_cases h : 0 ≤ r ∧ r < 2 ^ k
  · have e : maskB r k = true := by unfold maskB; simp [h.1, h.2]
    rw [e]
    exact l01In_yes _ _ _ _ h.1 (by omega)
  · have e : maskB r k = false := by
      unfold maskB
      rcases Int.lt_or_le r 0 with h1 | h1
      · rw [decide_eq_false (by omega)]; rfl
      · rw [decide_eq_false (show ¬ r < 2 ^ k from fun h2 => h ⟨h1, h2⟩)]; simp
    rw [e]
    exact l01In_no _ _ _ _ (by omega)

theorem l02Mask_any (r : Int) (k : Nat) (w : World) (hk : k ≤ 60) :
    Calls Tryd.prog 81 #[.int .i64 r, .int .i64 k] w fun e w' => e = .returned (.bool (maskB r k)) ∧ w = w' := by
  have h0 : (0 : Int) ≤ (k : Int) := by omega
  have h1 : (k : Int) ≤ 60 := by omega
  have L := Lib.hid (l01InMask_any r k w hk)
  go_enter Tryd.func81, Tryd.ntmps81
  go_wp2_with fail
  refine (l01In_yes _ _ _ _ h0 h1).mono ?_
  rintro e w' ⟨rfl, rfl⟩
  go_wp2_with fail
  refine L.out.mono ?_
  rintro e w' ⟨rfl, rfl⟩
  go_wp2_with fail
  go_ret
  exact ⟨rfl, rfl⟩

/-- What a matrix is. -/
def okMat (c : Int) (n : Nat) (G : Nat → Int) : Prop := ∃ k : Nat, c = (k : Int) ∧ k ≤ 60 ∧ n ≤ 200 ∧ ∀ i, i < n → maskB (G i) k = true

theorem isCC_yes (k : Nat) (w : World) (hk : k ≤ 60) :
    Calls Tryd.prog 71 #[.int .i64 k] w fun e w' => e = .returned (.bool true) ∧ w = w' := by
  have h0 : (0 : Int) ≤ (k : Int) := by omega
  have h1 : (k : Int) ≤ 60 := by omega
  go_enter Tryd.func71, Tryd.ntmps71
  go_wp2
  go_ret
  exact ⟨rfl, rfl⟩
theorem isCC_no (c : Int) (w : World) (h : c < 0 ∨ 60 < c) :
    Calls Tryd.prog 71 #[.int .i64 c] w fun e w' => e = .returned (.bool false) ∧ w = w' := by
  by_cases h0 : 0 ≤ c
  · have h1 : ¬ c ≤ 60 := by omega
    clear h
    go_enter Tryd.func71, Tryd.ntmps71
    go_wp2
    go_ret
    exact ⟨rfl, rfl⟩
  · clear h
    go_enter Tryd.func71, Tryd.ntmps71
    go_wp2
    go_ret
    exact ⟨rfl, rfl⟩

/-- The first row that is no mask. -/
theorem rows_not {n k : Nat} {G : Nat → Int} (h : ¬ ∀ i, i < n → maskB (G i) k = true) : ∃ i, i < n ∧ maskB (G i) k = false ∧ ∀ j, j < i → maskB (G j) k = true := by
  induction n with
  | zero => exact absurd (fun i hi => by omega) h
  | succ n ih =>
    by_cases h1 : ∀ i, i < n → maskB (G i) k = true
    · refine ⟨n, by omega, ?_, h1⟩
      cases hb : maskB (G n) k
      · rfl
      · exfalso
        apply h
        intro i hi
        by_cases e : i = n
        · subst e; exact hb
        · exact h1 i (by omega)
    · obtain ⟨i, a, b, c⟩ := ih h1
      exact ⟨i, by omega, b, c⟩

/-- IsMatrix's loop: z rows are masks; r: the answer. -/
theorem implIs_some (k n z : Nat) (r : Bool) (s : Value) (G : Nat → Int) (w : World) (hk : k ≤ 60) (hn : n ≤ 200) (h : RdI w s n G) (hz : z ≤ n) (hgood : ∀ i, i < z → maskB (G i) k = true)
    (hend : (z = n ∧ r = true) ∨ (z < n ∧ maskB (G z) k = false ∧ r = false)) :
    Calls Tryd.prog 20 #[.agg #[.int .i64 k, s]] w fun e w' => e = .returned (.bool r) ∧ Below w.heap.size w w' := by
  obtain ⟨a, cap, rfl, hm, hc⟩ := h
  have hn' : (n : Int) ≤ 200 := by omega
  have t2 := Tryd.underlying26
  have HG := Lib.hid hgood
  have HE := Lib.hid hend
  have HC := Lib.hid hc
  clear hc hgood hend
  go_enter Tryd.func20, Tryd.ntmps20
  go_wp2_with (go_at_call 71; refine (isCC_yes k _ hk).mono ?_; rintro e w' ⟨rfl, rfl⟩)
  have BX : Hid (Box (w.alloc (.cells #[.int .i64 k, .slice a n cap] 26)) w.heap.size 26 (.int .i64 k) (.slice a n cap)) := Lib.hid (Box.new w _ _ _)
  have B0 : Hid (Below w.heap.size w (w.alloc (.cells #[.int .i64 k, .slice a n cap] 26))) := Lib.hid ((Below.refl w.heap.size w).alloc (Nat.le_refl _) _)
  have HR : Hid (n = 0 ∨ ∃ b off, a = some ⟨b, off, none⟩ ∧ ∀ i, i < n → (w.alloc (.cells #[.int .i64 k, .slice a n cap] 26)).cell? ⟨b, off + i, none⟩ = some (.int .i64 (G i))) := Lib.hid (by
    rcases HC.out with h0 | ⟨b, off, e, hc⟩
    · exact .inl h0
    · exact .inr ⟨b, off, e, fun i hi => (B0.out.cell (p := ⟨b, off + i, none⟩) (World.block_lt_of_cell? w _ (hc i hi))).trans (hc i hi)⟩)
  clear HC
  generalize (w.alloc (.cells #[.int .i64 k, .slice a n cap] 26)) = w1 at *
  have c0 := BX.out.c0
  have c1 := BX.out.c1
  go_loop [4, 18] (fun _ i => ∃ j : Nat, j ≤ z ∧ i = .int .i64 j) (fun _ i => n - (intOf i).toNat)
  case atStart => exact ⟨0, by omega, rfl⟩
  case round =>
    obtain ⟨j, hj, rfl⟩ := hrel
    by_cases hlt : j < n
    · have hlt' : (j : Int) < (n : Int) := by omega
      obtain ⟨b, off, rfl, hc⟩ := HR.out.resolve_left (by omega)
      have d1 := hc j hlt
      clear hc
      by_cases hz2 : j < z
      · have hg := HG.out j hz2
        generalize G j = x at d1 hg
        go_wp2_with (go_at_call 72; refine (fits_any x k _ hk).mono ?_; rintro e w' ⟨rfl, rfl⟩; rw [hg])
        go_round
        case rel => exact ⟨j + 1, by omega, by go_num⟩
        case measure => simp [intOf]; omega
      · obtain rfl : j = z := by omega
        obtain ⟨_, hg, rfl⟩ := HE.out.resolve_left (fun h => by omega)
        generalize G j = x at d1 hg
        go_wp2_with (go_at_call 72; refine (fits_any x k _ hk).mono ?_; rintro e w' ⟨rfl, rfl⟩; rw [hg])
        go_ret
        exact ⟨rfl, B0.out⟩
    · obtain rfl : j = n := by omega
      have hr : r = true := by
        rcases HE.out with ⟨_, h⟩ | ⟨h, _⟩
        · exact h
        · omega
      subst hr
      go_wp2
      go_ret
      exact ⟨rfl, B0.out⟩

theorem implIs_out (c : Int) (s : Value) (n : Nat) (G : Nat → Int) (w : World) (h : RdI w s n G) (hc : (c < 0 ∨ 60 < c) ∨ 200 < n) :
    Calls Tryd.prog 20 #[.agg #[.int .i64 c, s]] w fun e w' => e = .returned (.bool false) ∧ Below w.heap.size w w' := by
  obtain ⟨a, cap, rfl, hm, _⟩ := h
  have t2 := Tryd.underlying26
  by_cases hcc : c < 0 ∨ 60 < c
  · clear hc
    go_enter Tryd.func20, Tryd.ntmps20
    go_wp2_with (go_at_call 71; refine (isCC_no c _ hcc).mono ?_; rintro e w' ⟨rfl, rfl⟩)
    go_ret
    exact ⟨rfl, (Below.refl _ w).alloc (Nat.le_refl _) _⟩
  · have hn : 200 < n := hc.resolve_left hcc
    obtain ⟨k, rfl⟩ := Int.eq_ofNat_of_zero_le (show 0 ≤ c by omega)
    have hk : k ≤ 60 := by omega
    have hn' : (200 : Int) < (n : Int) := by omega
    clear hc hcc
    go_enter Tryd.func20, Tryd.ntmps20
    go_wp2_with (go_at_call 71; refine (isCC_yes k _ hk).mono ?_; rintro e w' ⟨rfl, rfl⟩)
    go_ret
    exact ⟨rfl, (Below.refl _ w).alloc (Nat.le_refl _) _⟩

/-- The answer of IsMatrix. -/
noncomputable def isMat (c : Int) (n : Nat) (G : Nat → Int) : Bool := (Classical.propDecidable (okMat c n G)).decide
theorem isMat_yes {c : Int} {n : Nat} {G : Nat → Int} (h : okMat c n G) : isMat c n G = true := by
  unfold isMat
  cases hd : Classical.propDecidable (okMat c n G) with
  | isTrue _ => rfl
  | isFalse h2 => exact absurd h h2
theorem isMat_no {c : Int} {n : Nat} {G : Nat → Int} (h : ¬ okMat c n G) : isMat c n G = false := by
  unfold isMat
  cases hd : Classical.propDecidable (okMat c n G) with
  | isTrue h2 => exact absurd h2 h
  | isFalse _ => rfl

theorem implIs_any (c : Int) (s : Value) (n : Nat) (G : Nat → Int) (w : World) (h : RdI w s n G) :
    Calls Tryd.prog 20 #[.agg #[.int .i64 c, s]] w fun e w' => e = .returned (.bool (isMat c n G)) ∧ Below w.heap.size w w' := by
  by_cases ho : (c < 0 ∨ 60 < c) ∨ 200 < n
  · rw [isMat_no (by rintro ⟨k, rfl, h1, h2, _⟩; omega)]
    exact implIs_out c s n G w h ho
  · obtain ⟨k, rfl⟩ := Int.eq_ofNat_of_zero_le (show 0 ≤ c by omega)
    by_cases hr : ∀ i, i < n → maskB (G i) k = true
    · rw [isMat_yes ⟨k, rfl, by omega, by omega, hr⟩]
      exact implIs_some k n n true s G w (by omega) (by omega) h (Nat.le_refl _) hr (.inl ⟨rfl, rfl⟩)
    · obtain ⟨z, h1, h2, h3⟩ := rows_not hr
      rw [isMat_no (by rintro ⟨k', e, _, _, h4⟩; have : k = k' := by omega
                       subst this; exact hr h4)]
      exact implIs_some k n z false s G w (by omega) (by omega) h (by omega) h3 (.inr ⟨h1, h2, rfl⟩)

/-- l02Is's loop. -/
theorem specIs_some (k n z : Nat) (r : Bool) (s : Value) (G : Nat → Int) (w : World) (hk : k ≤ 60) (hn : n ≤ 200) (h : RdI w s n G) (hz : z ≤ n) (hgood : ∀ i, i < z → maskB (G i) k = true)
    (hend : (z = n ∧ r = true) ∨ (z < n ∧ maskB (G z) k = false ∧ r = false)) :
    Calls Tryd.prog 70 #[.agg #[.int .i64 k, s]] w fun e w' => e = .returned (.bool r) ∧ Below w.heap.size w w' := by
  obtain ⟨a, cap, rfl, hm, hc⟩ := h
  have hn' : (n : Int) ≤ 200 := by omega
  have h0 : (0 : Int) ≤ (k : Int) := by omega
  have h1 : (k : Int) ≤ 60 := by omega
  have t2 := Tryd.underlying26
  have HG := Lib.hid hgood
  have HE := Lib.hid hend
  have HC := Lib.hid hc
  clear hc hgood hend
  go_enter Tryd.func70, Tryd.ntmps70
  go_wp2_with (go_at_call 77; refine (l01In_yes _ _ _ _ h0 h1).mono ?_; rintro e w' ⟨rfl, rfl⟩)
  have BX : Hid (Box (w.alloc (.cells #[.int .i64 k, .slice a n cap] 26)) w.heap.size 26 (.int .i64 k) (.slice a n cap)) := Lib.hid (Box.new w _ _ _)
  have B0 : Hid (Below w.heap.size w (w.alloc (.cells #[.int .i64 k, .slice a n cap] 26))) := Lib.hid ((Below.refl w.heap.size w).alloc (Nat.le_refl _) _)
  have HR : Hid (n = 0 ∨ ∃ b off, a = some ⟨b, off, none⟩ ∧ ∀ i, i < n → (w.alloc (.cells #[.int .i64 k, .slice a n cap] 26)).cell? ⟨b, off + i, none⟩ = some (.int .i64 (G i))) := Lib.hid (by
    rcases HC.out with h0 | ⟨b, off, e, hc⟩
    · exact .inl h0
    · exact .inr ⟨b, off, e, fun i hi => (B0.out.cell (p := ⟨b, off + i, none⟩) (World.block_lt_of_cell? w _ (hc i hi))).trans (hc i hi)⟩)
  clear HC
  generalize (w.alloc (.cells #[.int .i64 k, .slice a n cap] 26)) = w1 at *
  go_loopw [3] (fun i wr => ∃ j q : Nat, j ≤ z ∧ i = .int .i64 j ∧ Hid (wr = w1.drewN q)) (fun i _ => n - (intOf i).toNat)
  case atStart => exact ⟨0, 0, by omega, rfl, Lib.hid rfl⟩
  case round =>
    obtain ⟨j, q, hj, rfl, hw⟩ := hrel
    have c0 : wr.cell? ⟨w.heap.size, 0, none⟩ = some (.int .i64 k) := by rw [hw.out]; exact BX.out.c0
    have c1 : wr.cell? ⟨w.heap.size, 1, none⟩ = some (.slice a n cap) := by rw [hw.out]; exact BX.out.c1
    by_cases hlt : j < n
    · have hlt' : (j : Int) < (n : Int) := by omega
      obtain ⟨b, off, rfl, hc⟩ := HR.out.resolve_left (by omega)
      have d1 : wr.cell? ⟨b, off + j, none⟩ = some (.int .i64 (G j)) := by rw [hw.out]; exact hc j hlt
      clear hc
      by_cases hz2 : j < z
      · have hg := HG.out j hz2
        generalize G j = x at d1 hg
        have L := Lib.hid (fun w => l01InMask_any x k w hk)
        rw [hg] at L
        go_wp2
        go_quiet ((go_at_call 77; exact quiet_eq (L.out _)))
        go_wp2
        go_roundw
        case rel => exact ⟨j + 1, q + nq, by omega, by go_num, Lib.hid (by rw [hw.out]; exact World.drewN_drewN ..)⟩
        case measure => simp [intOf]; omega
      · obtain rfl : j = z := by omega
        obtain ⟨_, hg, rfl⟩ := HE.out.resolve_left (fun h => by omega)
        generalize G j = x at d1 hg
        have L := Lib.hid (fun w => l01InMask_any x k w hk)
        rw [hg] at L
        go_wp2
        go_quiet ((go_at_call 77; exact quiet_eq (L.out _)))
        go_wp2
        go_ret
        exact ⟨rfl, by rw [hw.out]; exact below_drewN (below_drewN B0.out _) _⟩
    · obtain rfl : j = n := by omega
      have hr : r = true := by
        rcases HE.out with ⟨_, h⟩ | ⟨h, _⟩
        · exact h
        · omega
      subst hr
      go_wp2
      go_ret
      exact ⟨rfl, by rw [hw.out]; exact below_drewN B0.out _⟩

theorem specIs_out (c : Int) (s : Value) (n : Nat) (G : Nat → Int) (w : World) (h : RdI w s n G) (hc : (c < 0 ∨ 60 < c) ∨ 200 < n) :
    Calls Tryd.prog 70 #[.agg #[.int .i64 c, s]] w fun e w' => e = .returned (.bool false) ∧ Below w.heap.size w w' := by
  obtain ⟨a, cap, rfl, hm, _⟩ := h
  have t2 := Tryd.underlying26
  by_cases hcc : c < 0 ∨ 60 < c
  · clear hc
    go_enter Tryd.func70, Tryd.ntmps70
    go_wp2_with (go_at_call 77; refine (l01In_no _ _ _ _ hcc).mono ?_; rintro e w' ⟨rfl, rfl⟩)
    go_ret
    exact ⟨rfl, (Below.refl _ w).alloc (Nat.le_refl _) _⟩
  · have hn : 200 < n := hc.resolve_left hcc
    have h0 : 0 ≤ c := by omega
    have h1 : c ≤ 60 := by omega
    have hn' : (200 : Int) < (n : Int) := by omega
    clear hc hcc
    go_enter Tryd.func70, Tryd.ntmps70
    go_wp2_with (go_at_call 77; refine (l01In_yes _ _ _ _ h0 h1).mono ?_; rintro e w' ⟨rfl, rfl⟩)
    go_ret
    exact ⟨rfl, (Below.refl _ w).alloc (Nat.le_refl _) _⟩

theorem specIs_any (c : Int) (s : Value) (n : Nat) (G : Nat → Int) (w : World) (h : RdI w s n G) :
    Calls Tryd.prog 70 #[.agg #[.int .i64 c, s]] w fun e w' => e = .returned (.bool (isMat c n G)) ∧ Below w.heap.size w w' := by
  by_cases ho : (c < 0 ∨ 60 < c) ∨ 200 < n
  · rw [isMat_no (by rintro ⟨k, rfl, h1, h2, _⟩; omega)]
    exact specIs_out c s n G w h ho
  · obtain ⟨k, rfl⟩ := Int.eq_ofNat_of_zero_le (show 0 ≤ c by omega)
    by_cases hr : ∀ i, i < n → maskB (G i) k = true
    · rw [isMat_yes ⟨k, rfl, by omega, by omega, hr⟩]
      exact specIs_some k n n true s G w (by omega) (by omega) h (Nat.le_refl _) hr (.inl ⟨rfl, rfl⟩)
    · obtain ⟨z, h1, h2, h3⟩ := rows_not hr
      rw [isMat_no (by rintro ⟨k', e, _, _, h4⟩; have : k = k' := by omega
                       subst this; exact hr h4)]
      exact specIs_some k n z false s G w (by omega) (by omega) h (by omega) h3 (.inr ⟨h1, h2, rfl⟩)
end Go.Proofs.YtdojblmffmefgaaDoor
