/-
  Contracts of spec.TransposeOf and impl.TransposeOf.
-/
import Derived.Test.YtdojblmffmefgaaDoorMFew
import Derived.Test.YtdojblmffmefgaaDoorMAppend
namespace Go.Proofs.YtdojblmffmefgaaDoor
open Go.RowKit
set_option linter.unusedVariables false

/-- Column j as a row: the first i digits. -/
def tcol (G : Nat → Int) (j : Nat) : Nat → Int
  | 0 => 0
  | i + 1 => bits .or .i64 (tcol G j i) (wrap64 (bits .and .i64 (G i / 2 ^ j) 1 * 2 ^ i))
/-- The first j columns. -/
def tcols (G : Nat → Int) (n j : Nat) : List Int := (List.range j).map fun j => tcol G j n
theorem tcols_succ (G : Nat → Int) (n j : Nat) : tcols G n (j + 1) = tcols G n j ++ [tcol G j n] := by simp [tcols, List.range_succ]
theorem tcols_length (G : Nat → Int) (n j : Nat) : (tcols G n j).length = j := by simp [tcols]

set_option maxHeartbeats 1000000 in
theorem specTurn_any (k : Nat) (s : Value) (n : Nat) (G : Nat → Int) (w : World) (h : RdI w s n G) (hk : k ≤ 60) (hn : n ≤ 60) :
    Calls Tryd.prog 86 #[.agg #[.int .i64 k, s]] w fun e w' => ∃ u, e = .returned (.agg #[.int .i64 n, u]) ∧ w'.ownsRow w.heap.size 2 1 u k ((tcols G n k).map (Value.int .i64)) ∧ Below w.heap.size w w' := by
  have H := Lib.hid h
  obtain ⟨a, cap, rfl, hm, hc⟩ := h
  clear hc
  have t2 := Tryd.underlying26
  go_enter Tryd.func86, Tryd.ntmps86
  have W3 : ∃ w3, w3 = (((w.alloc (.cells #[.int .i64 k, .slice a n cap] 26)).alloc (.cells #[.int .i64 0, .slice none 0 0] 26)).alloc (.cells #[.int .i64 n, .slice none 0 0] 26)) := ⟨_, rfl⟩
  obtain ⟨w3, hw3⟩ := W3
  have S3 : Hid (Bld w w.heap.size (w.heap.size + 1) (w.heap.size + 1 + 1) (.int .i64 k) (.slice a n cap) n (.slice none 0 0) (tcols G n 0) w3) := Lib.hid (by
    rw [hw3]
    refine ⟨(((Below.refl w.heap.size w).alloc (Nat.le_refl _) _).alloc (by simp) _).alloc (by simp; omega) _, ?_, ?_, ?_, World.ownsRow_nil _ _ _ _, by omega, by omega, by omega, by omega, by omega⟩
    · exact ((Box.new w _ _ _).alloc _).alloc _
    · have := (Box.new (w.alloc (.cells #[.int .i64 k, .slice a n cap] 26)) 26 (.int .i64 0) (.slice none 0 0)).alloc (.cells #[.int .i64 n, .slice none 0 0] 26)
      simpa using this
    · have := Box.new ((w.alloc (.cells #[.int .i64 k, .slice a n cap] 26)).alloc (.cells #[.int .i64 0, .slice none 0 0] 26)) 26 (.int .i64 n) (.slice none 0 0)
      simpa using this)
  go_wp2
  rw [← hw3]
  clear hw3
  go_loopw [4] (fun c wr => ∃ (j : Nat) (v : Value), j ≤ k ∧ c = .int .i64 j ∧ Hid (Bld w w.heap.size (w.heap.size + 1) (w.heap.size + 1 + 1) (.int .i64 k) (.slice a n cap) n v (tcols G n j) wr)) (fun c _ => k - (intOf c).toNat)
  case atStart => exact ⟨0, _, by omega, rfl, S3⟩
  case round =>
    clear S3
    obtain ⟨j, v, hj, rfl, S⟩ := hrel
    have o0 := S.out.own
    rw [tcols_length] at o0
    obtain ⟨va, vc, rfl⟩ := o0.shape
    have O := Lib.hid o0
    clear o0
    have cA0 := S.out.bA.c0
    have cA1 := S.out.bA.c1
    by_cases hlt : j < k
    · have hlt' : (j : Int) < (k : Int) := by omega
      have HR := Lib.hid (H.out.below S.out.bel)
      go_wp2
      go_loop [5, 6] (fun t i => ∃ i0 : Nat, i0 ≤ n ∧ i = .int .i64 i0 ∧ t = .int .i64 (tcol G j i0)) (fun _ i => n - (intOf i).toNat)
      case atStart => exact ⟨0, by omega, rfl, rfl⟩
      case round =>
        obtain ⟨i, hi, rfl, rfl⟩ := hrel
        by_cases hlt2 : i < n
        · have hlt2' : (i : Int) < (n : Int) := by omega
          obtain ⟨_, _, e, _, hc⟩ := HR.out
          cases e
          obtain ⟨b, off, rfl, hc2⟩ := hc.resolve_left (by omega)
          have c1 := hc2 i hlt2
          clear hc hc2
          have HT : Hid (tcol G j (i + 1) = bits .or .i64 (tcol G j i) (wrap64 (bits .and .i64 (G i / 2 ^ j) 1 * 2 ^ i))) := Lib.hid rfl
          generalize G i = z at c1 HT
          generalize tcol G j i = t at HT ⊢
          go_wp2
          go_round
          case rel => exact ⟨i + 1, by omega, by go_num, by rw [HT.out]⟩
          case measure => simp [intOf]; omega
        · obtain rfl : i = n := by omega
          have E : Hid (tcols G i (j + 1) = tcols G i j ++ [tcol G j i]) := Lib.hid (tcols_succ G i j)
          have LL := Lib.hid (tcols_length G i j)
          generalize tcol G j i = r at *
          generalize tcols G i j = L at *
          have A := Lib.hid (S.out.alloc (.cells #[.int .i64 r] 2))
          have AO : Hid ((wr.alloc (.cells #[.int .i64 r] 2)).ownsRow w.heap.size 2 1 (.slice va j vc) j (L.map (Value.int .i64))) := Lib.hid (own_below O.out ((Below.refl _ _).alloc (Nat.le_refl _) _))
          have cO1 := S.out.bO.c1
          go_wp2_with (at_builtin; refine wpList_append1 rfl _ _ rfl w.heap.size _ j L rfl AO.out r _ 1 rfl (World.cell?_alloc_new _ _ _ _) ?c1 ?c2 ?_)
          case c1 => omega
          case c2 => have := S.out.bel.size; simp; omega
          intro v' w2 ho hg
          obtain ⟨va', vc', rfl⟩ := ho.shape
          have A2 := Lib.hid (A.out.app (r := r) (by rw [LL.out, List.map_append]; exact ho) hg)
          have F := Lib.hid (Bld2.store A.out A2.out)
          have e0 := A2.out.bO.c1
          have e1 := A2.out.bO.fr 1
          clear ho hg
          go_wp2
          go_roundw
          case rel => exact ⟨j + 1, _, by omega, by go_num, Lib.hid (by rw [E.out]; exact F.out)⟩
          case measure => simp [intOf]; omega
    · obtain rfl : j = k := by omega
      have cO0 := S.out.bO.c0
      have cO1 := S.out.bO.c1
      have cR0 := S.out.bR.c0
      have cR1 := S.out.bR.c1
      have fR0 := S.out.bR.fr 0
      have fR1 := S.out.bR.fr 1
      obtain ⟨F1, F2, F3⟩ := S.out.fin
      rw [tcols_length] at F2
      have F1 := Lib.hid F1
      have F2 := Lib.hid F2
      have F3 := Lib.hid F3
      go_wp2
      refine bodyPost_ret (results_cell_row rfl _ _ (w.heap.size + 1) 26 _ (0, 0) _ rfl F1.out t2 rfl (by kernel_rfl)) rfl ?_
      exact ⟨_, rfl, F2.out, F3.out⟩

/-- What TransposeOf returns. -/
noncomputable def toC (c : Int) (n : Nat) (G : Nat → Int) : Int := if fewCode c n G = 0 then n else 0
noncomputable def toL (c : Int) (n : Nat) (G : Nat → Int) : List Int := if fewCode c n G = 0 then tcols G n c.toNat else []

theorem few_ok {c : Int} {n : Nat} {G : Nat → Int} (h : fewCode c n G = 0) : ∃ k : Nat, c = (k : Int) ∧ k ≤ 60 ∧ n ≤ 60 ∧ okMat c n G := by
  unfold fewCode at h
  by_cases hi : isMat c n G = true
  · rw [if_pos hi] at h
    by_cases h6 : n ≤ 60
    · by_cases ho : okMat c n G
      · obtain ⟨k, e, hk, _⟩ := id ho
        exact ⟨k, e, hk, h6, ho⟩
      · rw [isMat_no ho] at hi; cases hi
    · rw [if_neg h6] at h; simp at h
  · rw [if_neg hi] at h; simp at h

theorem few_ne {c : Int} {n : Nat} {G : Nat → Int} (h : fewCode c n G ≠ 0) : fewCode c n G = 1 ∨ fewCode c n G = 2 := by
  unfold fewCode at *
  split at h
  · split at h
    · exact absurd rfl h
    · rename_i a b; rw [if_pos a, if_neg b]; exact .inr rfl
  · rename_i a; rw [if_neg a]; exact .inl rfl

theorem specTransposeOf_any (c : Int) (s : Value) (n : Nat) (G : Nat → Int) (w : World) (h : RdI w s n G) :
    Calls Tryd.prog 35 #[.agg #[.int .i64 c, s]] w (MRes (toC c n G) (toL c n G) (fewCode c n G) w) := by
  have H := Lib.hid h
  obtain ⟨a, cap, rfl, hm, hc⟩ := h
  clear hc
  have t2 := Tryd.underlying26
  have W2 : ∃ w2, w2 = ((w.alloc (.cells #[.int .i64 c, .slice a n cap] 26)).alloc (.cells #[.int .i64 0, .slice none 0 0] 26)) := ⟨_, rfl⟩
  obtain ⟨w2, hw2⟩ := W2
  have B2 : Hid (Below w.heap.size w w2) := Lib.hid (by rw [hw2]; exact ((Below.refl w.heap.size w).alloc (Nat.le_refl _) _).alloc (by simp) _)
  have XA : Hid (Box w2 w.heap.size 26 (.int .i64 c) (.slice a n cap)) := Lib.hid (by rw [hw2]; exact (Box.new w _ _ _).alloc _)
  have XR : Hid (Box w2 (w.heap.size + 1) 26 (.int .i64 0) (.slice none 0 0)) := Lib.hid (by rw [hw2]; have := Box.new (w.alloc (.cells #[.int .i64 c, .slice a n cap] 26)) 26 (.int .i64 0) (.slice none 0 0); simpa using this)
  have HR := Lib.hid (H.out.below B2.out)
  go_enter Tryd.func35, Tryd.ntmps35
  go_wp2_with fail
  rw [← hw2]
  clear hw2
  refine (specFew_any c _ n G w2 HR.out).mono ?_
  rintro e w3 ⟨rfl, b3⟩
  have B3 := Lib.hid (B2.out.trans (b3.mono B2.out.size))
  have XA3 := Lib.hid (XA.out.up b3)
  have XR3 := Lib.hid (XR.out.up b3)
  have HR3 := Lib.hid (HR.out.below b3)
  clear b3 XA XR B2 HR
  have cA0 := XA3.out.c0
  have cA1 := XA3.out.c1
  have cR0 := XR3.out.c0
  have cR1 := XR3.out.c1
  have fR0 := XR3.out.fr 0
  have fR1 := XR3.out.fr 1
  by_cases hf : fewCode c n G = 0
  · obtain ⟨k, rfl, hk, hn, _⟩ := few_ok hf
    have E1 : Hid (toC (k : Int) n G = n) := Lib.hid (by unfold toC; rw [if_pos hf])
    have E2 : Hid (toL (k : Int) n G = tcols G n k) := Lib.hid (by unfold toL; rw [if_pos hf]; rfl)
    have E3 := Lib.hid hf
    rw [hf]
    clear hf
    go_wp2_with fail
    refine (specTurn_any k _ n G w3 HR3.out hk hn).mono ?_
    rintro e w4 ⟨u, rfl, o4, b4⟩
    obtain ⟨ua, uc, rfl⟩ := o4.shape
    have XR4 := Lib.hid (XR3.out.up b4)
    have O4 := Lib.hid (own_base o4 B3.out.size)
    have B4 := Lib.hid (B3.out.trans (b4.mono B3.out.size))
    clear b4 o4 cA0 cA1 cR0 cR1 fR0 fR1
    have cR0 := XR4.out.c0
    have cR1 := XR4.out.c1
    have fR0 := XR4.out.fr 0
    have fR1 := XR4.out.fr 1
    have X5 := Lib.hid ((XR4.out.set0 (.int .i64 n)).set1 (.slice ua k uc))
    have O5 := Lib.hid (own_setBox (i := 1) (u := .slice ua k uc) (XR4.out.set0 (.int .i64 n)) (own_setBox (i := 0) (u := .int .i64 n) XR4.out O4.out (by decide)) (by decide))
    have B5 := Lib.hid ((B4.out.setCell (p := ⟨w.heap.size + 1, 0, none⟩) (by simp) (.int .i64 n)).setCell (p := ⟨w.heap.size + 1, 1, none⟩) (by simp) (.slice ua k uc))
    go_wp2_with fail
    refine bodyPost_ret (results_box_tmp rfl _ _ (w.heap.size + 1) _ _ _ rfl X5.out t2 (by kernel_rfl)) rfl ?_
    refine ⟨_, by rw [E1.out, E3.out]; rfl, ?_, B5.out⟩
    rw [E2.out, tcols_length]
    exact O5.out
  · have E1 : Hid (toC c n G = 0) := Lib.hid (by unfold toC; rw [if_neg hf])
    have E2 : Hid (toL c n G = []) := Lib.hid (by unfold toL; rw [if_neg hf])
    have X5 := Lib.hid ((XR3.out.set0 (.int .i64 0)).set1 (.slice none 0 0))
    have B5 := Lib.hid ((B3.out.setCell (p := ⟨w.heap.size + 1, 0, none⟩) (by simp) (.int .i64 0)).setCell (p := ⟨w.heap.size + 1, 1, none⟩) (by simp) (.slice none 0 0))
    have hf' : (fewCode c n G != 0) = true := by rw [bne_iff_ne]; exact hf
    clear hf
    generalize fewCode c n G = cd at *
    go_wp2_with fail
    refine bodyPost_ret (results_box_tmp rfl _ _ (w.heap.size + 1) _ _ _ rfl X5.out t2 (by kernel_rfl)) rfl ?_
    refine ⟨_, by rw [E1.out]; rfl, ?_, B5.out⟩
    rw [E2.out]
    exact World.ownsRow_nil _ _ _ _

set_option maxHeartbeats 1000000 in
theorem implTransposeOf_any (c : Int) (s : Value) (n : Nat) (G : Nat → Int) (w : World) (h : RdI w s n G) :
    Calls Tryd.prog 34 #[.agg #[.int .i64 c, s]] w (MRes (toC c n G) (toL c n G) (fewCode c n G) w) := by
  have H := Lib.hid h
  obtain ⟨a, cap, rfl, hm, hc⟩ := h
  clear hc
  have t2 := Tryd.underlying26
  have W2 : ∃ w2, w2 = ((w.alloc (.cells #[.int .i64 c, .slice a n cap] 26)).alloc (.cells #[.int .i64 0, .slice none 0 0] 26)) := ⟨_, rfl⟩
  obtain ⟨w2, hw2⟩ := W2
  have B2 : Hid (Below w.heap.size w w2) := Lib.hid (by rw [hw2]; exact ((Below.refl w.heap.size w).alloc (Nat.le_refl _) _).alloc (by simp) _)
  have XA : Hid (Box w2 w.heap.size 26 (.int .i64 c) (.slice a n cap)) := Lib.hid (by rw [hw2]; exact (Box.new w _ _ _).alloc _)
  have XR : Hid (Box w2 (w.heap.size + 1) 26 (.int .i64 0) (.slice none 0 0)) := Lib.hid (by rw [hw2]; have := Box.new (w.alloc (.cells #[.int .i64 c, .slice a n cap] 26)) 26 (.int .i64 0) (.slice none 0 0); simpa using this)
  have HR := Lib.hid (H.out.below B2.out)
  go_enter Tryd.func34, Tryd.ntmps34
  go_wp2_with fail
  rw [← hw2]
  clear hw2
  refine (implFew_any c _ n G w2 HR.out).mono ?_
  rintro e w3 ⟨rfl, b3⟩
  have B3 := Lib.hid (B2.out.trans (b3.mono B2.out.size))
  have XA3 := Lib.hid (XA.out.up b3)
  have XR3 := Lib.hid (XR.out.up b3)
  have HR3 := Lib.hid (HR.out.below b3)
  clear b3 XA XR B2 HR
  have cA0 := XA3.out.c0
  have cA1 := XA3.out.c1
  have cR0 := XR3.out.c0
  have cR1 := XR3.out.c1
  have fR0 := XR3.out.fr 0
  have fR1 := XR3.out.fr 1
  by_cases hf : fewCode c n G = 0
  · obtain ⟨k, rfl, hk, hn, _⟩ := few_ok hf
    have E1 : Hid (toC (k : Int) n G = n) := Lib.hid (by unfold toC; rw [if_pos hf])
    have E2 : Hid (toL (k : Int) n G = tcols G n k) := Lib.hid (by unfold toL; rw [if_pos hf]; rfl)
    have E3 := Lib.hid hf
    rw [hf]
    clear hf
    go_wp2_with fail
    refine (rowCount_any k a n cap w3).mono ?_
    rintro e w4 ⟨rfl, b4⟩
    have B4 := Lib.hid (B3.out.trans (b4.mono B3.out.size))
    have XA4 := Lib.hid (XA3.out.up b4)
    have XR4 := Lib.hid (XR3.out.up b4)
    have HR4 := Lib.hid (HR3.out.below b4)
    clear b4 XA3 XR3 B3 HR3 cA0 cA1 cR0 cR1 fR0 fR1
    have S5 : Hid (Bld w w.heap.size (w.heap.size + 1) w4.heap.size (.int .i64 k) (.slice a n cap) n (.slice none 0 0) (tcols G n 0) (w4.alloc (.cells #[.int .i64 n, .slice none 0 0] 26))) := Lib.hid (by
      refine ⟨B4.out.alloc (B4.out.size) _, XA4.out.alloc _, XR4.out.alloc _, Box.new w4 _ _ _, World.ownsRow_nil _ _ _ _, by omega, by omega, B4.out.size, ?_, ?_⟩
      · have := XA4.out.lt; omega
      · have := XR4.out.lt; omega)
    have cA0 := S5.out.bA.c0
    have cA1 := S5.out.bA.c1
    go_wp2
    generalize (w4.alloc (.cells #[.int .i64 n, .slice none 0 0] 26)) = w5 at *
    clear cA0 cA1 XA4 XR4 B4 HR4
    generalize w4.heap.size = gO at *
    go_loopw [21] (fun c wr => ∃ (j : Nat) (v : Value), j ≤ k ∧ c = .int .i64 j ∧ Hid (Bld w w.heap.size (w.heap.size + 1) gO (.int .i64 k) (.slice a n cap) n v (tcols G n j) wr)) (fun c _ => k - (intOf c).toNat)
    case atStart => exact ⟨0, _, by omega, rfl, S5⟩
    case round =>
      clear S5
      obtain ⟨j, v, hj, rfl, S⟩ := hrel
      have o0 := S.out.own
      rw [tcols_length] at o0
      obtain ⟨va, vc, rfl⟩ := o0.shape
      have O := Lib.hid o0
      clear o0
      have cA0 := S.out.bA.c0
      have cA1 := S.out.bA.c1
      by_cases hlt : j < k
      · have hlt' : (j : Int) < (k : Int) := by omega
        have HR := Lib.hid (H.out.below S.out.bel)
        go_wp2
        go_loop [7, 8, 9, 27] (fun t _ _ i => ∃ i0 : Nat, i0 ≤ n ∧ i = .int .i64 i0 ∧ t = .int .i64 (tcol G j i0)) (fun _ _ _ i => n - (intOf i).toNat)
        case atStart => exact ⟨0, by omega, rfl, rfl⟩
        case round =>
          obtain ⟨i, hi, rfl, rfl⟩ := hrel
          by_cases hlt2 : i < n
          · have hlt2' : (i : Int) < (n : Int) := by omega
            obtain ⟨_, _, e, _, hc⟩ := HR.out
            cases e
            obtain ⟨b, off, rfl, hc2⟩ := hc.resolve_left (by omega)
            have c1 := hc2 i hlt2
            clear hc hc2
            have D := Lib.hid (fun z w => digit_any z j w (by omega))
            have HT : Hid (tcol G j (i + 1) = bits .or .i64 (tcol G j i) (wrap64 (bits .and .i64 (G i / 2 ^ j) 1 * 2 ^ i))) := Lib.hid rfl
            generalize G i = z at c1 HT
            generalize tcol G j i = t at HT ⊢
            go_wp2_with (go_at_call 84; refine (D.out _ _).mono ?_; rintro e w' ⟨rfl, rfl⟩)
            go_round
            case rel => exact ⟨i + 1, by omega, by go_num, by rw [HT.out]⟩
            case measure => simp [intOf]; omega
          · obtain rfl : i = n := by omega
            have E : Hid (tcols G i (j + 1) = tcols G i j ++ [tcol G j i]) := Lib.hid (tcols_succ G i j)
            have LL := Lib.hid (tcols_length G i j)
            generalize tcol G j i = r at *
            generalize tcols G i j = L at *
            have A := Lib.hid (S.out.alloc (.cells #[.int .i64 r] 2))
            have AO : Hid ((wr.alloc (.cells #[.int .i64 r] 2)).ownsRow w.heap.size 2 1 (.slice va j vc) j (L.map (Value.int .i64))) := Lib.hid (own_below O.out ((Below.refl _ _).alloc (Nat.le_refl _) _))
            have cO1 := S.out.bO.c1
            go_wp2_with (at_builtin; refine wpList_append1 rfl _ _ rfl w.heap.size _ j L rfl AO.out r _ 1 rfl (World.cell?_alloc_new _ _ _ _) ?c1 ?c2 ?_)
            case c1 => omega
            case c2 => have := S.out.bel.size; simp; omega
            intro v' w2 ho hg
            obtain ⟨va', vc', rfl⟩ := ho.shape
            have A2 := Lib.hid (A.out.app (r := r) (by rw [LL.out, List.map_append]; exact ho) hg)
            have F := Lib.hid (Bld2.store A.out A2.out)
            have e0 := A2.out.bO.c1
            have e1 := A2.out.bO.fr 1
            clear ho hg
            go_wp2
            go_roundw
            case rel => exact ⟨j + 1, _, by omega, by go_num, Lib.hid (by rw [E.out]; exact F.out)⟩
            case measure => simp [intOf]; omega
      · obtain rfl : j = k := by omega
        have cO0 := S.out.bO.c0
        have cO1 := S.out.bO.c1
        have cR0 := S.out.bR.c0
        have cR1 := S.out.bR.c1
        have fR0 := S.out.bR.fr 0
        have fR1 := S.out.bR.fr 1
        obtain ⟨F1, F2, F3⟩ := S.out.fin
        have F1 := Lib.hid F1
        have F2 := Lib.hid F2
        have F3 := Lib.hid F3
        go_wp2
        refine bodyPost_ret (results_box_tmp rfl _ _ (w.heap.size + 1) _ _ _ rfl F1.out t2 (by kernel_rfl)) rfl ?_
        refine ⟨_, by rw [E1.out, E3.out]; rfl, ?_, F3.out⟩
        rw [E2.out]
        exact F2.out
  · have E1 : Hid (toC c n G = 0) := Lib.hid (by unfold toC; rw [if_neg hf])
    have E2 : Hid (toL c n G = []) := Lib.hid (by unfold toL; rw [if_neg hf])
    have X5 := Lib.hid ((XR3.out.set0 (.int .i64 0)).set1 (.slice none 0 0))
    have B5 := Lib.hid ((B3.out.setCell (p := ⟨w.heap.size + 1, 0, none⟩) (by simp) (.int .i64 0)).setCell (p := ⟨w.heap.size + 1, 1, none⟩) (by simp) (.slice none 0 0))
    have hf' : (fewCode c n G != 0) = true := by rw [bne_iff_ne]; exact hf
    clear hf
    generalize fewCode c n G = cd at *
    go_wp2_with fail
    refine bodyPost_ret (results_box_tmp rfl _ _ (w.heap.size + 1) _ _ _ rfl X5.out t2 (by kernel_rfl)) rfl ?_
    refine ⟨_, by rw [E1.out]; rfl, ?_, B5.out⟩
    rw [E2.out]
    exact World.ownsRow_nil _ _ _ _

theorem TransposeOf_both (c : Int) (n : Nat) (G : Nat → Int) : ∃ (C : Int) (L : List Int) (cd : Int), L.length ≤ 200 ∧
    (∀ w s, RdI w s n G → Calls Tryd.prog 35 #[.agg #[.int .i64 c, s]] w (MRes C L cd w)) ∧
    (∀ w s, RdI w s n G → Calls Tryd.prog 34 #[.agg #[.int .i64 c, s]] w (MRes C L cd w)) := by
  refine ⟨_, _, _, ?_, fun w s h => specTransposeOf_any c s n G w h, fun w s h => implTransposeOf_any c s n G w h⟩
  unfold toL
  split
  · rename_i h
    obtain ⟨k, rfl, hk, _⟩ := few_ok h
    rw [tcols_length]
    show k ≤ 200
    omega
  · simp
end Go.Proofs.YtdojblmffmefgaaDoor
