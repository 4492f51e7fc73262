/-
  Joined: WSpecSum.
-/
import Derived.Test.YtggebkcmokpcmaaZBHit14
import Derived.Test.YtggebkcmokpcmaaZBHit17
section
namespace Go.Proofs.Ytggebkcmokpcmaa
open Go.RowKit
set_option linter.unusedVariables false
set_option maxRecDepth 100000

theorem rowsL_drop (X : Nat → List Int) (m i : Nat) (h : i < m) : (rowsL X m).drop i = X i :: (rowsL X m).drop (i + 1) := by
  rw [List.drop_eq_getElem_cons (by rw [rowsL_len]; exact h)]
  congr 1
  simp [rowsL]
theorem rowsL_over (X : Nat → List Int) (m : Nat) : (rowsL X m).drop m = [] := List.drop_eq_nil_of_le (by rw [rowsL_len]; exact Nat.le_refl _)

/-- What is still to be merged. -/
def rest (X Y : Nat → List Int) (m n i k : Nat) : List (List Int) := mrg ((rowsL X m).drop i) ((rowsL Y n).drop k)
theorem rest_fst (X Y : Nat → List Int) (m n i k : Nat) (hi : i < m) (hk : k ≤ n) (h : k < n → lexLt (X i) (Y k) = true) : rest X Y m n i k = X i :: rest X Y m n (i + 1) k := by
  unfold rest
  rw [rowsL_drop X m i hi]
  by_cases e : k = n
  · subst e; rw [rowsL_over, mrg_nil, mrg_nil]
  · rw [rowsL_drop Y n k (by omega), mrg, if_pos (h (by omega))]
theorem rest_snd (X Y : Nat → List Int) (m n i k : Nat) (hi : i ≤ m) (hk : k < n) (h : i < m → lexLt (X i) (Y k) = false ∧ lexLt (Y k) (X i) = true) : rest X Y m n i k = Y k :: rest X Y m n i (k + 1) := by
  unfold rest
  rw [rowsL_drop Y n k hk]
  by_cases e : i = m
  · subst e; rw [rowsL_over, mrg, mrg]
  · obtain ⟨h1, h2⟩ := h (by omega)
    rw [rowsL_drop X m i (by omega), mrg, if_neg (by rw [h1]; decide), if_pos h2]
theorem rest_both (X Y : Nat → List Int) (m n i k : Nat) (hi : i < m) (hk : k < n) (h1 : lexLt (X i) (Y k) = false) (h2 : lexLt (Y k) (X i) = false) : rest X Y m n i k = rest X Y m n (i + 1) (k + 1) := by
  unfold rest
  rw [rowsL_drop X m i hi, rowsL_drop Y n k hk, mrg, if_neg (by rw [h1]; decide), if_neg (by rw [h2]; decide)]
theorem rest_none (X Y : Nat → List Int) (m n : Nat) : rest X Y m n m n = [] := by
  unfold rest
  rw [rowsL_over, rowsL_over, mrg]

set_option maxHeartbeats 4000000 in
theorem l01Sum_any (va vb : Value) (m n : Nat) (X Y : Nat → List Int) (VA VB : Nat → Value) (Ba Bb : Nat) (w : World) (ha : Fam w Ba va m VA X) (hb : Fam w Bb vb n VB Y) (hm : m ≤ 100000000000) (hn : n ≤ 100000000000)
    (hX : ∀ i, i < m → (X i).length ≤ 1000000) (hY : ∀ i, i < n → (Y i).length ≤ 1000000) :
    Calls Try.prog 68 #[va, vb] w fun e w' => ∃ V VS, e = .returned V ∧ FamL w' w.heap.size V VS (mrg (rowsL X m) (rowsL Y n)) ∧ Sep (mrg (rowsL X m) (rowsL Y n)).length VS ∧ Below w.heap.size w w' := by
  obtain ⟨i1, hj1, hy0, hy1, hy2⟩ := info_parts Try.infoS
  obtain ⟨aa, capa, rfl, hma, hca⟩ := ha.head
  obtain ⟨ab, capb, rfl, hmb, hcb⟩ := hb.head
  have HA := Lib.hid ha
  have HB := Lib.hid hb
  have HX := Lib.hid hX
  have HY := Lib.hid hY
  have CA : Hid (∀ i, i < m → ∃ b, aa = some ⟨b, 0, none⟩ ∧ b < w.heap.size ∧ w.cell? ⟨b, i, none⟩ = some (VA i)) := by
    refine Lib.hid fun i hi => ?_
    obtain ⟨b, e, hc⟩ := hca.resolve_left (by omega)
    exact ⟨b, e, World.block_lt_of_cell? w _ (hc i hi), hc i hi⟩
  have CB : Hid (∀ i, i < n → ∃ b, ab = some ⟨b, 0, none⟩ ∧ b < w.heap.size ∧ w.cell? ⟨b, i, none⟩ = some (VB i)) := by
    refine Lib.hid fun i hi => ?_
    obtain ⟨b, e, hc⟩ := hcb.resolve_left (by omega)
    exact ⟨b, e, World.block_lt_of_cell? w _ (hc i hi), hc i hi⟩
  have RF := Lib.hid (rest_fst X Y m n)
  have RS := Lib.hid (rest_snd X Y m n)
  have RB := Lib.hid (rest_both X Y m n)
  have RN := Lib.hid (rest_none X Y m n)
  have R0 : Hid (rest X Y m n 0 0 = mrg (rowsL X m) (rowsL Y n)) := Lib.hid (by unfold rest; rw [List.drop_zero, List.drop_zero])
  generalize mrg (rowsL X m) (rowsL Y n) = ALL at R0 ⊢
  unfold maxLen at hma hmb
  clear ha hb hX hY hca hcb
  have F0 : Hid (FamL (w.alloc (.cells #[] 42)) w.heap.size (.slice (some ⟨w.heap.size, 0, none⟩) 0 0) (fun _ => undef) []) := Lib.hid ⟨World.ownsRow_made w #[] 0 (Nat.le_refl _) (Nat.zero_le _) (by simp), fun i hi => absurd hi (Nat.not_lt_zero _)⟩
  have B0 := Lib.hid ((Below.refl _ w).alloc (Nat.le_refl _) (.cells #[] 42))
  go_enter Try.func68, Try.ntmps68
  go_wp2_with fail
  go_loopw [5, 6, 7, 23, 55] (fun S c d _ _ wr => ∃ (i k : Nat) (L : List (List Int)) (VS : Nat → Value), i ≤ m ∧ k ≤ n ∧ L.length ≤ i + k ∧ c = .int .i64 i ∧ d = .int .i64 k ∧ Hid (L ++ rest X Y m n i k = ALL) ∧ Hid (FamL wr w.heap.size S VS L) ∧ Hid (Sep L.length VS) ∧ Hid (Below w.heap.size w wr)) (fun _ c d _ _ _ => m + n - ((intOf c).toNat + (intOf d).toNat))
  case atStart => exact ⟨0, 0, [], fun _ => undef, Nat.zero_le _, Nat.zero_le _, Nat.zero_le _, rfl, rfl, Lib.hid (by rw [List.nil_append]; exact R0.out), F0, Lib.hid (fun i j hi => absurd hi (Nat.not_lt_zero _)), B0⟩
  case round =>
    clear F0 B0 R0
    obtain ⟨i, k, L, VS, hi, hk, hL, rfl, rfl, hR, hF, hS, hBl⟩ := hrel
    by_cases hi' : i < m
    · by_cases hk' : k < n
      · have hia : i < m := hi'
        have hia' : (i : Int) < (m : Int) := by omega
        obtain ⟨ba, rfl, hba, hcA⟩ := CA.out i hia
        have ca : wr.cell? ⟨ba, i, none⟩ = some (VA i) := (hBl.out.cell (p := ⟨ba, i, none⟩) hba).trans hcA
        have RA : Hid (RdL wr (VA i) (X i)) := Lib.hid ((HA.out.rd i hia).below hBl.out)
        have OA : Hid (wr.ownsRow Ba 2 1 (VA i) (X i).length ((X i).map (Value.int .i64))) := Lib.hid (own_below (HA.out.inn i hia) hBl.out)
        have hkb : k < n := hk'
        have hkb' : (k : Int) < (n : Int) := by omega
        obtain ⟨bb, rfl, hbb, hcB⟩ := CB.out k hkb
        have cb : wr.cell? ⟨bb, k, none⟩ = some (VB k) := (hBl.out.cell (p := ⟨bb, k, none⟩) hbb).trans hcB
        have RBk : Hid (RdL wr (VB k) (Y k)) := Lib.hid ((HB.out.rd k hkb).below hBl.out)
        have OB : Hid (wr.ownsRow Bb 2 1 (VB k) (Y k).length ((Y k).map (Value.int .i64))) := Lib.hid (own_below (HB.out.inn k hkb) hBl.out)
        have hkn : ((k : Int) == (n : Int)) = false := by rw [beq_eq_false_iff_ne]; omega
        have him : ((i : Int) == (m : Int)) = false := by rw [beq_eq_false_iff_ne]; omega
        cases hlt : lexLt (X i) (Y k) with
        | true =>
          have E1 : Hid (∀ q, Calls Try.prog 72 #[VA i, VB k] (wr.drewN q) fun e w' => e = .returned (.bool true) ∧ ∃ p, w' = (wr.drewN q).drewN p) := Lib.hid fun q => by
            have := l01Less_any (VA i) (VB k) (X i) (Y k) (wr.drewN q) (RA.out.drewN q) (RBk.out.drewN q)
            rw [hlt] at this
            exact this
          have HLEN : Hid ((X i).length ≤ 1000000) := Lib.hid (HX.out i hia)
          have NX : Hid (L ++ [X i] ++ rest X Y m n (i + 1) (k) = ALL) := Lib.hid (by rw [← hR.out, RF.out i k hia hk (fun _ => hlt), List.append_assoc]; rfl)
          obtain ⟨x, hx⟩ : ∃ x, X i = x := ⟨_, rfl⟩
          rw [hx] at HLEN NX OA
          clear hx
          have hsz := hBl.out.size
          clear RA RBk OB hcA hcB hlt
          generalize VA i = v0 at ca E1 OA
          generalize VB k = v1 at cb E1
          go_wp2_with fail
          go_quiet ((go_at_call 72; exact Calls.quiet_of (E1.out _)))
          have Wd := Lib.hid (ownAny v0 x _ (wr.drewN nq) HLEN.out (own_drewN OA.out nq))
          go_wp2_with fail
          refine Wd.out.mono ?_
          rintro e w3 ⟨v, rfl, hv, hb3⟩
          obtain ⟨ua, uc, rfl, _⟩ := own_len hv
          have HV := Lib.hid hv
          have HB3 := Lib.hid hb3
          have hsz3 : wr.heap.size ≤ w3.heap.size := hb3.size
          have FA := Lib.hid (hF.out.drewN nq)
          have F3 := Lib.hid (FA.out.below hb3)
          have E1 : Hid (∀ j u, [Value.slice ua x.length uc][j]? = some u → (w3.alloc (.cells #[Value.slice ua x.length uc] 42)).cell? ((⟨w3.heap.size, 0, none⟩ : Addr).add j) = some u) := Lib.hid (cell_one_new _ _ _)
          have E2 : Hid (∀ u ∈ [Value.slice ua x.length uc], u.oneCell' = true) := by
            refine Lib.hid fun u hu => ?_
            rw [List.mem_singleton.1 hu]
            rfl
          have E3 : Hid (L.length + 1 ≤ maxLen) := Lib.hid (by unfold maxLen; omega)
          have E4 : Hid ((L.length + 1) * 24 ≤ 140737488355328) := Lib.hid (by omega)
          have E5 : Hid (w.heap.size ≤ (w3.alloc (.cells #[Value.slice ua x.length uc] 42)).heap.size) := Lib.hid (by simp; omega)
          have F3A := Lib.hid (F3.out.out.alloc (.cells #[Value.slice ua x.length uc] 42))
          clear hv hb3
          go_wp2_with (at_builtin; refine wpList_append_own _ rfl _ _ 25 rfl w.heap.size 42 i1 (.slice none 0 0) 1 24 Try.underlying25 hj1 hy0 hy1 hy2 rfl (by decide) _ _ _ rfl F3A.out ⟨w3.heap.size, 0, none⟩ 1 1 [.slice ua x.length uc] rfl rfl E1.out E2.out E3.out E4.out E5.out ?_)
          intro V4 w4 hV4 hg4 _
          have R := fam_put (w := (wr.drewN nq)) FA.out hS.out hsz HV.out rfl HB3.out _ hV4 hg4
          have F4 := Lib.hid R.1
          have S4 := Lib.hid R.2.1
          have B4 := Lib.hid ((below_drewN hBl.out nq).trans R.2.2)
          clear R hV4 hg4
          go_wp2
          go_roundw
          case rel => exact ⟨i + 1, k, L ++ [x], ext VS L.length (.slice ua x.length uc), by omega, by omega, by simp; omega, by go_num, by go_num, NX, F4, S4, B4⟩
          case measure => simp [intOf]; omega
        | false =>
          have E1 : Hid (∀ q, Calls Try.prog 72 #[VA i, VB k] (wr.drewN q) fun e w' => e = .returned (.bool false) ∧ ∃ p, w' = (wr.drewN q).drewN p) := Lib.hid fun q => by
            have := l01Less_any (VA i) (VB k) (X i) (Y k) (wr.drewN q) (RA.out.drewN q) (RBk.out.drewN q)
            rw [hlt] at this
            exact this
          cases hgt : lexLt (Y k) (X i) with
          | true =>
            have E2 : Hid (∀ q, Calls Try.prog 72 #[VB k, VA i] (wr.drewN q) fun e w' => e = .returned (.bool true) ∧ ∃ p, w' = (wr.drewN q).drewN p) := Lib.hid fun q => by
              have := l01Less_any (VB k) (VA i) (Y k) (X i) (wr.drewN q) (RBk.out.drewN q) (RA.out.drewN q)
              rw [hgt] at this
              exact this
            have E3 : Hid (∀ q1 q, Calls Try.prog 72 #[VB k, VA i] (wr.drewN (q1 + q)) fun e w' => e = .returned (.bool true) ∧ ∃ p, w' = wr.drewN (q1 + p)) := Lib.hid fun q1 q => by
              have := l01Less_any (VB k) (VA i) (Y k) (X i) (wr.drewN (q1 + q)) (RBk.out.drewN (q1 + q)) (RA.out.drewN (q1 + q))
              rw [hgt] at this
              exact this.mono fun e w' ⟨h1, p, h2⟩ => ⟨h1, q + p, by rw [h2, World.drewN_drewN, Nat.add_assoc]⟩
            have HLEN : Hid ((Y k).length ≤ 1000000) := Lib.hid (HY.out k hkb)
            have NX : Hid (L ++ [Y k] ++ rest X Y m n (i) (k + 1) = ALL) := Lib.hid (by rw [← hR.out, RS.out i k hi hkb (fun _ => ⟨hlt, hgt⟩), List.append_assoc]; rfl)
            obtain ⟨x, hx⟩ : ∃ x, Y k = x := ⟨_, rfl⟩
            rw [hx] at HLEN NX OB
            clear hx
            have hsz := hBl.out.size
            clear RA RBk OA hcA hcB hlt hgt
            generalize VA i = v1 at ca E1 E2 E3
            generalize VB k = v0 at cb E1 E2 E3 OB
            go_wp2_with fail
            go_quiet ((go_at_call 72; exact Calls.quiet_of (E1.out _)))
            obtain ⟨nq1, rfl⟩ : ∃ q, q = nq := ⟨_, rfl⟩
            go_wp2_with fail
            go_quiet (first | (go_at_call 72; exact Calls.quiet_of (E2.out _)) | (go_at_call 72; exact E3.out _ _))
            have Wd := Lib.hid (ownAny v0 x _ (wr.drewN (nq1 + nq)) HLEN.out (own_drewN OB.out (nq1 + nq)))
            go_wp2_with fail
            refine Wd.out.mono ?_
            rintro e w3 ⟨v, rfl, hv, hb3⟩
            obtain ⟨ua, uc, rfl, _⟩ := own_len hv
            have HV := Lib.hid hv
            have HB3 := Lib.hid hb3
            have hsz3 : wr.heap.size ≤ w3.heap.size := hb3.size
            have FA := Lib.hid (hF.out.drewN (nq1 + nq))
            have F3 := Lib.hid (FA.out.below hb3)
            have E1 : Hid (∀ j u, [Value.slice ua x.length uc][j]? = some u → (w3.alloc (.cells #[Value.slice ua x.length uc] 42)).cell? ((⟨w3.heap.size, 0, none⟩ : Addr).add j) = some u) := Lib.hid (cell_one_new _ _ _)
            have E2 : Hid (∀ u ∈ [Value.slice ua x.length uc], u.oneCell' = true) := by
              refine Lib.hid fun u hu => ?_
              rw [List.mem_singleton.1 hu]
              rfl
            have E3 : Hid (L.length + 1 ≤ maxLen) := Lib.hid (by unfold maxLen; omega)
            have E4 : Hid ((L.length + 1) * 24 ≤ 140737488355328) := Lib.hid (by omega)
            have E5 : Hid (w.heap.size ≤ (w3.alloc (.cells #[Value.slice ua x.length uc] 42)).heap.size) := Lib.hid (by simp; omega)
            have F3A := Lib.hid (F3.out.out.alloc (.cells #[Value.slice ua x.length uc] 42))
            clear hv hb3
            go_wp2_with (at_builtin; refine wpList_append_own _ rfl _ _ 25 rfl w.heap.size 42 i1 (.slice none 0 0) 1 24 Try.underlying25 hj1 hy0 hy1 hy2 rfl (by decide) _ _ _ rfl F3A.out ⟨w3.heap.size, 0, none⟩ 1 1 [.slice ua x.length uc] rfl rfl E1.out E2.out E3.out E4.out E5.out ?_)
            intro V4 w4 hV4 hg4 _
            have R := fam_put (w := (wr.drewN (nq1 + nq))) FA.out hS.out hsz HV.out rfl HB3.out _ hV4 hg4
            have F4 := Lib.hid R.1
            have S4 := Lib.hid R.2.1
            have B4 := Lib.hid ((below_drewN hBl.out (nq1 + nq)).trans R.2.2)
            clear R hV4 hg4
            go_wp2
            go_roundw
            case rel => exact ⟨i, k + 1, L ++ [x], ext VS L.length (.slice ua x.length uc), by omega, by omega, by simp; omega, by go_num, by go_num, NX, F4, S4, B4⟩
            case measure => simp [intOf]; omega
          | false =>
            have E2 : Hid (∀ q, Calls Try.prog 72 #[VB k, VA i] (wr.drewN q) fun e w' => e = .returned (.bool false) ∧ ∃ p, w' = (wr.drewN q).drewN p) := Lib.hid fun q => by
              have := l01Less_any (VB k) (VA i) (Y k) (X i) (wr.drewN q) (RBk.out.drewN q) (RA.out.drewN q)
              rw [hgt] at this
              exact this
            have E3 : Hid (∀ q1 q, Calls Try.prog 72 #[VB k, VA i] (wr.drewN (q1 + q)) fun e w' => e = .returned (.bool false) ∧ ∃ p, w' = wr.drewN (q1 + p)) := Lib.hid fun q1 q => by
              have := l01Less_any (VB k) (VA i) (Y k) (X i) (wr.drewN (q1 + q)) (RBk.out.drewN (q1 + q)) (RA.out.drewN (q1 + q))
              rw [hgt] at this
              exact this.mono fun e w' ⟨h1, p, h2⟩ => ⟨h1, q + p, by rw [h2, World.drewN_drewN, Nat.add_assoc]⟩
            have NX : Hid (L ++ rest X Y m n (i + 1) (k + 1) = ALL) := Lib.hid (by rw [← hR.out, RB.out i k hia hkb hlt hgt])
            clear RA RBk OA OB hcA hcB hlt hgt
            generalize VA i = v1 at ca E1 E2 E3
            generalize VB k = v0 at cb E1 E2 E3
            go_wp2_with fail
            go_quiet ((go_at_call 72; exact Calls.quiet_of (E1.out _)))
            obtain ⟨nq1, rfl⟩ : ∃ q, q = nq := ⟨_, rfl⟩
            go_wp2_with fail
            go_quiet (first | (go_at_call 72; exact Calls.quiet_of (E2.out _)) | (go_at_call 72; exact E3.out _ _))
            go_wp2
            go_roundw
            case rel => exact ⟨i + 1, k + 1, L, VS, by omega, by omega, by omega, by go_num, by go_num, NX, Lib.hid (hF.out.drewN (nq1 + nq)), hS, Lib.hid (below_drewN hBl.out (nq1 + nq))⟩
            case measure => simp [intOf]; omega
      · have hia : i < m := hi'
        have hia' : (i : Int) < (m : Int) := by omega
        obtain ⟨ba, rfl, hba, hcA⟩ := CA.out i hia
        have ca : wr.cell? ⟨ba, i, none⟩ = some (VA i) := (hBl.out.cell (p := ⟨ba, i, none⟩) hba).trans hcA
        have RA : Hid (RdL wr (VA i) (X i)) := Lib.hid ((HA.out.rd i hia).below hBl.out)
        have OA : Hid (wr.ownsRow Ba 2 1 (VA i) (X i).length ((X i).map (Value.int .i64))) := Lib.hid (own_below (HA.out.inn i hia) hBl.out)
        have ek : k = n := by omega
        have hkn : ((k : Int) == (n : Int)) = true := by rw [beq_iff_eq]; omega
        have HLEN : Hid ((X i).length ≤ 1000000) := Lib.hid (HX.out i hia)
        have NX : Hid (L ++ [X i] ++ rest X Y m n (i + 1) (k) = ALL) := Lib.hid (by rw [← hR.out, RF.out i k hia hk (fun h => absurd h hk'), List.append_assoc]; rfl)
        obtain ⟨x, hx⟩ : ∃ x, X i = x := ⟨_, rfl⟩
        rw [hx] at HLEN NX OA
        clear hx
        have hsz := hBl.out.size
        clear RA hcA ek
        generalize VA i = v0 at ca OA
        go_wp2_with fail
        go_quiet (fail)
        have Wd := Lib.hid (ownAny v0 x _ (wr.drewN nq) HLEN.out (own_drewN OA.out nq))
        go_wp2_with fail
        refine Wd.out.mono ?_
        rintro e w3 ⟨v, rfl, hv, hb3⟩
        obtain ⟨ua, uc, rfl, _⟩ := own_len hv
        have HV := Lib.hid hv
        have HB3 := Lib.hid hb3
        have hsz3 : wr.heap.size ≤ w3.heap.size := hb3.size
        have FA := Lib.hid (hF.out.drewN nq)
        have F3 := Lib.hid (FA.out.below hb3)
        have E1 : Hid (∀ j u, [Value.slice ua x.length uc][j]? = some u → (w3.alloc (.cells #[Value.slice ua x.length uc] 42)).cell? ((⟨w3.heap.size, 0, none⟩ : Addr).add j) = some u) := Lib.hid (cell_one_new _ _ _)
        have E2 : Hid (∀ u ∈ [Value.slice ua x.length uc], u.oneCell' = true) := by
          refine Lib.hid fun u hu => ?_
          rw [List.mem_singleton.1 hu]
          rfl
        have E3 : Hid (L.length + 1 ≤ maxLen) := Lib.hid (by unfold maxLen; omega)
        have E4 : Hid ((L.length + 1) * 24 ≤ 140737488355328) := Lib.hid (by omega)
        have E5 : Hid (w.heap.size ≤ (w3.alloc (.cells #[Value.slice ua x.length uc] 42)).heap.size) := Lib.hid (by simp; omega)
        have F3A := Lib.hid (F3.out.out.alloc (.cells #[Value.slice ua x.length uc] 42))
        clear hv hb3
        go_wp2_with (at_builtin; refine wpList_append_own _ rfl _ _ 25 rfl w.heap.size 42 i1 (.slice none 0 0) 1 24 Try.underlying25 hj1 hy0 hy1 hy2 rfl (by decide) _ _ _ rfl F3A.out ⟨w3.heap.size, 0, none⟩ 1 1 [.slice ua x.length uc] rfl rfl E1.out E2.out E3.out E4.out E5.out ?_)
        intro V4 w4 hV4 hg4 _
        have R := fam_put (w := (wr.drewN nq)) FA.out hS.out hsz HV.out rfl HB3.out _ hV4 hg4
        have F4 := Lib.hid R.1
        have S4 := Lib.hid R.2.1
        have B4 := Lib.hid ((below_drewN hBl.out nq).trans R.2.2)
        clear R hV4 hg4
        go_wp2
        go_roundw
        case rel => exact ⟨i + 1, k, L ++ [x], ext VS L.length (.slice ua x.length uc), by omega, by omega, by simp; omega, by go_num, by go_num, NX, F4, S4, B4⟩
        case measure => simp [intOf]; omega
    · by_cases hk' : k < n
      · have hkb : k < n := hk'
        have hkb' : (k : Int) < (n : Int) := by omega
        obtain ⟨bb, rfl, hbb, hcB⟩ := CB.out k hkb
        have cb : wr.cell? ⟨bb, k, none⟩ = some (VB k) := (hBl.out.cell (p := ⟨bb, k, none⟩) hbb).trans hcB
        have RBk : Hid (RdL wr (VB k) (Y k)) := Lib.hid ((HB.out.rd k hkb).below hBl.out)
        have OB : Hid (wr.ownsRow Bb 2 1 (VB k) (Y k).length ((Y k).map (Value.int .i64))) := Lib.hid (own_below (HB.out.inn k hkb) hBl.out)
        have ei : i = m := by omega
        have him : ((i : Int) == (m : Int)) = true := by rw [beq_iff_eq]; omega
        have hkn : ((k : Int) == (n : Int)) = false := by rw [beq_eq_false_iff_ne]; omega
        have hia' : ¬ (i : Int) < (m : Int) := by omega
        have HLEN : Hid ((Y k).length ≤ 1000000) := Lib.hid (HY.out k hkb)
        have NX : Hid (L ++ [Y k] ++ rest X Y m n (i) (k + 1) = ALL) := Lib.hid (by rw [← hR.out, RS.out i k hi hkb (fun h => absurd h hi'), List.append_assoc]; rfl)
        obtain ⟨x, hx⟩ : ∃ x, Y k = x := ⟨_, rfl⟩
        rw [hx] at HLEN NX OB
        clear hx
        have hsz := hBl.out.size
        clear RBk hcB ei
        generalize VB k = v0 at cb OB
        go_wp2_with fail
        go_quiet (fail)
        obtain ⟨nq1, rfl⟩ : ∃ q, q = nq := ⟨_, rfl⟩
        go_wp2_with fail
        go_quiet (fail)
        have Wd := Lib.hid (ownAny v0 x _ (wr.drewN (nq1 + nq)) HLEN.out (own_drewN OB.out (nq1 + nq)))
        go_wp2_with fail
        refine Wd.out.mono ?_
        rintro e w3 ⟨v, rfl, hv, hb3⟩
        obtain ⟨ua, uc, rfl, _⟩ := own_len hv
        have HV := Lib.hid hv
        have HB3 := Lib.hid hb3
        have hsz3 : wr.heap.size ≤ w3.heap.size := hb3.size
        have FA := Lib.hid (hF.out.drewN (nq1 + nq))
        have F3 := Lib.hid (FA.out.below hb3)
        have E1 : Hid (∀ j u, [Value.slice ua x.length uc][j]? = some u → (w3.alloc (.cells #[Value.slice ua x.length uc] 42)).cell? ((⟨w3.heap.size, 0, none⟩ : Addr).add j) = some u) := Lib.hid (cell_one_new _ _ _)
        have E2 : Hid (∀ u ∈ [Value.slice ua x.length uc], u.oneCell' = true) := by
          refine Lib.hid fun u hu => ?_
          rw [List.mem_singleton.1 hu]
          rfl
        have E3 : Hid (L.length + 1 ≤ maxLen) := Lib.hid (by unfold maxLen; omega)
        have E4 : Hid ((L.length + 1) * 24 ≤ 140737488355328) := Lib.hid (by omega)
        have E5 : Hid (w.heap.size ≤ (w3.alloc (.cells #[Value.slice ua x.length uc] 42)).heap.size) := Lib.hid (by simp; omega)
        have F3A := Lib.hid (F3.out.out.alloc (.cells #[Value.slice ua x.length uc] 42))
        clear hv hb3
        go_wp2_with (at_builtin; refine wpList_append_own _ rfl _ _ 25 rfl w.heap.size 42 i1 (.slice none 0 0) 1 24 Try.underlying25 hj1 hy0 hy1 hy2 rfl (by decide) _ _ _ rfl F3A.out ⟨w3.heap.size, 0, none⟩ 1 1 [.slice ua x.length uc] rfl rfl E1.out E2.out E3.out E4.out E5.out ?_)
        intro V4 w4 hV4 hg4 _
        have R := fam_put (w := (wr.drewN (nq1 + nq))) FA.out hS.out hsz HV.out rfl HB3.out _ hV4 hg4
        have F4 := Lib.hid R.1
        have S4 := Lib.hid R.2.1
        have B4 := Lib.hid ((below_drewN hBl.out (nq1 + nq)).trans R.2.2)
        clear R hV4 hg4
        go_wp2
        go_roundw
        case rel => exact ⟨i, k + 1, L ++ [x], ext VS L.length (.slice ua x.length uc), by omega, by omega, by simp; omega, by go_num, by go_num, NX, F4, S4, B4⟩
        case measure => simp [intOf]; omega
      · have ei : i = m := by omega
        have ek : k = n := by omega
        subst ei
        subst ek
        have hia' : ¬ (i : Int) < (i : Int) := by omega
        have hkb' : ¬ (k : Int) < (k : Int) := by omega
        have E := hR.out
        rw [RN.out, List.append_nil] at E
        subst E
        have F5 := hF
        have S5 := hS
        clear hF hS hR
        go_wp2
        go_ret
        exact ⟨_, rfl, _, F5.out, S5.out, hBl.out⟩
end Go.Proofs.Ytggebkcmokpcmaa
end
