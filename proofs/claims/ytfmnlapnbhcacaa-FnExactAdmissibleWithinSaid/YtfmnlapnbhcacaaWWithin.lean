/-
  Contracts of spec.AdmissibleWithin and impl.AdmissibleWithin.
-/
import Derived.Test.YtfmnlapnbhcacaaWDel
import Derived.Test.YtfmnlapnbhcacaaWAdmBasis
namespace Go.Proofs.Ytfmnlapnbhcacaa
open Go.RowKit
set_option linter.unusedVariables false
set_option maxRecDepth 100000

theorem adm_range (f : Nat) : ∀ (zs : List Int) (d most : Nat) (x : List Int), d ≤ 40 → (∀ z ∈ zs, 1 ≤ z ∧ z ≤ 40) → x ∈ adm f zs d most → ∀ z ∈ x, 1 ≤ z ∧ z ≤ 40 := by
  induction f with
  | zero =>
    intro zs d most x hd hz hx
    rw [adm] at hx
    split at hx
    · rw [List.mem_singleton.1 hx]; exact hz
    · cases hx
  | succ f ih =>
    intro zs d most x hd hz hx
    by_cases h0 : d = 0
    · subst h0
      rw [adm_zero] at hx
      rw [List.mem_singleton.1 hx]
      exact hz
    · rw [adm_succ _ _ _ _ (by omega)] at hx
      obtain ⟨i, hi, h⟩ := List.mem_flatMap.1 hx
      have h1 := List.mem_range.1 hi
      have h4 : min most d ≤ d := Nat.min_le_right _ _
      refine ih _ _ _ _ (by omega) (fun z hz' => ?_) h
      rcases List.mem_append.1 hz' with hz' | hz'
      · exact hz z hz'
      · rw [List.mem_singleton.1 hz']
        omega

theorem adm_some (n : Nat) : 0 < (adm 40 [] n n).length := by
  cases n with
  | zero => rw [adm_zero]; decide
  | succ j =>
    rw [adm_succ _ _ _ _ (by omega), Nat.min_self, admTo_succ, Nat.sub_self, adm_zero, List.length_append, List.length_singleton]
    omega

/-- What the two functions return: the words with an excess of at most e. -/
def awL (n : Nat) (e : Int) : List (List Int) := (adm 40 [] n n).filter fun x => decide (excL x ≤ e)
theorem okRange_of (xs : List Int) (h : ∀ z ∈ xs, 1 ≤ z ∧ z ≤ 40) (i : Nat) (hi : i < xs.length) : okRange (fun j => xs[j]?.getD 0) i := by
  unfold okRange
  simp only [List.getElem?_eq_getElem hi, Option.getD_some]
  exact h _ (List.getElem_mem hi)
theorem rowsOf_mem (xss : List (List Int)) (i : Nat) (hi : i < xss.length) : rowsOf xss i ∈ xss := by
  unfold rowsOf
  rw [List.getElem?_eq_getElem hi]
  exact List.getElem_mem hi
theorem take_row (xss : List (List Int)) (j : Nat) (hj : j < xss.length) : xss.take (j + 1) = xss.take j ++ [rowsOf xss j] := by
  unfold rowsOf
  rw [List.take_add_one, List.getElem?_eq_getElem hj]
  rfl
theorem rowsOf_push (xss : List (List Int)) (x : List Int) (i : Nat) : rowsOf (xss ++ [x]) i = if i < xss.length then rowsOf xss i else if i = xss.length then x else [] := by
  unfold rowsOf
  by_cases h : i < xss.length
  · rw [if_pos h, List.getElem?_append_left h]
  · rw [if_neg h]
    by_cases e : i = xss.length
    · subst e
      rw [if_pos rfl, List.getElem?_append_right (Nat.le_refl _), Nat.sub_self]
      rfl
    · rw [if_neg e, List.getElem?_eq_none (by rw [List.length_append, List.length_singleton]; omega)]
      rfl

set_option maxHeartbeats 1000000 in
theorem specWithin_ok (n : Nat) (e : Int) (w : World) (hn : n ≤ 40) (he0 : 0 ≤ e) (he : e ≤ 40) :
    Calls Try.prog 68 #[.int .i64 n, .int .i64 e] w (SpecRes w 0 (awL n e)) := by
  obtain ⟨i1, hj, hy0, hy1, hy2⟩ := info_parts Try.infoS
  have hn1 : (n : Int) ≤ 40 := by omega
  have hn0 : (0 : Int) ≤ (n : Int) := by omega
  have LEN : Hid ((adm 40 [] n n).length ≤ 1099511627776) := Lib.hid (Nat.le_trans (adm_len 40 [] n n) (Nat.pow_le_pow_right (by decide) hn))
  have HA : Hid (awL n e = (adm 40 [] n n).filter fun x => decide (excL x ≤ e)) := Lib.hid rfl
  generalize awL n e = R at HA ⊢
  have RNG : Hid (∀ x ∈ adm 40 [] n n, x.length ≤ 40 ∧ ∀ z ∈ x, 1 ≤ z ∧ z ≤ 40) := Lib.hid (fun x hx => ⟨by have := adm_row 40 [] n n x hx; rw [List.length_nil] at this; omega, adm_range 40 [] n n x hn (by intro z hz; cases hz) hx⟩)
  go_enter Try.func68, Try.ntmps68
  go_wp2_with fail
  refine (l01In_yes _ _ _ _ hn0 hn1).mono ?_
  rintro e1 w' ⟨rfl, rfl⟩
  go_wp2_with fail
  refine (l01In_yes _ _ _ _ he0 he).mono ?_
  rintro e1 w' ⟨rfl, rfl⟩
  go_wp2_with fail
  refine (l03Basis_any n w hn).mono ?_
  rintro e1 w1 ⟨V, VS, rfl, hF, hB⟩
  generalize adm 40 [] n n = L at *
  obtain ⟨a, cap, rfl, hmL, hcells⟩ := hF.head
  have HF := Lib.hid hF
  have HB := Lib.hid hB
  have HC := Lib.hid hcells
  have hsz := hB.size
  have hLl : L.length ≤ 1099511627776 := LEN.out
  clear hF hB hcells
  go_wp2_with fail
  have O0 : Hid ((w1.alloc (.cells #[] 27)).ownsRow w1.heap.size 27 1 (.slice (some ⟨w1.heap.size, 0, none⟩) 0 0) 0 []) := Lib.hid (World.ownsRow_made w1 #[] 0 (Nat.le_refl _) (Nat.zero_le _) (by simp))
  have B0 : Hid (Below w1.heap.size w1 (w1.alloc (.cells #[] 27))) := Lib.hid ((Below.refl _ w1).alloc (Nat.le_refl _) _)
  go_loopw [7, 8] (fun a8 c wr => ∃ (j : Nat) (ls : List (List Int)) (V' : Value) (VS' : Nat → Value), j ≤ L.length ∧ c = .int .i64 j ∧ a8 = V' ∧ ls.length ≤ j ∧ Hid (ls = (L.take j).filter fun x => decide (excL x ≤ e)) ∧ Hid (wr.ownsRow w1.heap.size 27 1 V' ls.length ((List.range ls.length).map VS')) ∧ Hid (∀ i, i < ls.length → w1.ownsRow w.heap.size 2 1 (VS' i) (rowsOf ls i).length ((rowsOf ls i).map (Value.int .i64))) ∧ Hid (Below w1.heap.size w1 wr)) (fun _ c _ => L.length - (intOf c).toNat)
  case atStart => exact ⟨0, [], _, fun _ => undef, by omega, rfl, rfl, Nat.le_refl _, Lib.hid rfl, O0, Lib.hid (fun i hi => absurd hi (Nat.not_lt_zero _)), B0⟩
  case round =>
    clear O0 B0
    obtain ⟨j, ls, u7, VS', hjl, rfl, rfl, hll, hls, hO, hI, hbw⟩ := hrel
    by_cases hlt : j < L.length
    · have hlt' : (j : Int) < (L.length : Int) := by omega
      obtain ⟨b, rfl, hc'⟩ := HC.out.resolve_left (by omega)
      have hbl : b < w1.heap.size := World.block_lt_of_cell? w1 _ (hc' j hlt)
      obtain ⟨v, hv⟩ : ∃ v, v = VS j := ⟨_, rfl⟩
      have hin := HF.out.inn j hlt
      rw [← hv] at hin
      obtain ⟨va, vc, hvs, _⟩ := own_len hin
      have c1 : wr.cell? ⟨b, j, none⟩ = some v := by rw [hv]; exact (hbw.out.cell (p := ⟨b, j, none⟩) hbl).trans (hc' j hlt)
      have hxr := RNG.out _ (rowsOf_mem L j hlt)
      have hT := take_row L j hlt
      have HT : Hid ((L.take (j + 1)).filter (fun x => decide (excL x ≤ e)) = ls ++ (if excL (rowsOf L j) ≤ e then [rowsOf L j] else [])) := Lib.hid (by
        rw [hT, List.filter_append, ← hls.out]
        by_cases hx : excL (rowsOf L j) ≤ e
        · simp [hx]
        · simp [hx])
      have RV : RdI wr v (rowsOf L j).length (fun i => (rowsOf L j)[i]?.getD 0) := rd_of_own (own_below hin hbw.out) rfl
      have E := l03Excess_some v _ _ wr RV (by omega) (fun i hi => okRange_of _ hxr.2 i hi)
      have HIN := Lib.hid hin
      clear hT hxr RV hv hin hc' hbl
      generalize rowsOf L j = x at *
      have E : Hid (Calls Try.prog 106 #[v] wr (Tells (.int .i64 (excL x)) wr)) := Lib.hid E
      subst hvs
      by_cases hx : excL x ≤ e
      · rw [if_pos hx] at HT
        have HX := Lib.hid hx
        generalize excL x = y at E hx
        go_wp2_with fail
        refine E.out.mono ?_
        rintro e1 w' ⟨rfl, q, rfl⟩
        clear E
        have c2 : (wr.drewN q).cell? ⟨b, j, none⟩ = some (.slice va x.length vc) := c1
        clear c1
        have hszr := hbw.out.size
        have hsq : (wr.drewN q).heap.size = wr.heap.size := rfl
        have E5 : Hid (w1.heap.size ≤ ((wr.drewN q).alloc (.cells #[.slice va x.length vc] 27)).heap.size) := Lib.hid (by simp; omega)
        go_wp2_with (at_builtin; refine wpList_append_own _ rfl (.tmp 33) (.tmp 38) 36 rfl w1.heap.size 27 i1 (.slice none 0 0) 1 24 Try.underlying36 hj hy0 hy1 hy2 rfl (by decide) _ _ _ rfl ((own_drewN hO.out q).alloc _) ⟨(wr.drewN q).heap.size, 0, none⟩ 1 1 [.slice va x.length vc] rfl rfl ?e1 ?e2 ?e3 ?e4 E5.out ?_)
        case e1 => exact cell_one_new _ _ _
        case e2 => intro u hu; simp at hu; subst hu; rfl
        case e3 => unfold maxLen; omega
        case e4 => omega
        intro V3 w3 hV3 hgrow3 _
        have O3 : Hid (w3.ownsRow w1.heap.size 27 1 V3 (ls ++ [x]).length ((List.range (ls ++ [x]).length).map (ext VS' ls.length (.slice va x.length vc)))) := Lib.hid (by
          rw [List.length_append, List.length_singleton, ext_map]
          exact hV3)
        have B3 : Hid (Below w1.heap.size w1 w3) := Lib.hid (((below_drewN hbw.out q).alloc (by rw [hsq]; exact hszr) _).grown hgrow3 E5.out (fun k hk => (hO.out.lt k hk).1))
        clear hV3 hgrow3
        go_wp2_with fail
        go_roundw
        case rel =>
          refine ⟨j + 1, ls ++ [x], V3, _, by omega, by go_num, rfl, by rw [List.length_append, List.length_singleton]; omega, Lib.hid HT.out.symm, O3, Lib.hid fun i hi => ?_, B3⟩
          rw [rowsOf_push]
          unfold ext
          by_cases h1 : i < ls.length
          · simp only [h1, if_true]
            exact hI.out i h1
          · rw [List.length_append, List.length_singleton] at hi
            have e0 : i = ls.length := by omega
            subst e0
            simp only [Nat.lt_irrefl, if_false, if_true]
            exact HIN.out
        case measure => simp [intOf]; omega
      · rw [if_neg hx, List.append_nil] at HT
        generalize excL x = y at E hx
        go_wp2_with fail
        refine E.out.mono ?_
        rintro e1 w' ⟨rfl, q, rfl⟩
        go_wp2_with fail
        go_roundw
        case rel => exact ⟨j + 1, ls, _, VS', by omega, by go_num, rfl, by omega, Lib.hid HT.out.symm, Lib.hid (own_drewN hO.out q), hI, Lib.hid (below_drewN hbw.out q)⟩
        case measure => simp [intOf]; omega
    · have hjL : j = L.length := by omega
      have hT : L.take j = L := by rw [hjL]; exact List.take_length
      have HL : Hid (L.filter (fun x => decide (excL x ≤ e)) = ls) := Lib.hid (by rw [hls.out, hT])
      clear hT
      go_wp2_with fail
      go_ret2
      refine ⟨_, VS', rfl, ?_, HB.out.trans (hbw.out.mono hsz)⟩
      rw [HA.out, HL.out]
      exact ⟨own_base hO.out hsz, fun i hi => own_below (hI.out i hi) hbw.out⟩
end Go.Proofs.Ytfmnlapnbhcacaa
