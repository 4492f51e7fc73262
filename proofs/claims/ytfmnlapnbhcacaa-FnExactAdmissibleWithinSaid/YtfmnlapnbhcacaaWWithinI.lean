/-
  Contract of impl.AdmissibleWithin.
-/
import Derived.Test.YtfmnlapnbhcacaaWWithin
import Derived.Test.YtfmnlapnbhcacaaSBase
namespace Go.Proofs.Ytfmnlapnbhcacaa
open Go.RowKit
set_option linter.unusedVariables false
set_option maxRecDepth 100000

theorem rows_list (L : List (List Int)) : (List.range L.length).map (rowsOf L) = L := by
  apply List.ext_getElem
  · simp
  · intro i h1 h2
    simp [rowsOf, h2]
theorem kp_rows (L : List (List Int)) (p : List Int → Bool) : (kp (fun i => p (rowsOf L i)) L.length).map (rowsOf L) = L.filter fun x => !p x := by
  have h := List.filter_map (f := rowsOf L) (p := fun x => !p x) (l := List.range L.length)
  rw [rows_list] at h
  rw [h]
  rfl

theorem kp_mem (P : Nat → Bool) (n i : Nat) (h : i < (kp P n).length) : (kp P n)[i]?.getD 0 < n := by
  rw [List.getElem?_eq_getElem h]
  have : (kp P n)[i] ∈ kp P n := List.getElem_mem h
  exact List.mem_range.1 (List.mem_filter.1 this).1
theorem kp_inj (P : Nat → Bool) (n i j : Nat) (hi : i < (kp P n).length) (hj : j < (kp P n).length) (hne : i ≠ j) : (kp P n)[i]?.getD 0 ≠ (kp P n)[j]?.getD 0 := by
  rw [List.getElem?_eq_getElem hi, List.getElem?_eq_getElem hj]
  have hn : (kp P n).Pairwise (· ≠ ·) := List.Pairwise.filter _ List.nodup_range
  have hp := List.pairwise_iff_getElem.1 hn
  rcases Nat.lt_or_gt_of_ne hne with h | h
  · exact hp i j hi hj h
  · exact fun e => hp j i hj hi h e.symm

theorem delFunc_fam (L : List (List Int)) (p : List Int → Bool) (B cap g Be : Nat) (VS : Nat → Value) (w : World) (hF : FamL w B (.slice (some ⟨g, 0, none⟩) L.length cap) VS L) (hS : Sep L.length VS)
    (hp : PredI L.length VS (fun i => p (rowsOf L i)) Be w) :
    Calls Try.prog 120 #[.slice (some ⟨g, 0, none⟩) L.length cap, .func (.func 119) #[] #[.pointer (some ⟨Be, 0, none⟩)]] w fun e w' =>
      ∃ V' VS', e = .returned V' ∧ FamL w' B V' VS' (L.filter fun x => !p x) ∧ w.grownBy w' (some g) ∧ Sep (L.filter fun x => !p x).length VS' := by
  obtain ⟨a, cap', e0, hm, hc⟩ := hF.head
  cases e0
  have hcap : L.length ≤ cap := by
    rcases hF.out.2 with ⟨h', _⟩ | ⟨g', cap'', cur, h', hb, hg, hnc, _⟩
    · cases h'
    · cases h'; exact hnc
  by_cases hall : ∀ i, i < L.length → p (rowsOf L i) = false
  · have hc' : ∀ i, i < L.length → w.cell? ⟨g, 0 + i, none⟩ = some (VS i) := by
      intro i hi
      obtain ⟨b, e, h⟩ := hc.resolve_left (by omega)
      cases e
      rw [Nat.zero_add]
      exact h i hi
    have hfl : (L.filter fun x => !p x) = L := by
      rw [List.filter_eq_self]
      intro x hx
      obtain ⟨i, hi, e⟩ := List.getElem_of_mem hx
      have := hall i hi
      unfold rowsOf at this
      rw [List.getElem?_eq_getElem hi] at this
      simp only [Option.getD_some, e] at this
      rw [this]
      rfl
    rw [hfl]
    refine (delFunc_none L.length cap g Be _ VS w hm hc' hp hall).mono ?_
    rintro e w' ⟨rfl, q, rfl⟩
    exact ⟨_, VS, rfl, hF.drewN q, grown_drewN ⟨rfl, rfl, rfl, Nat.le_refl _, fun _ _ _ => rfl⟩ q, hS⟩
  · obtain ⟨z, hz, hbad, hgood⟩ := first_bad0 _ _ hall
    have hpz : p (rowsOf L z) = true := by
      cases h : p (rowsOf L z) with
      | true => rfl
      | false => exact absurd h hbad
    refine (delFunc_some L.length z cap g B Be (fun i => p (rowsOf L i)) VS w hm hF.out hcap (fun i hi => by
      obtain ⟨a, c, e, _⟩ := own_len (hF.inn i hi)
      exact ⟨a, _, c, e⟩) hp hz hgood hpz).mono ?_
    rintro e w' ⟨rfl, ho, hg⟩
    have hK := kp_rows L p
    have hle := kp_mem (fun i => p (rowsOf L i)) L.length
    have hij := kp_inj (fun i => p (rowsOf L i)) L.length
    have kI : KeepI none w w' := KeepI.row hF.out hg none
    generalize kp (fun i => p (rowsOf L i)) L.length = K at *
    have hlen : (L.filter fun x => !p x).length = K.length := by rw [← hK, List.length_map]
    refine ⟨_, fun i => VS (K[i]?.getD 0), rfl, ⟨?_, fun i hi => ?_⟩, hg, ?_⟩
    · rw [hlen]
      have e1 : (List.range K.length).map (fun i => VS (K[i]?.getD 0)) = K.map VS := by
        apply List.ext_getElem
        · simp
        · intro i h1 h2
          have h3 : i < K.length := by simpa using h2
          simp [h3]
      rw [e1]
      exact ho
    · rw [hlen] at hi
      have e2 : rowsOf (L.filter fun x => !p x) i = rowsOf L (K[i]?.getD 0) := by
        rw [← hK]
        show ((K.map (rowsOf L))[i]?).getD [] = _
        rw [List.getElem?_map, List.getElem?_eq_getElem hi]
        rfl
      rw [e2]
      exact kI.own (hF.inn _ (hle i hi)) (Classical.em _)
    · rw [hlen]
      intro i j hi hj hne
      exact hS _ _ (hle i hi) (hle j hj) (hij i j hi hj hne)

/-- The code of AdmissibleWithin. -/
def pwOf (a b : Int) : Int := if (0 ≤ a ∧ a ≤ 40) ∧ 0 ≤ b ∧ b ≤ 40 then 0 else 2
def wiOf (a b : Int) : List (List Int) := if (0 ≤ a ∧ a ≤ 40) ∧ 0 ≤ b ∧ b ≤ 40 then awL a.toNat b else []

theorem keepI_cell {w w' : World} {g : Nat} {x : Value} (k : KeepI none w w') (h : Box1 w g 2 x) : w'.cell? ⟨g, 0, none⟩ = some x := by
  have h1 : Box1 w' g 2 x := (k g _ h (by intro e; cases e)).trans h
  exact h1.c

theorem implWithin_ok (n : Nat) (e : Int) (w : World) (hn : n ≤ 40) (he0 : 0 ≤ e) (he : e ≤ 40) :
    Calls Try.prog 69 #[.int .i64 n, .int .i64 e] w (ImplRes w 0 (awL n e)) := by
  have hn1 : (n : Int) ≤ 40 := by omega
  have hn0 : (0 : Int) ≤ (n : Int) := by omega
  have RNG : Hid (∀ x ∈ adm 40 [] n n, x.length ≤ 40 ∧ ∀ z ∈ x, 1 ≤ z ∧ z ≤ 40) := Lib.hid (fun x hx => ⟨by have := adm_row 40 [] n n x hx; rw [List.length_nil] at this; omega, adm_range 40 [] n n x hn (by intro z hz; cases hz) hx⟩)
  have HA : Hid ((adm 40 [] n n).filter (fun x => !decide (e < excL x)) = awL n e) := Lib.hid (by
    unfold awL
    congr 1
    funext x
    rw [← decide_not]
    congr 1
    exact propext ⟨fun h => by omega, fun h => by omega⟩)
  generalize awL n e = R at HA ⊢
  have hpos := adm_some n
  have B0 : Hid (Below w.heap.size w (w.alloc (.cells #[.int .i64 e] 2))) := Lib.hid ((Below.refl _ w).alloc (Nat.le_refl _) _)
  have BX : Hid (Box1 (w.alloc (.cells #[.int .i64 e] 2)) w.heap.size 2 (.int .i64 e)) := Lib.hid (Box1.new w _ _)
  have P := Lib.hid (implAdmW_any 40 [] n n [] w.heap.size (.slice none 0 0) (.slice none 0 0) (fun _ => undef) n n 0 (w.alloc (.cells #[.int .i64 e] 2)) rfl rfl rfl (by omega) (by rw [List.length_nil]; omega) (by omega) (by rw [List.length_nil]; exact pow40 n (by omega)) (World.ownsRow_nil _ _ _ _) (fam_nil _ _ _) (sep_zero _) (fun i hi => absurd hi (Nat.not_lt_zero _)) B0.out.size)
  go_enter Try.func69, Try.ntmps69
  go_wp2_with fail
  refine P.out.mono ?_
  rintro e1 w2 ⟨V, VS, rfl, hF, hB, hK, _, hS, _⟩
  rw [List.nil_append] at hF hS
  generalize adm 40 [] n n = L at *
  obtain ⟨g, cap, rfl⟩ := next_shape hF.out hpos
  have HF := Lib.hid hF
  have HS := Lib.hid hS
  have HK : Hid (KeepI none (w.alloc (.cells #[.int .i64 e] 2)) w2) := Lib.hid hK
  have HB := Lib.hid (B0.out.trans hB)
  have hp : PredI L.length VS (fun i => decide (e < excL (rowsOf L i))) w.heap.size w2 := by
    intro i hi wx kx
    have hr := RNG.out _ (rowsOf_mem L i hi)
    exact exceeds_any (VS i) (rowsOf L i) e w.heap.size wx (rd_of_own (kx.own (HF.out.inn i hi) (Classical.em _)) rfl) (fun j hj => okRange_of _ hr.2 j hj) (by omega) (keepI_cell (HK.out.trans kx) BX.out)
  have D := Lib.hid (delFunc_fam L (fun x => decide (e < excL x)) w.heap.size cap g w.heap.size VS w2 HF.out HS.out hp)
  clear hF hB hK hS hp P
  go_wp2_with fail
  refine D.out.mono ?_
  rintro e1 w3 ⟨V', VS', rfl, hF3, hg3, hS3⟩
  have F3 := Lib.hid hF3
  have S3 := Lib.hid hS3
  have B3 : Hid (Below w.heap.size w w3) := Lib.hid (HB.out.grown hg3 HB.out.size (fun k hk => by cases hk; exact (HF.out.out.lt g rfl).1))
  clear hF3 hg3 hS3
  go_wp2_with fail
  go_ret2
  rw [HA.out] at F3 S3
  exact ⟨V', VS', rfl, F3.out, B3.out, S3.out⟩

theorem specWithin_all (a b : Int) (w : World) :
    Calls Try.prog 68 #[.int .i64 a, .int .i64 b] w (SpecRes w (pwOf a b) (wiOf a b)) := by
  by_cases h : (0 ≤ a ∧ a ≤ 40) ∧ 0 ≤ b ∧ b ≤ 40
  · obtain ⟨n, rfl⟩ := Int.eq_ofNat_of_zero_le h.1.1
    rw [show pwOf (n : Int) b = 0 from if_pos h, show wiOf (n : Int) b = awL n b from if_pos h]
    exact specWithin_ok n b w (by omega) h.2.1 h.2.2
  · rw [show pwOf a b = 2 from if_neg h, show wiOf a b = [] from if_neg h]
    by_cases ha : 0 ≤ a ∧ a ≤ 40
    · have hb : b < 0 ∨ 40 < b := by omega
      go_enter Try.func68, Try.ntmps68
      go_wp2_with fail
      refine (l01In_yes _ _ _ _ ha.1 ha.2).mono ?_
      rintro e w' ⟨rfl, rfl⟩
      go_wp2_with fail
      refine (l01In_no _ _ _ _ hb).mono ?_
      rintro e w' ⟨rfl, rfl⟩
      go_wp2_with fail
      go_ret2
      exact ⟨_, fun _ => undef, rfl, fam_nil _ _ _, Below.refl _ _⟩
    · have ha' : a < 0 ∨ 40 < a := by omega
      go_enter Try.func68, Try.ntmps68
      go_wp2_with fail
      refine (l01In_no _ _ _ _ ha').mono ?_
      rintro e w' ⟨rfl, rfl⟩
      go_wp2_with fail
      go_ret2
      exact ⟨_, fun _ => undef, rfl, fam_nil _ _ _, Below.refl _ _⟩

theorem implWithin_all (a b : Int) (w : World) :
    Calls Try.prog 69 #[.int .i64 a, .int .i64 b] w (ImplRes w (pwOf a b) (wiOf a b)) := by
  by_cases h : (0 ≤ a ∧ a ≤ 40) ∧ 0 ≤ b ∧ b ≤ 40
  · obtain ⟨n, rfl⟩ := Int.eq_ofNat_of_zero_le h.1.1
    rw [show pwOf (n : Int) b = 0 from if_pos h, show wiOf (n : Int) b = awL n b from if_pos h]
    exact implWithin_ok n b w (by omega) h.2.1 h.2.2
  · rw [show pwOf a b = 2 from if_neg h, show wiOf a b = [] from if_neg h]
    have B0 : Hid (Below w.heap.size w (w.alloc (.cells #[.int .i64 b] 2))) := Lib.hid ((Below.refl _ w).alloc (Nat.le_refl _) _)
    by_cases h1 : a < 0
    · go_enter Try.func69, Try.ntmps69
      go_wp2_with fail
      go_ret2
      exact ⟨_, fun _ => undef, rfl, fam_nil _ _ _, B0.out, sep_zero _⟩
    · by_cases h2 : 40 < a
      · go_enter Try.func69, Try.ntmps69
        go_wp2_with fail
        go_ret2
        exact ⟨_, fun _ => undef, rfl, fam_nil _ _ _, B0.out, sep_zero _⟩
      · by_cases h3 : b < 0
        · go_enter Try.func69, Try.ntmps69
          go_wp2_with fail
          go_ret2
          exact ⟨_, fun _ => undef, rfl, fam_nil _ _ _, B0.out, sep_zero _⟩
        · have h4 : 40 < b := by omega
          go_enter Try.func69, Try.ntmps69
          go_wp2_with fail
          go_ret2
          exact ⟨_, fun _ => undef, rfl, fam_nil _ _ _, B0.out, sep_zero _⟩

theorem wiOf_len (a b : Int) : (wiOf a b).length ≤ 1099511627776 ∧ ∀ x ∈ wiOf a b, x.length ≤ 40 := by
  unfold wiOf
  split
  · rename_i h
    have h40 : a.toNat ≤ 40 := by omega
    constructor
    · exact Nat.le_trans (List.length_filter_le _ _) (Nat.le_trans (adm_len 40 [] a.toNat a.toNat) (Nat.pow_le_pow_right (by decide) h40))
    · intro x hx
      have := adm_row 40 [] _ _ x (List.mem_filter.1 hx).1
      rw [List.length_nil] at this
      omega
  · exact ⟨Nat.zero_le _, fun x hx => by cases hx⟩
theorem wiOf_off (a b : Int) : off 1 (fun i => (rowsOf (wiOf a b) i).length) (wiOf a b).length ≤ 1152921504606846976 := by
  have h1 := wiOf_len a b
  have h2 := off_bound (fun i => (rowsOf (wiOf a b) i).length) 40 (wiOf a b).length (fun i hi => rowsOf_len _ 40 h1.2 i hi)
  have h3 := h1.1
  omega
end Go.Proofs.Ytfmnlapnbhcacaa
