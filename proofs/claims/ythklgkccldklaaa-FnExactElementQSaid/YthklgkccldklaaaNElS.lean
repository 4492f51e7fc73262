/-
  spec.l06Power, spec.ElementP; both answer the same; ElementQ.
-/
import Derived.Test.YthklgkccldklaaaNElP
namespace Go.Proofs.Ythklgkccldklaaa.Ml
open Go.RowKit
set_option linter.unusedVariables false
set_option maxRecDepth 100000

set_option maxHeartbeats 1000000 in
theorem l06Power_any (u k : Nat) (w : World) (hu : u ≤ 1000) (hk : 1 ≤ k) (hk2 : k ≤ 1000000) :
    Calls Try.prog 21 #[.int .i64 ((u : Int) + 1), .int .i64 k] w fun e w' => e = .returned (.slice (some ⟨w.heap.size, 0, none⟩) (u + 1) (u + 1)) ∧ w'.ownsRow w.heap.size 2 1 (.slice (some ⟨w.heap.size, 0, none⟩) (u + 1) (u + 1)) (u + 1) (((List.replicate (u + 1) (0 : Int)).set u (k : Int)).map (Value.int .i64)) ∧ Below w.heap.size w w' := by
  obtain ⟨i0, hi, hz0, hz1, hz2⟩ := info_parts Try.info2
  have h1 : (((u : Int) + 1) == 0) = false := by rw [beq_eq_false_iff_ne]; omega
  have h2 : ((k : Int) == 0) = false := by rw [beq_eq_false_iff_ne]; omega
  go_enter Try.func21, Try.ntmps21
  go_upto_region 4 with (at_make; refine wpList_make_full _ rfl _ _ 41 rfl w.heap.size 2 i0 (.int .i64 0) 1 Try.underlying41 hi hz0 hz1 .i64 .i64 ((u : Int) + 1) ((u : Int) + 1) (u + 1) rfl rfl (by simp) (by simp) (by rw [hz2]; omega) (by unfold maxLen; omega) (Nat.le_refl _) ?_; intro w5 hown hgrow; rw [made_list0] at hown; have H5 := Lib.hid hown; have G5 := Lib.hid hgrow; clear hown hgrow)
  have b5 : Below w.heap.size w w5 := (Below.refl w.heap.size w).grown G5.out (Nat.le_refl _) (by intro k hk; cases hk)
  obtain ⟨st1, _⟩ := World.ownsRow.stored H5.out u (.int .i64 (k : Int))
  rw [← List.map_set] at st1
  have c5 := World.ownsRow.cellAt H5.out u (by omega)
  rw [List.getElem?_map, List.getElem?_replicate, if_pos (by omega)] at c5
  simp only [Option.map_some] at c5
  have f5 := World.ownsRow.frozenAt H5.out u
  have ST := Lib.hid st1
  have B6 := Lib.hid (b5.setCell (p := ⟨w.heap.size, u, none⟩) (Nat.le_refl _) (.int .i64 (k : Int)))
  clear H5 G5 st1 b5
  go_wp2_with fail
  go_ret
  exact ⟨rfl, ST.out, B6.out⟩

theorem specP_range (s t : Int) (w : World) (h : ¬ ((0 ≤ s ∧ s ≤ 10) ∧ (1 ≤ t ∧ t ≤ 10))) : Calls Try.prog 7 #[.int .i64 s, .int .i64 t] w (ResS [] 2 w) := by
  have t2 := Try.underlying24
  have B0 : Hid (Below w.heap.size w (w.alloc (.cells #[.slice none 0 0] 24))) := Lib.hid ((Below.refl _ w).alloc (Nat.le_refl _) _)
  have BX : Hid (Box1 (w.alloc (.cells #[.slice none 0 0] 24)) w.heap.size 24 (.slice none 0 0)) := Lib.hid (Box1.new _ _ _)
  have FIN := Lib.hid (fin1 (famNil _ (w.heap.size + 1)) B0.out (by omega) BX.out)
  by_cases h1 : 0 ≤ s ∧ s ≤ 10
  · have h2 : t < 1 ∨ 10 < t := by omega
    have I1 := Lib.hid (fun wx => l01In_yes s 0 10 wx h1.1 h1.2)
    have I2 := Lib.hid (fun wx => l01In_no t 1 10 wx h2)
    clear h h1 h2
    go_enter Try.func7, Try.ntmps7
    go_wp2_with fail
    refine (I1.out _).mono ?_
    rintro e w2 ⟨rfl, rfl⟩
    go_wp2_with fail
    refine (I2.out _).mono ?_
    rintro e w2 ⟨rfl, rfl⟩
    have c0 := BX.out.c
    have f0 := BX.out.fr 0
    go_wp2_with fail
    refine bodyPost_ret (results_box1_tmp rfl _ _ w.heap.size _ _ rfl (by first | exact FIN.out.1 | exact BX.out) t2 (by kernel_rfl)) rfl ?_
    first
      | exact ⟨_, _, rfl, FIN.out.2.1, sepNil, FIN.out.2.2⟩
      | exact ⟨_, _, rfl, famNil _ _, sepNil, B0.out⟩
  · have h2 : s < 0 ∨ 10 < s := by omega
    have I1 := Lib.hid (fun wx => l01In_no s 0 10 wx h2)
    clear h h1 h2
    go_enter Try.func7, Try.ntmps7
    go_wp2_with fail
    refine (I1.out _).mono ?_
    rintro e w2 ⟨rfl, rfl⟩
    have c0 := BX.out.c
    have f0 := BX.out.fr 0
    go_wp2_with fail
    refine bodyPost_ret (results_box1_tmp rfl _ _ w.heap.size _ _ rfl (by first | exact FIN.out.1 | exact BX.out) t2 (by kernel_rfl)) rfl ?_
    first
      | exact ⟨_, _, rfl, FIN.out.2.1, sepNil, FIN.out.2.2⟩
      | exact ⟨_, _, rfl, famNil _ _, sepNil, B0.out⟩

set_option maxHeartbeats 1000000 in
theorem specP_ok (s t : Nat) (w : World) (hs : s ≤ 10) (ht0 : 1 ≤ t) (ht : t ≤ 10) :
    Calls Try.prog 7 #[.int .i64 s, .int .i64 t] w (ResS (if 40 < (2 ^ t - 1) * 2 ^ s then [] else [ePl s t]) (if 40 < (2 ^ t - 1) * 2 ^ s then 3 else 0) w) := by
  have t2 := Try.underlying24
  have h1 : (s : Int) ≤ 10 := by omega
  have h0 : (0 : Int) ≤ (s : Int) := by omega
  have B0 : Hid (Below w.heap.size w (w.alloc (.cells #[.slice none 0 0] 24))) := Lib.hid ((Below.refl _ w).alloc (Nat.le_refl _) _)
  have BX : Hid (Box1 (w.alloc (.cells #[.slice none 0 0] 24)) w.heap.size 24 (.slice none 0 0)) := Lib.hid (Box1.new _ _ _)
  obtain ⟨a1, a2, a3, a4, a5⟩ := okP_all hs ht
  obtain ⟨u, rfl⟩ : ∃ u, t = u + 1 := ⟨t - 1, by omega⟩
  have hut : ((u + 1 : Nat) : Int) = (u : Int) + 1 := by omega
  have I1 := Lib.hid (fun wx => l01In_yes (s : Int) 0 10 wx h0 h1)
  have I2 := Lib.hid (fun wx => l01In_yes ((u : Int) + 1) 1 10 wx (by omega) (by omega))
  have PW := Lib.hid (fun wx => l06Power_any u (2 ^ s) wx (by omega) a3 (by omega))
  have EL : Hid (ePl s (u + 1) = (List.replicate (u + 1) (0 : Int)).set u ((2 ^ s : Nat) : Int)) := Lib.hid rfl
  have eQ : ((2 ^ s : Nat) : Int) = (2 : Int) ^ s := by simp
  have hq : wrap64 ((2 : Int) ^ s) = ((2 ^ s : Nat) : Int) := by
    rw [← eQ]
    generalize 2 ^ s = K at a4 ⊢
    unfold wrap64; omega
  have hcv : IntKind.u64.wrap (s : Int) = (s : Int) := by rw [IntKind.wrap_u64]; omega
  have DG := Lib.hid a1
  rw [hut]
  generalize (2 ^ (u + 1) - 1) * 2 ^ s = K at *
  generalize hQ : (2 ^ s : Nat) = Q at *
  clear hQ eQ a1 a2 a3 a4 a5 ht0 hut
  have HQ := Lib.hid hq
  clear hq
  have hsz0 : (w.alloc (.cells #[.slice none 0 0] 24)).heap.size = w.heap.size + 1 := by simp
  by_cases hbig : 40 < K
  · have hb : (40 : Int) < (K : Int) := by omega
    rw [if_pos hbig, if_pos hbig]
    go_enter Try.func7, Try.ntmps7
    go_wp2_with fail
    refine (I1.out _).mono ?_
    rintro e w2 ⟨rfl, rfl⟩
    go_wp2_with fail
    refine (I2.out _).mono ?_
    rintro e w2 ⟨rfl, rfl⟩
    have hq := HQ.out
    go_wp2_with fail
    refine (PW.out _).mono ?_
    rintro e w3 ⟨rfl, ho, hb3⟩
    rw [← EL.out, hsz0] at ho
    have RL := Lib.hid (rd_of_own ho (ePl_len s (u + 1)).symm)
    have DC := Lib.hid (l01Degree_any _ _ _ w3 RL.out (by omega))
    rw [DG.out] at DC
    have B3 := Lib.hid (B0.out.step1 hb3)
    have X3 := Lib.hid (BX.out.up hb3)
    clear hq ho hb3
    go_wp2_with fail
    refine DC.out.mono ?_
    rintro e w4 ⟨rfl, rfl⟩
    have c0 := X3.out.c
    have f0 := X3.out.fr 0
    have FIN := Lib.hid (fin1 (famNil _ (w.heap.size + 1)) B3.out (by omega) X3.out)
    go_wp2_with fail
    refine bodyPost_ret (results_box1_tmp rfl _ _ w.heap.size _ _ rfl (by first | exact FIN.out.1 | exact X3.out) t2 (by kernel_rfl)) rfl ?_
    first
      | exact ⟨_, _, rfl, FIN.out.2.1, sepNil, FIN.out.2.2⟩
      | exact ⟨_, _, rfl, famNil _ _, sepNil, B3.out⟩
  · have hb : ¬ (40 : Int) < (K : Int) := by omega
    rw [if_neg hbig, if_neg hbig]
    clear hbig
    go_enter Try.func7, Try.ntmps7
    go_wp2_with fail
    refine (I1.out _).mono ?_
    rintro e w2 ⟨rfl, rfl⟩
    go_wp2_with fail
    refine (I2.out _).mono ?_
    rintro e w2 ⟨rfl, rfl⟩
    have hq := HQ.out
    go_wp2_with fail
    refine (PW.out _).mono ?_
    rintro e w3 ⟨rfl, ho, hb3⟩
    rw [← EL.out, hsz0] at ho
    have RL := Lib.hid (rd_of_own ho (ePl_len s (u + 1)).symm)
    have DC := Lib.hid (l01Degree_any _ _ _ w3 RL.out (by omega))
    rw [DG.out] at DC
    have B3 := Lib.hid (B0.out.step1 hb3)
    have X3 := Lib.hid (BX.out.up hb3)
    have HO := Lib.hid ho
    have hs3 := hb3.size
    rw [hsz0] at hs3
    clear hq ho hb3
    go_wp2_with fail
    refine DC.out.mono ?_
    rintro e w4 ⟨rfl, rfl⟩
    have ON := Lib.hid (one_fam (B := w.heap.size + 1) (x := ePl s (u + 1)) (v := .slice (some ⟨w.heap.size + 1, 0, none⟩) (u + 1) (u + 1)) (by rw [ePl_len]; exact HO.out) hs3)
    have bn := (Below.refl w3.heap.size w3).alloc (Nat.le_refl _) (.cells #[.slice (some ⟨w.heap.size + 1, 0, none⟩) (u + 1) (u + 1)] 41)
    have B9 := Lib.hid (B3.out.step1 bn)
    have X9 := Lib.hid (X3.out.up bn)
    have c0 := X9.out.c
    have f0 := X9.out.fr 0
    have HFIN := Lib.hid (fin1 ON.out B9.out (by omega) X9.out)
    clear bn ON HO
    go_wp2_with fail
    refine bodyPost_ret (results_box1_tmp rfl _ _ w.heap.size _ _ rfl HFIN.out.1 t2 (by kernel_rfl)) rfl ?_
    exact ⟨_, _, rfl, HFIN.out.2.1, one_sep _ _, HFIN.out.2.2⟩

theorem ElementP_both (s t : Int) : ∃ (L : List (List Int)) (cd : Int), L.length ≤ 1 ∧ (∀ i, (rowsOf L i).length ≤ 20) ∧
    (∀ w, Calls Try.prog 7 #[.int .i64 s, .int .i64 t] w (ResS L cd w)) ∧ (∀ w, Calls Try.prog 8 #[.int .i64 s, .int .i64 t] w (ResS L cd w)) := by
  by_cases h : (0 ≤ s ∧ s ≤ 10) ∧ (1 ≤ t ∧ t ≤ 10)
  · obtain ⟨a, rfl⟩ := Int.eq_ofNat_of_zero_le h.1.1
    obtain ⟨b, rfl⟩ := Int.eq_ofNat_of_zero_le (show 0 ≤ t by omega)
    refine ⟨_, _, ?_, ?_, fun w => specP_ok a b w (by omega) (by omega) (by omega), fun w => implP_ok a b w (by omega) (by omega) (by omega)⟩
    · split <;> simp
    · intro i
      split
      · exact Nat.zero_le _
      · unfold rowsOf
        by_cases hi : i < 1
        · obtain rfl : i = 0 := by omega
          show (ePl a b).length ≤ 20
          rw [ePl_len]; omega
        · rw [List.getElem?_eq_none (by simp; omega)]; exact Nat.zero_le _
  · exact ⟨[], 2, Nat.zero_le _, fun i => Nat.zero_le _, fun w => specP_range s t w h, fun w => implP_range s t w h⟩
end Go.Proofs.Ythklgkccldklaaa.Ml
