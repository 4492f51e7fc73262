/-
  spec.ElementQ and impl.ElementQ answer the same.
-/
import Derived.Test.YthklgkccldklaaaNElS
namespace Go.Proofs.Ythklgkccldklaaa.Ml
open Go.RowKit
set_option linter.unusedVariables false
set_option maxRecDepth 100000

theorem specQ_no (i : Int) (w : World) (h : ¬ (0 ≤ i ∧ i ≤ 9)) : Calls Try.prog 12 #[.int .i64 i] w (ResS [] 2 w) := by
  have t2 := Try.underlying24
  have B0 : Hid (Below w.heap.size w (w.alloc (.cells #[.slice none 0 0] 24))) := Lib.hid ((Below.refl _ w).alloc (Nat.le_refl _) _)
  have BX : Hid (Box1 (w.alloc (.cells #[.slice none 0 0] 24)) w.heap.size 24 (.slice none 0 0)) := Lib.hid (Box1.new _ _ _)
  have FIN := Lib.hid (fin1 (famNil _ (w.heap.size + 1)) B0.out (by omega) BX.out)
  have I1 := Lib.hid (fun wx => l01In_no i 0 9 wx (by omega))
  clear h
  go_enter Try.func12, Try.ntmps12
  go_wp2_with fail
  refine (I1.out _).mono ?_
  rintro e w2 ⟨rfl, rfl⟩
  have c0 := BX.out.c
  have f0 := BX.out.fr 0
  go_wp2_with fail
  refine bodyPost_ret (results_box1_tmp rfl _ _ w.heap.size _ _ rfl (by first | exact FIN.out.1 | exact BX.out) t2 (by kernel_rfl)) rfl ?_
  first
    | exact ⟨_, _, rfl, FIN.out.2.1, sepNil, FIN.out.2.2⟩
    | exact ⟨_, _, rfl, famNil _ _, sepNil, B0.out⟩
theorem implQ_no (i : Int) (w : World) (h : ¬ (0 ≤ i ∧ i ≤ 9)) : Calls Try.prog 13 #[.int .i64 i] w (ResS [] 2 w) := by
  have t2 := Try.underlying24
  have B0 : Hid (Below w.heap.size w (w.alloc (.cells #[.slice none 0 0] 24))) := Lib.hid ((Below.refl _ w).alloc (Nat.le_refl _) _)
  have BX : Hid (Box1 (w.alloc (.cells #[.slice none 0 0] 24)) w.heap.size 24 (.slice none 0 0)) := Lib.hid (Box1.new _ _ _)
  have FIN := Lib.hid (fin1 (famNil _ (w.heap.size + 1)) B0.out (by omega) BX.out)
  have hcase : i < 0 ∨ (0 ≤ i ∧ 9 < i) := by omega
  clear h
  have c0 := BX.out.c
  have f0 := BX.out.fr 0
  rcases hcase with h1 | ⟨h1, h2⟩
  all_goals
    go_enter Try.func13, Try.ntmps13
    go_wp2_with fail
    refine bodyPost_ret (results_box1_tmp rfl _ _ w.heap.size _ _ rfl (by first | exact FIN.out.1 | exact BX.out) t2 (by kernel_rfl)) rfl ?_
    first
      | exact ⟨_, _, rfl, FIN.out.2.1, sepNil, FIN.out.2.2⟩
      | exact ⟨_, _, rfl, famNil _ _, sepNil, B0.out⟩
theorem specQ_yes (i : Int) (L : List (List Int)) (cd : Int) (w : World) (h : 0 ≤ i ∧ i ≤ 9) (S : Hid (∀ wx, Calls Try.prog 7 #[.int .i64 0, .int .i64 (i + 1)] wx (ResS L cd wx))) : Calls Try.prog 12 #[.int .i64 i] w (ResS L cd w) := by
  have t2 := Try.underlying24
  have B0 : Hid (Below w.heap.size w (w.alloc (.cells #[.slice none 0 0] 24))) := Lib.hid ((Below.refl _ w).alloc (Nat.le_refl _) _)
  have BX : Hid (Box1 (w.alloc (.cells #[.slice none 0 0] 24)) w.heap.size 24 (.slice none 0 0)) := Lib.hid (Box1.new _ _ _)
  have hsz0 : (w.alloc (.cells #[.slice none 0 0] 24)).heap.size = w.heap.size + 1 := by simp
  have I1 := Lib.hid (fun wx => l01In_yes i 0 9 wx h.1 h.2)
  have h0 := h.1
  have h9 := h.2
  clear h
  go_enter Try.func12, Try.ntmps12
  go_wp2_with fail
  refine (I1.out _).mono ?_
  rintro e w2 ⟨rfl, rfl⟩
  go_wp2_with fail
  refine (S.out _).mono ?_
  rintro e w3 ⟨V, VS, rfl, hF, hS, hb3⟩
  obtain ⟨av, cv, rfl, _, _⟩ := hF.head
  rw [hsz0] at hF
  have hs3 := hb3.size
  rw [hsz0] at hs3
  have bn := (Below.refl w3.heap.size w3).alloc (Nat.le_refl _) (.cells #[.slice av L.length cv] 24)
  have HF := Lib.hid (Fam.below hF bn)
  have HS := Lib.hid hS
  have B4 := Lib.hid ((B0.out.step1 hb3).step1 bn)
  have X4 := Lib.hid ((BX.out.up hb3).up bn)
  have c0 := X4.out.c
  have f0 := X4.out.fr 0
  have FIN := Lib.hid (fin1 HF.out B4.out (by omega) X4.out)
  clear hF hS hb3 bn
  go_wp2_with fail
  refine bodyPost_ret (results_box1_tmp rfl _ _ w.heap.size _ _ rfl FIN.out.1 t2 (by kernel_rfl)) rfl ?_
  exact ⟨_, _, rfl, FIN.out.2.1, HS.out, FIN.out.2.2⟩
theorem implQ_yes (i : Int) (L : List (List Int)) (cd : Int) (w : World) (h : 0 ≤ i ∧ i ≤ 9) (S : Hid (∀ wx, Calls Try.prog 8 #[.int .i64 0, .int .i64 (i + 1)] wx (ResS L cd wx))) : Calls Try.prog 13 #[.int .i64 i] w (ResS L cd w) := by
  have t2 := Try.underlying24
  have B0 : Hid (Below w.heap.size w (w.alloc (.cells #[.slice none 0 0] 24))) := Lib.hid ((Below.refl _ w).alloc (Nat.le_refl _) _)
  have BX : Hid (Box1 (w.alloc (.cells #[.slice none 0 0] 24)) w.heap.size 24 (.slice none 0 0)) := Lib.hid (Box1.new _ _ _)
  have hsz0 : (w.alloc (.cells #[.slice none 0 0] 24)).heap.size = w.heap.size + 1 := by simp
  have h0 := h.1
  have h9 := h.2
  clear h
  go_enter Try.func13, Try.ntmps13
  go_wp2_with fail
  refine (S.out _).mono ?_
  rintro e w3 ⟨V, VS, rfl, hF, hS, hb3⟩
  obtain ⟨av, cv, rfl, _, _⟩ := hF.head
  rw [hsz0] at hF
  have HF := Lib.hid hF
  have HS := Lib.hid hS
  have B4 := Lib.hid (B0.out.step1 hb3)
  have X4 := Lib.hid (BX.out.up hb3)
  have c0 := X4.out.c
  have f0 := X4.out.fr 0
  have FIN := Lib.hid (fin1 HF.out B4.out (by omega) X4.out)
  clear hF hS hb3
  go_wp2_with fail
  refine bodyPost_ret (results_box1_tmp rfl _ _ w.heap.size _ _ rfl FIN.out.1 t2 (by kernel_rfl)) rfl ?_
  exact ⟨_, _, rfl, FIN.out.2.1, HS.out, FIN.out.2.2⟩
theorem ElementQ_both (i : Int) : ∃ (L : List (List Int)) (cd : Int), L.length ≤ 1 ∧ (∀ i, (rowsOf L i).length ≤ 20) ∧
    (∀ w, Calls Try.prog 12 #[.int .i64 i] w (ResS L cd w)) ∧ (∀ w, Calls Try.prog 13 #[.int .i64 i] w (ResS L cd w)) := by
  by_cases h : 0 ≤ i ∧ i ≤ 9
  · obtain ⟨L, cd, h1, h2, h3, h4⟩ := ElementP_both 0 (i + 1)
    exact ⟨L, cd, h1, h2, fun w => specQ_yes i L cd w h (Lib.hid h3), fun w => implQ_yes i L cd w h (Lib.hid h4)⟩
  · exact ⟨[], 2, Nat.zero_le _, fun i => Nat.zero_le _, fun w => specQ_no i w h, fun w => implQ_no i w h⟩
end Go.Proofs.Ythklgkccldklaaa.Ml
