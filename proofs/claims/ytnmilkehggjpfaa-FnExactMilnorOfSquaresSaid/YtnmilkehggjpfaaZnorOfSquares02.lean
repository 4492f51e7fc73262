/-
  Joined: NMow.
-/
import Derived.Test.YtnmilkehggjpfaaZBMil41
import Derived.Test.YtnmilkehggjpfaaZBMil42
import Derived.Test.YtnmilkehggjpfaaZnorOfSquares01
section
namespace Go.Proofs.Ytnmilkehggjpfaa.Ml
open Go.RowKit
set_option linter.unusedVariables false
set_option maxRecDepth 100000

theorem dsum_sum (G : Nat → Int) : ∀ n, ((List.range n).map G).sum = dsum G n
  | 0 => rfl
  | n + 1 => by
    rw [List.range_succ, List.map_append, List.sum_append, dsum_sum G n]
    simp [dsum]
theorem okW_word {G : Nat → Int} {n : Nat} (h : okWord G n) : okW ((List.range n).map G) := by
  refine ⟨fun z hz => ?_, ?_⟩
  · obtain ⟨i, hi, rfl⟩ := List.mem_map.1 hz
    exact (h.le i (List.mem_range.1 hi)).1
  · rw [dsum_sum]
    exact (h.nums n (Nat.le_refl _)).2

theorem specMOW_no (v : Value) (n : Nat) (G : Nat → Int) (w : World) (h : RdI w v n G) (hb : ¬ okWord G n) : Calls Try.prog 45 #[v] w (ResS [] 1 w) := by
  have t2 := Try.underlying45
  obtain ⟨w1, hw1⟩ : ∃ w1, w1 = (w.alloc (.cells #[.slice none 0 0] 45)) := ⟨_, rfl⟩
  have B1 : Hid (Below w.heap.size w w1) := Lib.hid (by rw [hw1]; exact (Below.refl _ w).alloc (Nat.le_refl _) _)
  have X1 : Hid (Box1 w1 w.heap.size 45 (.slice none 0 0)) := Lib.hid (by rw [hw1]; exact Box1.new _ _ _)
  have WD := Lib.hid (l03Word_no v n G w1 (h.below B1.out) hb)
  obtain ⟨va, vc, rfl, _⟩ := h
  clear hb
  go_enter Try.func45, Try.ntmps45
  go_upto_region 1 with fail
  rw [← hw1]
  clear hw1
  go_wp2_with fail
  refine WD.out.mono ?_
  rintro e w' ⟨rfl, rfl⟩
  have dR := X1.out.c
  have fR := X1.out.fr 0
  have FIN := Lib.hid (fin1 (famNil _ (w.heap.size + 1)) B1.out (by omega) X1.out)
  go_wp2_with fail
  refine bodyPost_ret (results_box1_tmp rfl _ _ w.heap.size _ _ rfl (by first | exact FIN.out.1 | exact X1.out) t2 (by kernel_rfl)) rfl ?_
  first
    | exact ⟨_, _, rfl, FIN.out.2.1, sepNil, FIN.out.2.2⟩
    | exact ⟨_, _, rfl, famNil _ _, sepNil, B1.out⟩
theorem implMOW_no (v : Value) (n : Nat) (G : Nat → Int) (w : World) (h : RdI w v n G) (hb : ¬ okWord G n) : Calls Try.prog 47 #[v] w (ResS [] 1 w) := by
  have t2 := Try.underlying45
  obtain ⟨w1, hw1⟩ : ∃ w1, w1 = (w.alloc (.cells #[.slice none 0 0] 45)) := ⟨_, rfl⟩
  have B1 : Hid (Below w.heap.size w w1) := Lib.hid (by rw [hw1]; exact (Below.refl _ w).alloc (Nat.le_refl _) _)
  have X1 : Hid (Box1 w1 w.heap.size 45 (.slice none 0 0)) := Lib.hid (by rw [hw1]; exact Box1.new _ _ _)
  have WD := Lib.hid (isWord_no v n G w1 (h.below B1.out) hb)
  obtain ⟨va, vc, rfl, _⟩ := h
  clear hb
  go_enter Try.func47, Try.ntmps47
  go_upto_region 1 with fail
  rw [← hw1]
  clear hw1
  go_wp2_with fail
  refine WD.out.mono ?_
  rintro e w' ⟨rfl, rfl⟩
  have dR := X1.out.c
  have fR := X1.out.fr 0
  have FIN := Lib.hid (fin1 (famNil _ (w.heap.size + 1)) B1.out (by omega) X1.out)
  go_wp2_with fail
  refine bodyPost_ret (results_box1_tmp rfl _ _ w.heap.size _ _ rfl (by first | exact FIN.out.1 | exact X1.out) t2 (by kernel_rfl)) rfl ?_
  first
    | exact ⟨_, _, rfl, FIN.out.2.1, sepNil, FIN.out.2.2⟩
    | exact ⟨_, _, rfl, famNil _ _, sepNil, B1.out⟩

theorem specMOW_ok (v : Value) (n : Nat) (G : Nat → Int) (w : World) (h : RdI w v n G) (hb : okWord G n) : Calls Try.prog 45 #[v] w (ResS (wT ((List.range n).map G)) 0 w) := by
  have t2 := Try.underlying45
  obtain ⟨w1, hw1⟩ : ∃ w1, w1 = (w.alloc (.cells #[.slice none 0 0] 45)) := ⟨_, rfl⟩
  have B1 : Hid (Below w.heap.size w w1) := Lib.hid (by rw [hw1]; exact (Below.refl _ w).alloc (Nat.le_refl _) _)
  have X1 : Hid (Box1 w1 w.heap.size 45 (.slice none 0 0)) := Lib.hid (by rw [hw1]; exact Box1.new _ _ _)
  have WD := Lib.hid (l03Word_yes v n G w1 (h.below B1.out) hb)
  have ST := Lib.hid (l05Word_any v n G w1 (h.below B1.out) (okW_word hb) (by have := hb.1; omega))
  obtain ⟨va, vc, rfl, _⟩ := h
  clear hb
  go_enter Try.func45, Try.ntmps45
  go_upto_region 1 with fail
  rw [← hw1]
  clear hw1
  go_wp2_with fail
  refine WD.out.mono ?_
  rintro e w' ⟨rfl, rfl⟩
  go_wp2_with fail
  refine ST.out.mono ?_
  rintro e w5 ⟨V5, VS5, rfl, f5, s5, b5⟩
  obtain ⟨av, cv, rfl, _, _⟩ := Fam.head f5
  have hsz := X1.out.lt
  have X5 := Lib.hid (X1.out.up b5)
  have B5 := Lib.hid (B1.out.step1 b5)
  have FIN := Lib.hid (fin1 f5 B5.out (by omega) X5.out)
  have HS := Lib.hid s5
  clear f5 s5 b5 ST
  have dR := X5.out.c
  have fR := X5.out.fr 0
  go_wp2_with fail
  refine bodyPost_ret (results_box1_tmp rfl _ _ w.heap.size _ _ rfl FIN.out.1 t2 (by kernel_rfl)) rfl ?_
  exact ⟨_, _, rfl, FIN.out.2.1, HS.out, FIN.out.2.2⟩

theorem implMOW_ok (v : Value) (n : Nat) (G : Nat → Int) (w : World) (h : RdI w v n G) (hb : okWord G n)
    (S : ∀ a cap wx, RdI wx (.slice a n cap) n G → Calls Try.prog 82 #[.slice (some ⟨wx.heap.size, 0, none⟩) 1 1, .func (.func 83) #[] #[]] (wx.alloc (.cells #[.slice a n cap] 65)) (ResT (wT ((List.range n).map G)) (wx.alloc (.cells #[.slice a n cap] 65)))) : Calls Try.prog 47 #[v] w (ResS (wT ((List.range n).map G)) 0 w) := by
  have t2 := Try.underlying45
  obtain ⟨w1, hw1⟩ : ∃ w1, w1 = (w.alloc (.cells #[.slice none 0 0] 45)) := ⟨_, rfl⟩
  have B1 : Hid (Below w.heap.size w w1) := Lib.hid (by rw [hw1]; exact (Below.refl _ w).alloc (Nat.le_refl _) _)
  have X1 : Hid (Box1 w1 w.heap.size 45 (.slice none 0 0)) := Lib.hid (by rw [hw1]; exact Box1.new _ _ _)
  have WD := Lib.hid (isWord_yes v n G w1 (h.below B1.out) hb)
  have h1 := h.below B1.out
  obtain ⟨va, vc, rfl, _⟩ := h
  have ST := Lib.hid (S va vc w1 h1)
  have b9 : Below w1.heap.size w1 (w1.alloc (.cells #[.slice va n vc] 65)) := (Below.refl _ _).alloc (Nat.le_refl _) _
  clear h1
  clear hb
  go_enter Try.func47, Try.ntmps47
  go_upto_region 1 with fail
  rw [← hw1]
  clear hw1
  go_wp2_with fail
  refine WD.out.mono ?_
  rintro e w' ⟨rfl, rfl⟩
  go_wp2_with fail
  refine ST.out.mono ?_
  rintro e w5 ⟨V5, VS5, rfl, f5, s5, b5⟩
  obtain ⟨av, cv, rfl, _, _⟩ := Fam.head f5
  have hsz := X1.out.lt
  have X5 := Lib.hid (X1.out.up (b9.step1 b5))
  have B5 := Lib.hid (B1.out.step1 (b9.step1 b5))
  have FIN := Lib.hid (fin1 f5 B5.out (by rw [World.size_alloc]; omega) X5.out)
  have HS := Lib.hid s5
  clear f5 s5 b5 ST
  have dR := X5.out.c
  have fR := X5.out.fr 0
  go_wp2_with fail
  refine bodyPost_ret (results_box1_tmp rfl _ _ w.heap.size _ _ rfl FIN.out.1 t2 (by kernel_rfl)) rfl ?_
  exact ⟨_, _, rfl, FIN.out.2.1, HS.out, FIN.out.2.2⟩
end Go.Proofs.Ytnmilkehggjpfaa.Ml
end
