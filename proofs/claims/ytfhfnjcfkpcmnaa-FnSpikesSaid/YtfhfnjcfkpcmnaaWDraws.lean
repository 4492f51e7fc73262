/-
  The numbers that the law draws: spec.DrawSpikesOf, spec.DrawLeastSpike, spec.DrawCountPartitions; and laws.big.
-/
import Derived.Test.YtfhfnjcfkpcmnaaWFrom
namespace Go.Proofs.Ytfhfnjcfkpcmnaa
open Go.RowKit
set_option linter.unusedVariables false

/-- A drawn number: an int64, and nothing that lay there has changed. -/
def DrawRes (w : World) (e : Ending) (w' : World) : Prop :=
  ∃ x : Int, e = .returned (.int .i64 x) ∧ -9223372036854775808 ≤ x ∧ x ≤ 9223372036854775807 ∧ Below w.heap.size w w'

theorem Src.news {w w' : World} {g B : Nat} (h : Src w g B) (k : Below w.heap.size w w') : Src w' g B := by
  have hl := h.lt
  obtain ⟨hB, a, m, cap, at_, x, hc, hm, ha, hblk⟩ := h
  exact ⟨hB, a, m, cap, at_, x, hc.below (k.mono (by omega)), hm, ha, (k.block g hl.2).trans hblk⟩

set_option maxRecDepth 100000 in
theorem DrawSpikesOf_any (a : Option Addr) (m cap : Nat) (w : World) (hc : Code w w.heap.size a m) (hm : m ≤ 4096) :
    Calls Try.prog 41 #[.slice a m cap] w (DrawRes w) := by
  have S := Lib.hid (l01From_any a m cap w hc hm)
  clear hc
  go_enter Try.func41, Try.ntmps41
  go_wp2_with fail
  refine S.out.mono ?_
  rintro e w1 ⟨rfl, hb1, hs1⟩
  have hl1 := hs1.lt
  have N := Lib.hid (l01Next_any w.heap.size w.heap.size 12 w1 hs1 (by omega) (by omega))
  have B1 := Lib.hid hb1
  clear hs1 hb1 S
  go_wp2_with fail
  refine N.out.mono ?_
  rintro e w2 ⟨x, rfl, hx0, hx1, hb2, hs2, hk2⟩
  have M := Lib.hid (l01Near_any w.heap.size w.heap.size 40 w2 hs2 (by omega) (by omega))
  have B2 := Lib.hid (B1.out.trans hb2)
  clear hs2 hb2 hk2 N B1
  go_wp2_with fail
  refine M.out.mono ?_
  rintro e w3 ⟨y, rfl, hy0, hy1, hb3, hs3⟩
  have hl3 := hs3.lt
  have B3 := Lib.hid (B2.out.trans hb3)
  have HS := Lib.hid hs3
  clear hs3 hb3 M B2
  go_wp2_with fail
  refine (l01Pick_any w.heap.size w.heap.size w3.heap.size 2 [x, y] _ (HS.out.alloc _) (heap_alloc_new w3 _) (by omega) (by simp) (by simp)).mono ?_
  rintro e w4 ⟨z, rfl, hz, hb4, hs4, hk4⟩
  have B4 := Lib.hid ((B3.out.alloc (by omega) _).trans hb4)
  have HZ : Hid (-9223372036854775808 ≤ z ∧ z ≤ 9223372036854775807) := Lib.hid (by
    simp only [List.mem_cons, List.not_mem_nil, or_false] at hz
    omega)
  clear hb4 hs4 hk4 hz
  go_wp2
  go_ret
  exact ⟨z, rfl, HZ.out.1, HZ.out.2, B4.out⟩

set_option maxRecDepth 100000 in
theorem DrawLeastSpike_any (a : Option Addr) (m cap : Nat) (w : World) (hc : Code w w.heap.size a m) (hm : m ≤ 4096) :
    Calls Try.prog 46 #[.slice a m cap] w (DrawRes w) := by
  have S := Lib.hid (l01From_any a m cap w hc hm)
  clear hc
  go_enter Try.func46, Try.ntmps46
  go_wp2_with fail
  refine S.out.mono ?_
  rintro e w1 ⟨rfl, hb1, hs1⟩
  have hl1 := hs1.lt
  have N := Lib.hid (l01Next_any w.heap.size w.heap.size 100 w1 hs1 (by omega) (by omega))
  have B1 := Lib.hid hb1
  clear hs1 hb1 S
  go_wp2_with fail
  refine N.out.mono ?_
  rintro e w2 ⟨x, rfl, hx0, hx1, hb2, hs2, hk2⟩
  have M := Lib.hid (l01Near_any w.heap.size w.heap.size 1000000 w2 hs2 (by omega) (by omega))
  have B2 := Lib.hid (B1.out.trans hb2)
  clear hs2 hb2 hk2 N B1
  go_wp2_with fail
  refine M.out.mono ?_
  rintro e w3 ⟨y, rfl, hy0, hy1, hb3, hs3⟩
  have hl3 := hs3.lt
  have B3 := Lib.hid (B2.out.trans hb3)
  have HS := Lib.hid hs3
  clear hs3 hb3 M B2
  go_wp2_with fail
  refine (l01Pick_any w.heap.size w.heap.size w3.heap.size 2 [x, y] _ (HS.out.alloc _) (heap_alloc_new w3 _) (by omega) (by simp) (by simp)).mono ?_
  rintro e w4 ⟨z, rfl, hz, hb4, hs4, hk4⟩
  have B4 := Lib.hid ((B3.out.alloc (by omega) _).trans hb4)
  have HZ : Hid (-9223372036854775808 ≤ z ∧ z ≤ 9223372036854775807) := Lib.hid (by
    simp only [List.mem_cons, List.not_mem_nil, or_false] at hz
    omega)
  clear hb4 hs4 hk4 hz
  go_wp2
  go_ret
  exact ⟨z, rfl, HZ.out.1, HZ.out.2, B4.out⟩

set_option maxRecDepth 100000 in
theorem DrawCountPartitions_any (a : Option Addr) (m cap : Nat) (w : World) (hc : Code w w.heap.size a m) (hm : m ≤ 4096) :
    Calls Try.prog 48 #[.slice a m cap] w (DrawRes w) := by
  have S := Lib.hid (l01From_any a m cap w hc hm)
  clear hc
  go_enter Try.func48, Try.ntmps48
  go_wp2_with fail
  refine S.out.mono ?_
  rintro e w1 ⟨rfl, hb1, hs1⟩
  have hl1 := hs1.lt
  have N := Lib.hid (l01Next_any w.heap.size w.heap.size 41 w1 hs1 (by omega) (by omega))
  have B1 := Lib.hid hb1
  clear hs1 hb1 S
  go_wp2_with fail
  refine N.out.mono ?_
  rintro e w2 ⟨x, rfl, hx0, hx1, hb2, hs2, hk2⟩
  have M := Lib.hid (l01Near_any w.heap.size w.heap.size 300 w2 hs2 (by omega) (by omega))
  have B2 := Lib.hid (B1.out.trans hb2)
  clear hs2 hb2 hk2 N B1
  go_wp2_with fail
  refine M.out.mono ?_
  rintro e w3 ⟨y, rfl, hy0, hy1, hb3, hs3⟩
  have hl3 := hs3.lt
  have B3 := Lib.hid (B2.out.trans hb3)
  have HS := Lib.hid hs3
  clear hs3 hb3 M B2
  go_wp2_with fail
  refine (l01Pick_any w.heap.size w.heap.size w3.heap.size 2 [x, y] _ (HS.out.alloc _) (heap_alloc_new w3 _) (by omega) (by simp) (by simp)).mono ?_
  rintro e w4 ⟨z, rfl, hz, hb4, hs4, hk4⟩
  have B4 := Lib.hid ((B3.out.alloc (by omega) _).trans hb4)
  have HZ : Hid (-9223372036854775808 ≤ z ∧ z ≤ 9223372036854775807) := Lib.hid (by
    simp only [List.mem_cons, List.not_mem_nil, or_false] at hz
    omega)
  clear hb4 hs4 hk4 hz
  go_wp2
  go_ret
  exact ⟨z, rfl, HZ.out.1, HZ.out.2, B4.out⟩

set_option maxRecDepth 100000 in
theorem big_no (a : Option Addr) (m cap : Nat) (w : World) (hm : m ≤ 4096) :
    Calls Try.prog 16 #[.slice a m cap] w fun e w' => e = .returned (.bool false) ∧ w' = w := by
  go_enter Try.func16, Try.ntmps16
  go_wp2
  go_ret
  exact ⟨by show Ending.returned (.bool (decide (4096 < (m : Int)))) = _; rw [decide_eq_false (by omega)], rfl⟩

set_option maxRecDepth 100000 in
theorem big_yes (a : Option Addr) (m cap : Nat) (w : World) (hm : 4096 < m) (hM : m ≤ maxLen) :
    Calls Try.prog 16 #[.slice a m cap] w fun e w' => e = .returned (.bool true) ∧ w' = w := by
  unfold maxLen at hM
  go_enter Try.func16, Try.ntmps16
  go_wp2
  go_ret
  exact ⟨by show Ending.returned (.bool (decide (4096 < (m : Int)))) = _; rw [decide_eq_true (by omega)], rfl⟩
end Go.Proofs.Ytfhfnjcfkpcmnaa
