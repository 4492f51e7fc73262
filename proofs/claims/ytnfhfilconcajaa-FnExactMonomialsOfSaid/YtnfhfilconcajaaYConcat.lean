/-
  slices.Grow of nil, slices.Concat of two rows of ints.
-/
import Derived.Test.YtnfhfilconcajaaSFront
import Derived.Deep.RegionLaw
import Derived.Lib.AppendZeros
namespace Go.Proofs.Ytnfhfilconcajaa
open Go.RowKit
set_option linter.unusedVariables false
set_option maxRecDepth 100000

theorem one_ints (y : List Int) : ∀ u ∈ y.map (Value.int .i64), u.oneCell' = true := fun u hu => by
  obtain ⟨z, _, rfl⟩ := List.mem_map.1 hu
  rfl

theorem grow_nil (n : Nat) (w : World) (hn : n ≤ 1000) :
    Calls Try.prog 114 #[.slice none 0 0, .int .i64 n] w fun e w' => ∃ u, e = .returned u ∧ w'.ownsRow w.heap.size 2 1 u 0 [] ∧ Below w.heap.size w w' := by
  obtain ⟨i0, hi, hz0, hz1, hz2⟩ := info_parts Try.info2
  by_cases h0 : n = 0
  · subst h0
    go_enter Try.func114, Try.ntmps114
    go_wp2_with fail
    go_ret
    exact ⟨_, rfl, World.ownsRow_nil _ _ _ _, Below.refl _ _⟩
  · have h1 : ¬ (n : Int) < 0 := by omega
    have h2 : (0 : Int) < (n : Int) := by omega
    have hw : IntKind.i64.wrap (n : Int) = (n : Int) := by rw [IntKind.wrap_i64]; omega
    obtain ⟨cp, hcp⟩ : ∃ cp, grownCap w n 0 2 = cp := ⟨_, rfl⟩
    have HR := Lib.run_append_nil_zeros (P := Try.prog) w 53 3 53 2 i0 (.int .i64 0) .i64 .i64 Try.underlying53 Try.underlying3 hi hz0 n (by omega) (by omega) (by omega) (by rw [hz2]; omega)
    have hge := grownCap_ge w n 0 2
    have hle := grownCap_le_maxLen w n 0 2 (by unfold maxLen; omega)
    rw [hcp] at HR hge hle
    obtain ⟨C, hC⟩ : ∃ C, Builtin.zeroCells (Value.int .i64 0).cells n ++ Builtin.zeroCells (Value.int .i64 0).cells (cp - n) = C := ⟨_, rfl⟩
    have hs : C.size = cp * 1 := by rw [← hC, Array.size_append, size_zeroCells, size_zeroCells]; show n * 1 + (cp - n) * 1 = cp * 1; omega
    rw [hC] at HR
    have HR := Lib.hid HR
    have OW := Lib.hid (World.ownsRow_made (base := w.heap.size) (e := 2) (size := 1) w.drew C cp (Nat.le_refl _) hle hs)
    have BW : Hid (Below w.heap.size w (w.drew.alloc (.cells C 2))) := Lib.hid ((Below.refl _ w).drew.alloc (Nat.le_refl _) _)
    clear hC hs hcp hi hz0 hz1 hz2
    have hcp0 : 0 ≤ cp := Nat.zero_le _
    go_enter Try.func114, Try.ntmps114
    go_wp2_with (at_builtin; refine Lib.wpList_append_run _ rfl _ _ _ _ rfl _ _ rfl rfl _ _ HR.out ?_)
    go_ret
    exact ⟨_, rfl, OW.out, BW.out⟩

/-- The two rows. -/
theorem concat_two (g : Nat) (x y : List Int) (vx vy : Value) (w : World) (hx : RdN w vx x) (hy : RdN w vy y) (c0 : w.cell? ⟨g, 0, none⟩ = some vx) (c1 : w.cell? ⟨g, 1, none⟩ = some vy) (lx : x.length ≤ 100) (ly : y.length ≤ 100) :
    Calls Try.prog 102 #[.slice (some ⟨g, 0, none⟩) 2 2] w fun e w' => ∃ u, e = .returned u ∧ w'.ownsRow w.heap.size 2 1 u (x ++ y).length ((x ++ y).map (Value.int .i64)) ∧ Below w.heap.size w w' := by
  have RX := Lib.hid hx
  have RY := Lib.hid hy
  have C0 := Lib.hid c0
  have C1 := Lib.hid c1
  obtain ⟨ax, cx, rfl, _, _⟩ := id hx
  obtain ⟨ay, cy, rfl, _, _⟩ := id hy
  have GR := Lib.hid (grow_nil (x.length + y.length) w (by omega))
  have hw1 : IntKind.i64.wrap (x.length : Int) = (x.length : Int) := by rw [IntKind.wrap_i64]; omega
  have hw2 : IntKind.i64.wrap ((x.length : Int) + (y.length : Int)) = (x.length : Int) + (y.length : Int) := by rw [IntKind.wrap_i64]; omega
  have hn1 : ¬ (x.length : Int) < 0 := by omega
  have hn2 : ¬ (x.length : Int) + (y.length : Int) < 0 := by omega
  clear hx hy
  go_enter Try.func102, Try.ntmps102
  go_wp2_with fail
  refine wp_loop_rounds 3 ?_
  rw [rounds_succ]
  go_wp2_with fail
  rw [rounds_succ]
  go_wp2_with fail
  rw [rounds_succ]
  go_wp2_with fail
  have hcast : (x.length : Int) + (y.length : Int) = ((x.length + y.length : Nat) : Int) := by omega
  rw [hcast]
  refine GR.out.mono ?_
  rintro e w1 ⟨u, rfl, ou, b1⟩
  have OU := Lib.hid ou
  have B1 := Lib.hid b1
  have d0 := (b1.cell (p := ⟨g, 0, none⟩) (World.block_lt_of_cell? w _ C0.out)).trans C0.out
  have SX := Lib.hid (RX.out.src b1)
  clear ou b1 hcast GR c0 c1 hn1 hn2 hw1 hw2
  go_wp2_with fail
  refine wp_loop_rounds 3 ?_
  rw [rounds_succ]
  go_wp2_with (at_builtin; refine wpList_ints w1 rfl _ _ rfl w.heap.size 0 u [] rfl OU.out ax x.length cx (x.map (Value.int .i64)) rfl SX.out (by simp) (one_ints x) (by omega) B1.out.size ?_; intro v2 w2 ho2 hg2; have O2 : Hid (w2.ownsRow w.heap.size 2 1 v2 x.length (x.map (Value.int .i64))) := Lib.hid (by simpa using ho2); have B2 := Lib.hid (B1.out.grown hg2 B1.out.size (fun q hq => (OU.out.lt q hq).1)); clear ho2 hg2)
  have d1 := (B2.out.cell (p := ⟨g, 1, none⟩) (World.block_lt_of_cell? w _ C1.out)).trans C1.out
  have SY := Lib.hid (RY.out.src B2.out)
  clear d0
  rw [rounds_succ]
  go_wp2_with (at_builtin; refine wpList_ints w2 rfl _ _ rfl w.heap.size x.length v2 (x.map (Value.int .i64)) rfl O2.out ay y.length cy (y.map (Value.int .i64)) rfl SY.out (by simp) (one_ints y) (by omega) B2.out.size ?_; intro v3 w3 ho3 hg3; have O3 : Hid (w3.ownsRow w.heap.size 2 1 v3 (x ++ y).length ((x ++ y).map (Value.int .i64))) := Lib.hid (by simpa using ho3); have B3 := Lib.hid (B2.out.grown hg3 B2.out.size (fun q hq => (O2.out.lt q hq).1)); clear ho3 hg3)
  rw [rounds_succ]
  go_wp2_with fail
  go_ret
  exact ⟨v3, rfl, O3.out, B3.out⟩
end Go.Proofs.Ytnfhfilconcajaa
