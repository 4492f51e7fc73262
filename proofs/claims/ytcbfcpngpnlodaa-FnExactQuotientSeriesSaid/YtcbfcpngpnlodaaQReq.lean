/-
  The method required of impl.profile.
-/
import Derived.Test.YtcbfcpngpnlodaaQAt
namespace Go.Proofs.Ytcbfcpngpnlodaa
open Go.RowKit
set_option linter.unusedVariables false
set_option maxRecDepth 100000

/-- What the place behind has to be at least. -/
def req16 (f : Nat → Int) (i j : Nat) : Int := min (at16 f j) (at16 f i - ((j : Int) + 1))

set_option maxHeartbeats 2000000 in
theorem req_any (f : Nat → Int) (i j : Nat) (hi : i ≤ 1000) (hj : j ≤ 1000) (hf : ∀ k, 0 ≤ at16 f k ∧ at16 f k ≤ 10) (w : World) :
    Calls Try.prog 87 #[.agg (arK f), .int .i64 ((i : Int) + 1), .int .i64 ((j : Int) + 1)] w (SaysV (.int .i64 (req16 f i j)) w) := by
  obtain ⟨w1, hw1⟩ : ∃ w1, w1 = w.alloc (.cells (arK f) 56) := ⟨_, rfl⟩
  have A1 : Hid (ArAt w1 w.heap.size f) := Lib.hid (by rw [hw1]; exact ArAt.new w f)
  have B1 : Hid (Below w.heap.size w w1) := Lib.hid (by rw [hw1]; exact (Below.refl _ w).alloc (Nat.le_refl _) _)
  have CA := Lib.hid (fun wx => at_any f i hi wx)
  have CB := Lib.hid (fun wx => at_any f j hj wx)
  have R1 := Lib.hid (fun wx (hb : Below w1.heap.size w1 wx) => (A1.out.up hb).range)
  have z1 : (Try.prog.info? 56).map (·.size) = some (arK f).toList.length := by rw [Array.length_toList]; exact sizeAr f
  have tq := Try.underlying56
  have h1 := hf i
  have h2 := hf j
  unfold req16
  generalize at16 f i = x at *
  generalize at16 f j = y at *
  generalize arK f = KF at *
  have y0 : Below w1.heap.size w1 w1.drew := (Below.refl _ _).drew
  clear A1 hf
  obtain ⟨z, hz⟩ : ∃ z, x - ((j : Int) + 1) = z := ⟨_, rfl⟩
  have e1 : wrap64 (x - ((j : Int) + 1)) = z := by rw [← hz]; unfold wrap64; omega
  have e2 : IntKind.i64.wrap (x - ((j : Int) + 1)) = z := by rw [← hz, IntKind.wrap_i64]; omega
  rw [hz]
  have em : min y z = if z < y then z else y := by split <;> omega
  rw [em]
  clear em h1 h2 hi hj hz
  go_enter Try.func87, Try.ntmps87
  go_upto_region 1 with fail
  rw [← hw1]
  clear hw1
  by_cases hzy : z < y
  · rw [if_pos hzy]
    refine wp_region_noPanic ?_
    refine wp_region_held_drew (S := fun wx => wx.rangeAt w.heap.size 0 KF.toList ∧ Below w1.heap.size w1 wx) (by kernel_rfl) ⟨R1.out _ y0, y0⟩ (fun hHeld => ?_)
    refine wpAnyH_take (i := 0) (v := _) rfl (by kernel_rfl) (by kernel_rfl) (by kernel_rfl) (fun _ _ _ h => h) (yieldsIf_load_mid (by rfl) _ _ rfl _ _ rfl KF.toList _ (fun wx hw => hw.1) tq rfl z1) hHeld ?_
    simp only [List.getElem_toArray, List.getElem_cons_zero, Act.put, List.setIfInBounds_toArray, List.set_cons_zero, List.set_cons_succ]
    refine wpAnyH_take (i := 3) (v := _) rfl (by kernel_rfl) (by kernel_rfl) (by kernel_rfl) (fun _ _ _ h => h) (yieldsIf_load_mid (by rfl) _ _ rfl _ _ rfl KF.toList _ (fun wx hw => hw.1) tq rfl z1) hHeld ?_
    simp only [List.getElem_toArray, List.getElem_cons_zero, List.getElem_cons_succ, Act.put, List.setIfInBounds_toArray, List.set_cons_zero, List.set_cons_succ]
    refine wpAnyH_take (i := 1) (v := ?_) rfl (by kernel_rfl) (by kernel_rfl) (by kernel_rfl) (fun _ _ _ h => h) (Or.inl ⟨by rfl, ?_⟩) hHeld ?_
    rotate_left
    · intro wx hw
      go_simp
      try with_reducible rfl
    simp only [List.getElem_toArray, List.getElem_cons_zero, List.getElem_cons_succ, Act.put, List.setIfInBounds_toArray, List.set_cons_zero, List.set_cons_succ]
    refine wpAnyH_take (i := 4) (v := ?_) rfl (by kernel_rfl) (by kernel_rfl) (by kernel_rfl) (fun _ _ _ h => h) (Or.inl ⟨by rfl, ?_⟩) hHeld ?_
    rotate_left
    · intro wx hw
      go_simp
      try with_reducible rfl
    simp only [List.getElem_toArray, List.getElem_cons_zero, List.getElem_cons_succ, Act.put, List.setIfInBounds_toArray, List.set_cons_zero, List.set_cons_succ]
    refine wpAnyH_take (i := 6) (v := ?_) rfl (by kernel_rfl) (by kernel_rfl) (by kernel_rfl) (fun _ _ _ h => h) (Or.inl ⟨by rfl, ?_⟩) hHeld ?_
    rotate_left
    · intro wx hw
      go_simp
      try with_reducible rfl
    simp only [List.getElem_toArray, List.getElem_cons_zero, List.getElem_cons_succ, Act.put, List.setIfInBounds_toArray, List.set_cons_zero, List.set_cons_succ]
    refine wpAnyH_ready (rs := [2]) (by kernel_rfl) (by simp) ?_
    refine AllReadyH.cons rfl (fun K hK => ?_) AllReadyH.nil
    go_simp
    go_at_call 86
    refine (CB.out _).mono ?_
    rintro e wa ⟨rfl, ba⟩
    have y1 : Below w1.heap.size w1 wa := below_one y0 ba
    refine hK.out _ _ ⟨R1.out _ y1, y1⟩ (fun hHeld => ?_)
    clear hK K
    refine wpAnyH_ready (rs := [5]) (by kernel_rfl) (by simp) ?_
    refine AllReadyH.cons rfl (fun K hK => ?_) AllReadyH.nil
    go_simp
    go_at_call 86
    refine (CA.out _).mono ?_
    rintro e wb ⟨rfl, bb⟩
    have y2 : Below w1.heap.size w1 wb := below_one y1 bb
    refine hK.out _ _ ⟨R1.out _ y2, y2⟩ (fun hHeld => ?_)
    clear hK K
    refine wpAnyH_take (i := 7) (v := ?_) rfl (by kernel_rfl) (by kernel_rfl) (by kernel_rfl) (fun _ _ _ h => h) (Or.inl ⟨by rfl, ?_⟩) hHeld ?_
    rotate_left
    · intro wx hw
      go_simp
      try with_reducible rfl
    simp only [List.getElem_toArray, List.getElem_cons_zero, List.getElem_cons_succ, Act.put, List.setIfInBounds_toArray, List.set_cons_zero, List.set_cons_succ]
    refine wpAnyH_take (i := 8) (v := ?_) rfl (by kernel_rfl) (by kernel_rfl) (by kernel_rfl) (fun _ _ _ h => h) (Or.inl ⟨by rfl, ?_⟩) hHeld ?_
    rotate_left
    · intro wx hw
      go_simp
      try with_reducible rfl
    simp only [List.getElem_toArray, List.getElem_cons_zero, List.getElem_cons_succ, Act.put, List.setIfInBounds_toArray, List.set_cons_zero, List.set_cons_succ]
    refine wpAnyH_take (i := 9) (v := ?_) rfl (by kernel_rfl) (by kernel_rfl) (by kernel_rfl) (fun _ _ _ h => h) (Or.inl ⟨by rfl, ?_⟩) hHeld ?_
    rotate_left
    · intro wx hw
      go_simp
      try with_reducible rfl
    simp only [List.getElem_toArray, List.getElem_cons_zero, List.getElem_cons_succ, Act.put, List.setIfInBounds_toArray, List.set_cons_zero, List.set_cons_succ]
    refine wpAnyH_done (by kernel_rfl) (NoPanic.normal ?_) _
    have F := Lib.hid (B1.out.trans (y2.mono B1.out.size))
    go_wp2
    go_ret
    exact ⟨rfl, F.out⟩
  · rw [if_neg hzy]
    refine wp_region_noPanic ?_
    refine wp_region_held_drew (S := fun wx => wx.rangeAt w.heap.size 0 KF.toList ∧ Below w1.heap.size w1 wx) (by kernel_rfl) ⟨R1.out _ y0, y0⟩ (fun hHeld => ?_)
    refine wpAnyH_take (i := 0) (v := _) rfl (by kernel_rfl) (by kernel_rfl) (by kernel_rfl) (fun _ _ _ h => h) (yieldsIf_load_mid (by rfl) _ _ rfl _ _ rfl KF.toList _ (fun wx hw => hw.1) tq rfl z1) hHeld ?_
    simp only [List.getElem_toArray, List.getElem_cons_zero, Act.put, List.setIfInBounds_toArray, List.set_cons_zero, List.set_cons_succ]
    refine wpAnyH_take (i := 3) (v := _) rfl (by kernel_rfl) (by kernel_rfl) (by kernel_rfl) (fun _ _ _ h => h) (yieldsIf_load_mid (by rfl) _ _ rfl _ _ rfl KF.toList _ (fun wx hw => hw.1) tq rfl z1) hHeld ?_
    simp only [List.getElem_toArray, List.getElem_cons_zero, List.getElem_cons_succ, Act.put, List.setIfInBounds_toArray, List.set_cons_zero, List.set_cons_succ]
    refine wpAnyH_take (i := 1) (v := ?_) rfl (by kernel_rfl) (by kernel_rfl) (by kernel_rfl) (fun _ _ _ h => h) (Or.inl ⟨by rfl, ?_⟩) hHeld ?_
    rotate_left
    · intro wx hw
      go_simp
      try with_reducible rfl
    simp only [List.getElem_toArray, List.getElem_cons_zero, List.getElem_cons_succ, Act.put, List.setIfInBounds_toArray, List.set_cons_zero, List.set_cons_succ]
    refine wpAnyH_take (i := 4) (v := ?_) rfl (by kernel_rfl) (by kernel_rfl) (by kernel_rfl) (fun _ _ _ h => h) (Or.inl ⟨by rfl, ?_⟩) hHeld ?_
    rotate_left
    · intro wx hw
      go_simp
      try with_reducible rfl
    simp only [List.getElem_toArray, List.getElem_cons_zero, List.getElem_cons_succ, Act.put, List.setIfInBounds_toArray, List.set_cons_zero, List.set_cons_succ]
    refine wpAnyH_take (i := 6) (v := ?_) rfl (by kernel_rfl) (by kernel_rfl) (by kernel_rfl) (fun _ _ _ h => h) (Or.inl ⟨by rfl, ?_⟩) hHeld ?_
    rotate_left
    · intro wx hw
      go_simp
      try with_reducible rfl
    simp only [List.getElem_toArray, List.getElem_cons_zero, List.getElem_cons_succ, Act.put, List.setIfInBounds_toArray, List.set_cons_zero, List.set_cons_succ]
    refine wpAnyH_ready (rs := [2]) (by kernel_rfl) (by simp) ?_
    refine AllReadyH.cons rfl (fun K hK => ?_) AllReadyH.nil
    go_simp
    go_at_call 86
    refine (CB.out _).mono ?_
    rintro e wa ⟨rfl, ba⟩
    have y1 : Below w1.heap.size w1 wa := below_one y0 ba
    refine hK.out _ _ ⟨R1.out _ y1, y1⟩ (fun hHeld => ?_)
    clear hK K
    refine wpAnyH_ready (rs := [5]) (by kernel_rfl) (by simp) ?_
    refine AllReadyH.cons rfl (fun K hK => ?_) AllReadyH.nil
    go_simp
    go_at_call 86
    refine (CA.out _).mono ?_
    rintro e wb ⟨rfl, bb⟩
    have y2 : Below w1.heap.size w1 wb := below_one y1 bb
    refine hK.out _ _ ⟨R1.out _ y2, y2⟩ (fun hHeld => ?_)
    clear hK K
    refine wpAnyH_take (i := 7) (v := ?_) rfl (by kernel_rfl) (by kernel_rfl) (by kernel_rfl) (fun _ _ _ h => h) (Or.inl ⟨by rfl, ?_⟩) hHeld ?_
    rotate_left
    · intro wx hw
      go_simp
      try with_reducible rfl
    simp only [List.getElem_toArray, List.getElem_cons_zero, List.getElem_cons_succ, Act.put, List.setIfInBounds_toArray, List.set_cons_zero, List.set_cons_succ]
    refine wpAnyH_take (i := 8) (v := ?_) rfl (by kernel_rfl) (by kernel_rfl) (by kernel_rfl) (fun _ _ _ h => h) (Or.inl ⟨by rfl, ?_⟩) hHeld ?_
    rotate_left
    · intro wx hw
      go_simp
      try with_reducible rfl
    simp only [List.getElem_toArray, List.getElem_cons_zero, List.getElem_cons_succ, Act.put, List.setIfInBounds_toArray, List.set_cons_zero, List.set_cons_succ]
    refine wpAnyH_take (i := 9) (v := ?_) rfl (by kernel_rfl) (by kernel_rfl) (by kernel_rfl) (fun _ _ _ h => h) (Or.inl ⟨by rfl, ?_⟩) hHeld ?_
    rotate_left
    · intro wx hw
      go_simp
      try with_reducible rfl
    simp only [List.getElem_toArray, List.getElem_cons_zero, List.getElem_cons_succ, Act.put, List.setIfInBounds_toArray, List.set_cons_zero, List.set_cons_succ]
    refine wpAnyH_done (by kernel_rfl) (NoPanic.normal ?_) _
    have F := Lib.hid (B1.out.trans (y2.mono B1.out.size))
    go_wp2
    go_ret
    exact ⟨rfl, F.out⟩
end Go.Proofs.Ytcbfcpngpnlodaa
