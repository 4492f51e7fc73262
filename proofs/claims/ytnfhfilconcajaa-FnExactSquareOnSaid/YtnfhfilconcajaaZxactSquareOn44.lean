/-
  Joined: YSqB.
-/
import Derived.Test.YtnfhfilconcajaaZxactSquareOn41
import Derived.Test.YtnfhfilconcajaaZxactSquareOn43
section
namespace Go.Proofs.Ytnfhfilconcajaa.Pl
open Go.RowKit
set_option linter.unusedVariables false
set_option maxRecDepth 100000

theorem sqL_zeros (i : Nat) : ∀ n : Nat, sqL (List.replicate n (0 : Int)) i = if i = 0 then [List.replicate n (0 : Int)] else []
  | 0 => by rw [List.replicate_zero, sqL]
  | n + 1 => by
    have ih := sqL_zeros i n
    rw [List.replicate_succ, sqL_cons]
    have e : min (0 : Int).toNat i + 1 = 1 := by simp
    rw [e]
    unfold sqTo
    have hb : bpar (0 : Int).toNat 0 = 1 := rfl
    simp only [List.range_succ, List.range_zero, List.nil_append, List.flatMap_cons, List.flatMap_nil, List.append_nil, Nat.sub_zero]
    rw [if_pos hb, ih]
    split <;> simp
theorem sqL_app (z : Nat) : ∀ (x : List Int) (i : Nat), sqL (x ++ List.replicate z (0 : Int)) i = (sqL x i).map (· ++ List.replicate z (0 : Int))
  | [], i => by
    rw [List.nil_append, sqL_zeros, sqL]
    split <;> simp
  | n :: x, i => by
    rw [List.cons_append, sqL_cons, sqL_cons]
    unfold sqTo
    rw [List.map_flatMap]
    congr 1
    funext j
    split
    · rw [sqL_app z x, List.map_map, List.map_map]
      rfl
    · rfl
theorem sqL_pad (x : List Int) (i : Nat) : sqL (padY x) i = (sqL x i).map padY := by
  unfold padY
  rw [sqL_app]
  exact List.map_congr_left fun t ht => by rw [sqL_row x i t ht]
theorem sqAll_pad (L : List (List Int)) (i : Nat) : sqAll (L.map padY) i = (sqAll L i).map padY := by
  unfold sqAll
  rw [List.flatMap_map, List.map_flatMap]
  congr 1
  funext x
  exact sqL_pad x i
theorem sqAll_len_row {k : Nat} {L : List (List Int)} {i : Nat} (h : ∀ t ∈ L, t.length = k) : ∀ t ∈ sqAll L i, t.length = k := fun t ht => by
  obtain ⟨x, hx, ht⟩ := List.mem_flatMap.1 ht
  rw [sqL_row x i t ht, h x hx]
theorem small_of_mono {d : Nat} {x : List Int} (h : Mono4 d (padY x)) (hd : d ≤ 1000) : ∀ z ∈ x, 0 ≤ z ∧ z ≤ 1000 := fun z hz => by
  obtain ⟨a, b, c, f, e, s⟩ := h
  have h2 : z ∈ padY x := by unfold padY; exact List.mem_append_left _ hz
  rw [e] at h2
  simp at h2
  rcases h2 with h | h | h | h <;> omega

set_option maxHeartbeats 1000000 in
theorem SquareOn_both (c0 : Int) (m : Nat) (X : Nat → List Int) (i : Int) :
    ∃ (C : Int) (L : List (List Int)) (cd : Int), L.length ≤ 4000 ∧ (∀ i, (rowsOf L i).length ≤ 20) ∧
      (∀ va VA Ba w, Fam w Ba va m VA X → Calls Try.prog 25 #[.agg #[.int .i64 c0, va], .int .i64 i] w (ResY C L cd w)) ∧
      (∀ va w, RdSS w va m X → Calls Try.prog 26 #[.agg #[.int .i64 c0, va], .int .i64 i] w (ResY C L cd w)) := by
  by_cases h0 : okPl c0 X m
  · obtain ⟨s0, i0⟩ := isP_yes c0 X m h0
    by_cases hr : i < 0 ∨ 40 < i
    · refine ⟨0, [], 2, Nat.zero_le _, rows0, ?_, ?_⟩
      · intro va VA Ba w ha
        obtain ⟨a0, q0, rfl⟩ := ha.rdss.head
        exact specSq_range c0 a0 m q0 i w hr (Lib.hid fun wx hb => s0 _ wx (ha.rdss.below hb))
      · intro va w ha
        obtain ⟨a0, q0, rfl⟩ := ha.head
        by_cases hl : i < 0
        · exact implSq_low c0 a0 m q0 i w hl (Lib.hid fun wx hb => i0 _ wx (ha.below hb))
        · exact implSq_high c0 a0 m q0 i w hl (by omega) (Lib.hid fun wx hb => i0 _ wx (ha.below hb))
    · have hi : 0 ≤ i ∧ i ≤ 40 := by omega
      have hx := dgP_bnd h0
      by_cases hov : 40 < dgP X m + i
      · have hm : 0 < m := by
          apply Nat.pos_of_ne_zero; intro e
          have : dgP X m = 0 := if_pos e
          omega
        refine ⟨0, [], 3, Nat.zero_le _, rows0, ?_, ?_⟩
        · intro va VA Ba w ha
          obtain ⟨b0, o0, v0, q0, rfl, e0, d0⟩ := headP h0 hm ha.rdss
          exact specSq_over (dgP X m) c0 b0 o0 v0 m q0 i w hm hx hi hov e0 (by rw [show dgP X m = sumL (X 0) from if_neg (by omega)]; exact d0) (Lib.hid fun wx hb => s0 _ wx (ha.rdss.below hb))
        · intro va w ha
          obtain ⟨a0, q0, rfl⟩ := ha.head
          exact implSq_over (dgP X m) c0 a0 m q0 i w hx hi hov (Lib.hid fun wx hb => i0 _ wx (ha.below hb)) (Lib.hid (degP_any h0 a0 q0 w ha))
      · have hk4 := h0.1
        obtain ⟨k, hkk⟩ : ∃ k : Nat, c0 = (k : Int) := ⟨c0.toNat, by omega⟩
        obtain ⟨n, rfl⟩ : ∃ n : Nat, i = (n : Int) := ⟨i.toNat, by omega⟩
        have ek : c0.toNat = k := by omega
        have hl0 := h0.len
        rw [ek] at hl0
        have TK : (oddY (sqAll ((rowsL X m).map padY) n)).map (List.take k) = oddY (sqAll (rowsL X m) n) := by
          rw [sqAll_pad]
          exact take_odd _ (sqAll_len_row hl0)
        have LR : ∀ t ∈ oddY (sqAll (rowsL X m) n), t.length = k := fun t ht => sqAll_len_row hl0 t (oddY_mem ht)
        have hmem : ∀ j, j < m → X j ∈ rowsL X m := fun j hj => List.mem_map.2 ⟨j, List.mem_range.2 hj, rfl⟩
        refine ⟨fitC c0 (oddY (sqAll (rowsL X m) n)), fitL (oddY (sqAll (rowsL X m) n)), fitD (oddY (sqAll (rowsL X m) n)), fitL_len _, fitL_rows LR (by omega), ?_, ?_⟩
        · intro va VA Ba w ha
          obtain ⟨a0, q0, rfl⟩ := ha.rdss.head
          refine specSq_ok c0 a0 m q0 n _ w hi ?_ (Lib.hid fun wx hb => s0 _ wx (ha.rdss.below hb)) (Lib.hid fun wx hb => l08Square_any _ m VA Ba X n wx (ha.below hb) (fun j hj => ⟨by have := (h0.rows j hj).1; omega, small_of_mono (h0.mono _ (List.mem_map.2 ⟨_, hmem j hj, rfl⟩)) (by omega)⟩) (by omega) h0.few)
          by_cases hm : m = 0
          · exact .inl hm
          · obtain ⟨b0, o0, v0, q0', e0, c0', d0⟩ := headP h0 (by omega) ha.rdss
            cases e0
            exact .inr ⟨by omega, b0, o0, v0, dgP X m, rfl, c0', by rw [show dgP X m = sumL (X 0) from if_neg hm]; exact d0, hx, by omega⟩
        · intro va w ha
          obtain ⟨a0, q0, rfl⟩ := ha.head
          rw [← TK]
          refine implSq_ok (dgP X m) k c0 a0 m q0 n w _ ((rowsL X m).map padY) hkk (by omega) hx hi (by omega) (Lib.hid fun wx hb => i0 _ wx (ha.below hb)) (Lib.hid (degP_any h0 a0 q0 w ha)) (Lib.hid (packedP_any h0 a0 q0 w ha))
            (Lib.hid fun wx va ra => squareY_any va _ (dgP X m).toNat n wx ra h0.mono (by omega) (by rw [List.length_map, rowsL_len]; have := h0.few; omega)) (Lib.hid fun z hz => ?_)
          obtain ⟨x, hx, hz⟩ := List.mem_flatMap.1 (oddY_mem hz)
          rw [sqL_row x n z hz, (h0.mono x hx).len]
  · obtain ⟨s0, i0⟩ := isP_no c0 X m h0
    refine ⟨0, [], 1, Nat.zero_le _, rows0, ?_, ?_⟩
    · intro va VA Ba w ha
      obtain ⟨a0, q0, rfl⟩ := ha.rdss.head
      exact specSq_bad c0 a0 m q0 i w (Lib.hid fun wx hb => s0 _ wx (ha.rdss.below hb))
    · intro va w ha
      obtain ⟨a0, q0, rfl⟩ := ha.head
      exact implSq_bad c0 a0 m q0 i w (Lib.hid fun wx hb => i0 _ wx (ha.below hb))
end Go.Proofs.Ytnfhfilconcajaa.Pl
end
