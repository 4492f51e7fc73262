/-
  Joined: HImH.
-/
import Derived.Test.YtggebkcmokpcmaaZFnExactIsHit04
section
namespace Go.Proofs.Ytggebkcmokpcmaa
open Go.RowKit Go.Maps
set_option linter.unusedVariables false
set_option maxRecDepth 100000

theorem zeros_list (n : Nat) : (Builtin.zeroCells (Value.slice none 0 0).cells n).toList = List.replicate n (Value.slice none 0 0) := by
  unfold Builtin.zeroCells
  show ((Array.range (n * 1)).map fun i => (#[Value.slice none 0 0] : Array Value)[i % 1]!).toList = _
  rw [Nat.mul_one, Array.toList_map, Array.toList_range]
  refine List.eq_replicate_iff.2 ⟨by simp, fun y hy => ?_⟩
  obtain ⟨k, _, rfl⟩ := List.mem_map.1 hy
  rw [Nat.mod_one]
  rfl

set_option maxHeartbeats 4000000 in
theorem insert_grow (g cap : Nat) (v : Value) (n i B g2 : Nat) (xs : List Value) (w : World) (h : w.ownsRow B 53 1 (.slice (some ⟨g, 0, none⟩) n cap) n xs) (hi : i < n) (hroom : cap < n + 1) (hn : n ≤ 100000) (hB : B ≤ w.heap.size)
    (hg2 : w.heap[g2]? = some (.cells #[v] 53 (0, 0))) (h1 : v.oneCell' = true) (hx1 : ∀ u ∈ xs, u.oneCell' = true) :
    Calls Try.prog 98 #[.slice (some ⟨g, 0, none⟩) n cap, .int .i64 (i : Int), .slice (some ⟨g2, 0, none⟩) 1 1] w (InsPost B n i (.slice (some ⟨g, 0, none⟩) n cap) v xs w) := by
  obtain ⟨i0, hi0, hz0, hzs, hzb⟩ := info_parts infoP1
  have hl : xs.length = n := by have := h.1; omega
  have hnc : n ≤ cap := by
    rcases h.2 with ⟨e, _⟩ | ⟨g', cap', cur, e, _, _, h2, _, _⟩
    · cases e
    · cases e; exact h2
  obtain rfl : cap = n := by omega
  have hgl : g < w.heap.size := (h.lt g rfl).2
  have hg2l : g2 < w.heap.size := (Array.getElem?_eq_some_iff.1 hg2).1
  have hdl : (xs.drop i).length = cap - i := by rw [List.length_drop, hl]
  have hc2 : w.cell? ⟨g2, 0, none⟩ = some v := cell_of_row w g2 0 _ _ (0, 0) hg2
  have cx : ∀ j y, xs[j]? = some y → w.cell? ⟨g, j, none⟩ = some y := fun j y hy => by
    have hj : j < xs.length := (List.getElem?_eq_some_iff.1 hy).1
    rw [h.cellAt j (by omega), hy]
  have hold : (Builtin.firstCells i0.size i (.slice (some ⟨g, 0, none⟩) i cap)).run Try.prog w.drew = .ok (xs.take i).toArray w.drew := by
    rw [hzs]
    exact run_firstCells_some w.drew 1 i ⟨g, 0, none⟩ i cap (xs.take i) (by rw [List.length_take]; omega) (fun j y hj => by
      rw [Addr.add_lit, Nat.zero_add]
      rw [List.getElem?_take] at hj
      split at hj
      · exact cx j y hj
      · cases hj)
  obtain ⟨G, hG⟩ : ∃ G, G = grownCap w (cap + 1) cap 53 := ⟨_, rfl⟩
  obtain ⟨ROW, hROW⟩ : ∃ ROW : Array Value, ROW = (xs.take i).toArray ++ Builtin.zeroCells (Value.slice none 0 0).cells (cap + 1 - i) ++ Builtin.zeroCells (Value.slice none 0 0).cells (G - (cap + 1)) := ⟨_, rfl⟩
  obtain ⟨W1, hW1⟩ : ∃ W1, W1 = w.drew.alloc (.cells ROW 53) := ⟨_, rfl⟩
  have hrz : ∀ ty, (Builtin.append_ #[57, 3] ty #[.slice (some ⟨g, 0, none⟩) i cap, .int .i64 ((cap : Int) + 1 - (i : Int))]).run Try.prog w = .ok (.slice (some ⟨w.heap.size, 0, none⟩) (cap + 1) G) W1 := fun ty => by
    have hh := Lib.run_append_grow_zeros w 57 3 ty 53 i0 _ .i64 .i64 Try.underlying57 Try.underlying3 hi0 hz0 (some ⟨g, 0, none⟩) i cap (xs.take i) hold (cap + 1 - i) (by omega) (by omega) (by omega) (by omega) (by rw [hzb]; omega) (by rw [hzb, show i + (cap + 1 - i) = cap + 1 by omega]; exact growslice_fits (by omega) (by omega))
    rw [show i + (cap + 1 - i) = cap + 1 by omega, ← hG, ← hROW, ← hW1] at hh
    rw [show (cap : Int) + 1 - (i : Int) = ((cap + 1 - i : Nat) : Int) by omega]
    exact hh
  have hGn : cap + 1 ≤ G := by rw [hG]; exact grownCap_ge w _ _ _
  have hGm : G ≤ maxLen := by rw [hG]; exact grownCap_le_maxLen w (cap + 1) cap 53 (by unfold maxLen; omega)
  have hzc : ∀ k, (Builtin.zeroCells (Value.slice none 0 0).cells k).size = k := fun k => by rw [size_zeroCells]; exact Nat.mul_one k
  have hRs : ROW.size = G := by
    rw [hROW, Array.size_append, Array.size_append, hzc, hzc]
    simp
    omega
  have hRt : ROW.toList.take (cap + 1) = xs.take i ++ List.replicate (xs.length + 1 - i) (Value.slice none 0 0) := by
    rw [hROW, Array.toList_append, Array.toList_append]
    rw [List.take_append_of_le_length (by rw [List.length_append, Array.length_toList, Array.length_toList, hzc]; simp; omega)]
    rw [List.take_of_length_le (by rw [List.length_append, Array.length_toList, Array.length_toList, hzc]; simp; omega), zeros_list, hl]
  have O1 : W1.ownsRow B 53 1 (.slice (some ⟨w.heap.size, 0, none⟩) (cap + 1) G) (cap + 1) (xs.take i ++ List.replicate (xs.length + 1 - i) (Value.slice none 0 0)) := by
    refine ⟨by rw [List.length_append, List.length_take, List.length_replicate]; omega, .inr ⟨w.heap.size, G, ROW, rfl, hB, by rw [hW1]; exact heap_alloc_new w.drew _, hGn, hGm, by omega, by rw [Nat.mul_one]; exact hRt⟩⟩
  have hN : ∀ j, j < cap + 1 → (W1.cell? ⟨w.heap.size, j, none⟩).isSome = true := fun j hj => by
    rw [O1.cellAt j (by omega), List.getElem?_eq_getElem (by rw [List.length_append, List.length_take, List.length_replicate]; omega)]
    rfl
  have hNf : ∀ j, W1.frozen? ⟨w.heap.size, j, none⟩ = false := fun j => World.ownsRow.frozenAt O1 j
  have b1 : w.grownBy W1 (some g) := by rw [hW1]; exact ⟨rfl, rfl, rfl, by simp, fun k hk _ => heap_alloc_old w.drew _ hk⟩
  have hO : ∀ q j y, q < w.heap.size → w.cell? ⟨q, j, none⟩ = some y → W1.cell? ⟨q, j, none⟩ = some y := fun q j y hq hy => by
    rw [hW1]
    exact (((Below.refl w.heap.size w.drew).alloc (Nat.le_refl _) _).cell (p := ⟨q, j, none⟩) hq).trans hy
  obtain ⟨W2, hW2⟩ : ∃ W2, W2 = W1.setCells w.heap.size i [v] := ⟨_, rfl⟩
  have hcpA : ∀ ty dc, (Builtin.copy_ #[57, 56] ty #[.slice (some ⟨w.heap.size, i, none⟩) (cap + 1 - i) dc, .slice (some ⟨g2, 0, none⟩) 1 1]).run Try.prog W1 = .ok (goInt [v].length) W2 := fun ty dc => by
    rw [hW2]
    exact run_copy_cells W1 _ _ ty 53 w.heap.size i (cap + 1 - i) dc ⟨g2, 0, none⟩ 1 1 [v] Try.underlying57 sizeP1 (by simp only [List.length_singleton, Nat.min_def]; split <;> omega)
      (fun j y hj => by
        match j, hj with
        | 0, hj =>
          simp at hj
          subst hj
          rw [Addr.add_lit]
          exact hO g2 0 _ hg2l hc2)
      (fun j hj => hN _ (by simp at hj; omega)) (fun j hj => hNf _) (fun y hy => by rw [List.mem_singleton.1 hy]; exact h1)
  obtain ⟨W3, hW3⟩ : ∃ W3, W3 = W2.drew.setCells w.heap.size (i + 1) (xs.drop i) := ⟨_, rfl⟩
  have hgN : g ≠ w.heap.size := by omega
  have hcpB : ∀ ty dc sc, (Builtin.copy_ #[57, 57] ty #[.slice (some ⟨w.heap.size, i + 1, none⟩) (cap - i) dc, .slice (some ⟨g, i, none⟩) (cap - i) sc]).run Try.prog W2.drew = .ok (goInt (xs.drop i).length) W3 := fun ty dc sc => by
    rw [hW3]
    exact run_copy_cells W2.drew _ _ ty 53 w.heap.size (i + 1) (cap - i) dc ⟨g, i, none⟩ (cap - i) sc (xs.drop i) Try.underlying57 sizeP1 (by rw [hdl]; simp only [Nat.min_def]; split <;> omega)
      (fun j y hj => by
        rw [Addr.add_lit]
        show W2.cell? ⟨g, i + j, none⟩ = some y
        rw [hW2, World.cell?_setCells_out _ _ _ _ _ (fun h _ => absurd h hgN)]
        rw [List.getElem?_drop] at hj
        exact hO g _ y hgl (cx _ y hj))
      (fun j hj => by
        show (W2.cell? ⟨w.heap.size, i + 1 + j, none⟩).isSome = true
        rw [hW2]
        exact isSome_put w.heap.size [v] i W1 (fun t ht => hN (i + t) (by simp at ht; omega)) (i + 1 + j) (hN _ (by rw [hdl] at hj; omega)))
      (fun j hj => by
        show W2.frozen? ⟨w.heap.size, i + 1 + j, none⟩ = false
        rw [hW2, World.frozen?_setCells]; exact hNf _) (fun y hy => hx1 y (List.mem_of_mem_drop hy))
  have P1 := own_setCellsY [v] i W1 _ O1
  rw [← hW2] at P1
  have P2 := own_setCellsY (xs.drop i) (i + 1) W2.drew _ (own_drewY P1.1)
  rw [← hW3, put_new xs _ v i (by omega)] at P2
  have FIN : Hid (InsPost B cap i (.slice (some ⟨g, 0, none⟩) cap cap) v xs w (.returned (.slice (some ⟨w.heap.size, 0, none⟩) (cap + 1) G)) W3) := Lib.hid ⟨_, rfl, P2.1, by
    refine ⟨?_, ?_, ?_, ?_, fun k hk hne => ?_⟩
    · exact (P2.2.os.trans P1.2.os).trans b1.os
    · exact (P2.2.tape.trans P1.2.tape).trans b1.tape
    · exact (P2.2.output.trans P1.2.output).trans b1.output
    · exact Nat.le_trans b1.size (Nat.le_trans P1.2.size P2.2.size)
    · have k1 := Nat.lt_of_lt_of_le hk b1.size
      have k2 : k < W2.drew.heap.size := Nat.lt_of_lt_of_le k1 P1.2.size
      have kn : some k ≠ some w.heap.size := by simp; omega
      exact (P2.2.block k k2 kn).trans ((P1.2.block k k1 kn).trans (b1.block k hk hne))⟩
  have hGi : ¬ (G = i) := by omega
  have hGi2 : ¬ (G = i + 1) := by omega
  have hci : ¬ (cap = i) := by omega
  have hz2 : ¬ ((i : Int) = (cap : Int)) := by omega
  have hz3 : (cap : Int) < (cap : Int) + 1 := by omega
  have hin : (i : Int) ≤ (cap : Int) := by omega
  have hw1 : IntKind.i64.wrap ((i : Int) + 1) = (i : Int) + 1 := by rw [IntKind.wrap_i64]; omega
  have hb1 : (0 : Int) ≤ (i : Int) + 1 := by omega
  have htn : ((i : Int) + 1).toNat = i + 1 := by omega
  have hb3 : (i : Int) ≤ (cap : Int) + 1 := by omega
  have hb5 : (i : Int) + 1 ≤ (cap : Int) + 1 := by omega
  clear P1 P2 hW1 hW2 hW3 hN hNf hO O1 hRt hRs hzc hROW hG hold cx hc2 hg2 h hx1 h1 hdl hroom b1 hGm hnc hgN
  go_enter Try.func98, Try.ntmps98
  go_wp2_with (first
    | (at_builtin; refine Lib.wpList_append_run _ rfl _ _ _ _ rfl _ _ rfl rfl _ _ (hrz _) ?_)
    | (at_builtin; refine list_copyH rfl _ _ 57 56 rfl _ _ _ _ rfl rfl (hcpA _ _) ?_))
  go_region_law (refine step_copyH rfl _ _ 57 57 rfl _ _ _ _ (by simp [Act.eval, Act.put]) (by simp [Act.eval, Act.put]) (hcpB _ _ _) ?_)
  all_goals
    go_wp2_with fail
    go_ret
    exact FIN.out

/-- All roads. -/
theorem insert_any (S v : Value) (n i B g2 : Nat) (xs : List Value) (w : World) (h : w.ownsRow B 53 1 S n xs) (hi : i ≤ n) (hn : n ≤ 100000) (hB : B ≤ w.heap.size)
    (hg2 : w.heap[g2]? = some (.cells #[v] 53 (0, 0))) (hne : S.ownBlock ≠ some g2) (h1 : v.oneCell' = true) (hx1 : ∀ u ∈ xs, u.oneCell' = true) :
    Calls Try.prog 98 #[S, .int .i64 (i : Int), .slice (some ⟨g2, 0, none⟩) 1 1] w (InsPost B n i S v xs w) := by
  by_cases hin : i = n
  · subst hin
    exact insert_end S v i B g2 xs w h hB hn (cell_of_row w g2 0 _ _ (0, 0) hg2) h1
  · rcases h.2 with ⟨_, h0⟩ | ⟨g, cap, cur, rfl, _⟩
    · omega
    · by_cases hr : n + 1 ≤ cap
      · exact insert_room g cap v n i B g2 xs w h (by omega) hr hn hg2 (fun e => hne (by rw [e]; rfl)) h1 hx1
      · exact insert_grow g cap v n i B g2 xs w h (by omega) (by omega) hn hB hg2 h1 hx1
end Go.Proofs.Ytggebkcmokpcmaa
end
