/-
  Joined: YSqB, YFamP.
-/
import Derived.Test.YtnfhfilconcajaaZtTotalSquare36
import Derived.Test.YtnfhfilconcajaaZtTotalSquare38
import Derived.Test.YtnfhfilconcajaaZtTotalSquare23
import Derived.Test.YtnfhfilconcajaaZtTotalSquare12
import Derived.Deep.RegionHeld3
section
namespace Go.Proofs.Ytnfhfilconcajaa.Pl
open Go.RowKit
set_option linter.unusedVariables false
set_option maxRecDepth 100000

theorem sqL_zeros (i : Nat) : ∀ n : Nat, sqL (List.replicate n (0 : Int)) i = if i = 0 then [List.replicate n (0 : Int)] else []
  | 0 => by rw [List.replicate_zero, sqL]
  | n + 1 => by
    have ih := sqL_zeros i n
    rw [List.replicate_succ, sqL_cons]
    have e : min (0 : Int).toNat i + 1 = 1 := by simp
    rw [e]
    unfold sqTo
    have hb : bpar (0 : Int).toNat 0 = 1 := rfl
    simp only [List.range_succ, List.range_zero, List.nil_append, List.flatMap_cons, List.flatMap_nil, List.append_nil, Nat.sub_zero]
    rw [if_pos hb, ih]
    split <;> simp
theorem sqL_app (z : Nat) : ∀ (x : List Int) (i : Nat), sqL (x ++ List.replicate z (0 : Int)) i = (sqL x i).map (· ++ List.replicate z (0 : Int))
  | [], i => by
    rw [List.nil_append, sqL_zeros, sqL]
    split <;> simp
  | n :: x, i => by
    rw [List.cons_append, sqL_cons, sqL_cons]
    unfold sqTo
    rw [List.map_flatMap]
    congr 1
    funext j
    split
    · rw [sqL_app z x, List.map_map, List.map_map]
      rfl
    · rfl
theorem sqL_pad (x : List Int) (i : Nat) : sqL (padY x) i = (sqL x i).map padY := by
  unfold padY
  rw [sqL_app]
  exact List.map_congr_left fun t ht => by rw [sqL_row x i t ht]
theorem sqAll_pad (L : List (List Int)) (i : Nat) : sqAll (L.map padY) i = (sqAll L i).map padY := by
  unfold sqAll
  rw [List.flatMap_map, List.map_flatMap]
  congr 1
  funext x
  exact sqL_pad x i
theorem sqAll_len_row {k : Nat} {L : List (List Int)} {i : Nat} (h : ∀ t ∈ L, t.length = k) : ∀ t ∈ sqAll L i, t.length = k := fun t ht => by
  obtain ⟨x, hx, ht⟩ := List.mem_flatMap.1 ht
  rw [sqL_row x i t ht, h x hx]
theorem small_of_mono {d : Nat} {x : List Int} (h : Mono4 d (padY x)) (hd : d ≤ 1000) : ∀ z ∈ x, 0 ≤ z ∧ z ≤ 1000 := fun z hz => by
  obtain ⟨a, b, c, f, e, s⟩ := h
  have h2 : z ∈ padY x := by unfold padY; exact List.mem_append_left _ hz
  rw [e] at h2
  simp at h2
  rcases h2 with h | h | h | h <;> omega

set_option maxHeartbeats 1000000 in
theorem SquareOn_both (c0 : Int) (m : Nat) (X : Nat → List Int) (i : Int) :
    ∃ (C : Int) (L : List (List Int)) (cd : Int), L.length ≤ 4000 ∧ (∀ i, (rowsOf L i).length ≤ 20) ∧
      (∀ va VA Ba w, Fam w Ba va m VA X → Calls Try.prog 25 #[.agg #[.int .i64 c0, va], .int .i64 i] w (ResY C L cd w)) ∧
      (∀ va w, RdSS w va m X → Calls Try.prog 26 #[.agg #[.int .i64 c0, va], .int .i64 i] w (ResY C L cd w)) := by
  by_cases h0 : okPl c0 X m
  · obtain ⟨s0, i0⟩ := isP_yes c0 X m h0
    by_cases hr : i < 0 ∨ 40 < i
    · refine ⟨0, [], 2, Nat.zero_le _, rows0, ?_, ?_⟩
      · intro va VA Ba w ha
        obtain ⟨a0, q0, rfl⟩ := ha.rdss.head
        exact specSq_range c0 a0 m q0 i w hr (Lib.hid fun wx hb => s0 _ wx (ha.rdss.below hb))
      · intro va w ha
        obtain ⟨a0, q0, rfl⟩ := ha.head
        by_cases hl : i < 0
        · exact implSq_low c0 a0 m q0 i w hl (Lib.hid fun wx hb => i0 _ wx (ha.below hb))
        · exact implSq_high c0 a0 m q0 i w hl (by omega) (Lib.hid fun wx hb => i0 _ wx (ha.below hb))
    · have hi : 0 ≤ i ∧ i ≤ 40 := by omega
      have hx := dgP_bnd h0
      by_cases hov : 40 < dgP X m + i
      · have hm : 0 < m := by
          apply Nat.pos_of_ne_zero; intro e
          have : dgP X m = 0 := if_pos e
          omega
        refine ⟨0, [], 3, Nat.zero_le _, rows0, ?_, ?_⟩
        · intro va VA Ba w ha
          obtain ⟨b0, o0, v0, q0, rfl, e0, d0⟩ := headP h0 hm ha.rdss
          exact specSq_over (dgP X m) c0 b0 o0 v0 m q0 i w hm hx hi hov e0 (by rw [show dgP X m = sumL (X 0) from if_neg (by omega)]; exact d0) (Lib.hid fun wx hb => s0 _ wx (ha.rdss.below hb))
        · intro va w ha
          obtain ⟨a0, q0, rfl⟩ := ha.head
          exact implSq_over (dgP X m) c0 a0 m q0 i w hx hi hov (Lib.hid fun wx hb => i0 _ wx (ha.below hb)) (Lib.hid (degP_any h0 a0 q0 w ha))
      · have hk4 := h0.1
        obtain ⟨k, hkk⟩ : ∃ k : Nat, c0 = (k : Int) := ⟨c0.toNat, by omega⟩
        obtain ⟨n, rfl⟩ : ∃ n : Nat, i = (n : Int) := ⟨i.toNat, by omega⟩
        have ek : c0.toNat = k := by omega
        have hl0 := h0.len
        rw [ek] at hl0
        have TK : (oddY (sqAll ((rowsL X m).map padY) n)).map (List.take k) = oddY (sqAll (rowsL X m) n) := by
          rw [sqAll_pad]
          exact take_odd _ (sqAll_len_row hl0)
        have LR : ∀ t ∈ oddY (sqAll (rowsL X m) n), t.length = k := fun t ht => sqAll_len_row hl0 t (oddY_mem ht)
        have hmem : ∀ j, j < m → X j ∈ rowsL X m := fun j hj => List.mem_map.2 ⟨j, List.mem_range.2 hj, rfl⟩
        refine ⟨fitC c0 (oddY (sqAll (rowsL X m) n)), fitL (oddY (sqAll (rowsL X m) n)), fitD (oddY (sqAll (rowsL X m) n)), fitL_len _, fitL_rows LR (by omega), ?_, ?_⟩
        · intro va VA Ba w ha
          obtain ⟨a0, q0, rfl⟩ := ha.rdss.head
          refine specSq_ok c0 a0 m q0 n _ w hi ?_ (Lib.hid fun wx hb => s0 _ wx (ha.rdss.below hb)) (Lib.hid fun wx hb => l08Square_any _ m VA Ba X n wx (ha.below hb) (fun j hj => ⟨by have := (h0.rows j hj).1; omega, small_of_mono (h0.mono _ (List.mem_map.2 ⟨_, hmem j hj, rfl⟩)) (by omega)⟩) (by omega) h0.few)
          by_cases hm : m = 0
          · exact .inl hm
          · obtain ⟨b0, o0, v0, q0', e0, c0', d0⟩ := headP h0 (by omega) ha.rdss
            cases e0
            exact .inr ⟨by omega, b0, o0, v0, dgP X m, rfl, c0', by rw [show dgP X m = sumL (X 0) from if_neg hm]; exact d0, hx, by omega⟩
        · intro va w ha
          obtain ⟨a0, q0, rfl⟩ := ha.head
          rw [← TK]
          refine implSq_ok (dgP X m) k c0 a0 m q0 n w _ ((rowsL X m).map padY) hkk (by omega) hx hi (by omega) (Lib.hid fun wx hb => i0 _ wx (ha.below hb)) (Lib.hid (degP_any h0 a0 q0 w ha)) (Lib.hid (packedP_any h0 a0 q0 w ha))
            (Lib.hid fun wx va ra => squareY_any va _ (dgP X m).toNat n wx ra h0.mono (by omega) (by rw [List.length_map, rowsL_len]; have := h0.few; omega)) (Lib.hid fun z hz => ?_)
          obtain ⟨x, hx, hz⟩ := List.mem_flatMap.1 (oddY_mem hz)
          rw [sqL_row x n z hz, (h0.mono x hx).len]
  · obtain ⟨s0, i0⟩ := isP_no c0 X m h0
    refine ⟨0, [], 1, Nat.zero_le _, rows0, ?_, ?_⟩
    · intro va VA Ba w ha
      obtain ⟨a0, q0, rfl⟩ := ha.rdss.head
      exact specSq_bad c0 a0 m q0 i w (Lib.hid fun wx hb => s0 _ wx (ha.rdss.below hb))
    · intro va w ha
      obtain ⟨a0, q0, rfl⟩ := ha.head
      exact implSq_bad c0 a0 m q0 i w (Lib.hid fun wx hb => i0 _ wx (ha.below hb))
end Go.Proofs.Ytnfhfilconcajaa.Pl
end
section
namespace Go.Proofs.Ytnfhfilconcajaa.Pl
open Go.RowKit
set_option linter.unusedVariables false
set_option maxRecDepth 100000

/-- The cells of a slice of polynomials. -/
def pairsP (KS : Nat → Int) (US : Nat → Value) (m : Nat) : List Value := (List.range m).flatMap fun i => [.int .i64 (KS i), US i]
theorem pairsP_succ (KS : Nat → Int) (US : Nat → Value) (m : Nat) : pairsP KS US (m + 1) = pairsP KS US m ++ [.int .i64 (KS m), US m] := by simp [pairsP, List.range_succ]
theorem pairsP_len (KS : Nat → Int) (US : Nat → Value) (m : Nat) : (pairsP KS US m).length = m * 2 := by
  induction m with
  | zero => rfl
  | succ m ih => rw [pairsP_succ, List.length_append, ih]; simp; omega
theorem pairsP_at (KS : Nat → Int) (US : Nat → Value) : ∀ (m i : Nat), i < m → (pairsP KS US m)[i * 2]? = some (.int .i64 (KS i)) ∧ (pairsP KS US m)[i * 2 + 1]? = some (US i)
  | 0, i, h => absurd h (Nat.not_lt_zero _)
  | m + 1, i, h => by
    rw [pairsP_succ]
    by_cases e : i < m
    · obtain ⟨h1, h2⟩ := pairsP_at KS US m i e
      rw [List.getElem?_append_left (by rw [pairsP_len]; omega), List.getElem?_append_left (by rw [pairsP_len]; omega)]
      exact ⟨h1, h2⟩
    · obtain rfl : i = m := by omega
      rw [List.getElem?_append_right (by rw [pairsP_len]; exact Nat.le_refl _), List.getElem?_append_right (by rw [pairsP_len]; omega), pairsP_len]
      rw [Nat.sub_self, show i * 2 + 1 - i * 2 = 1 by omega]
      exact ⟨rfl, rfl⟩
/-- The number of Variables of the element j is another. -/
def updK (KS : Nat → Int) (j : Nat) (x : Int) : Nat → Int := fun i => if i = j then x else KS i
theorem pairsP_congr (KS KS' : Nat → Int) (US : Nat → Value) : ∀ m : Nat, (∀ i, i < m → KS i = KS' i) → pairsP KS US m = pairsP KS' US m
  | 0, _ => rfl
  | m + 1, h => by rw [pairsP_succ, pairsP_succ, pairsP_congr KS KS' US m fun i hi => h i (by omega), h m (Nat.lt_succ_self _)]
theorem pairsP_set (KS : Nat → Int) (US : Nat → Value) (x : Int) : ∀ (m j : Nat), j < m → (pairsP KS US m).set (j * 2) (.int .i64 x) = pairsP (updK KS j x) US m
  | 0, j, h => absurd h (Nat.not_lt_zero _)
  | m + 1, j, h => by
    rw [pairsP_succ, pairsP_succ]
    by_cases e : j < m
    · rw [List.set_append_left _ _ (by rw [pairsP_len]; omega), pairsP_set KS US x m j e]
      have h1 : updK KS j x m = KS m := if_neg (by omega)
      rw [h1]
    · obtain rfl : j = m := by omega
      rw [List.set_append_right _ _ (by rw [pairsP_len]; exact Nat.le_refl _), pairsP_len, Nat.sub_self]
      have h1 : updK KS j x j = x := if_pos rfl
      rw [h1, pairsP_congr KS (updK KS j x) US j fun i hi => (if_neg (by omega)).symm]
      rfl

/-- A slice of polynomials. -/
structure FamP (w : World) (B : Nat) (V : Value) (m : Nat) (KS : Nat → Int) (US : Nat → Value) (n : Nat → Nat) (VS : Nat → Nat → Value) (Y : Nat → Nat → List Int) : Prop where
  out : w.ownsRow B 27 2 V m (pairsP KS US m)
  inn : ∀ i, i < m → Fam w B (US i) (n i) (VS i) (Y i)
/-- All rows lie apart. -/
def SepP (m : Nat) (n : Nat → Nat) (VS : Nat → Nat → Value) : Prop := (∀ i, i < m → Sep (n i) (VS i)) ∧ ∀ i j, i < m → j < m → i ≠ j → FApart (n i) (VS i) (n j) (VS j)
section
variable {w w' : World} {B m : Nat} {V : Value} {KS : Nat → Int} {US : Nat → Value} {n : Nat → Nat} {VS : Nat → Nat → Value} {Y : Nat → Nat → List Int}
theorem FamP.below (h : FamP w B V m KS US n VS Y) (k : Below w.heap.size w w') : FamP w' B V m KS US n VS Y := ⟨own_below h.out k, fun i hi => (h.inn i hi).below k⟩
theorem FamP.drewN (h : FamP w B V m KS US n VS Y) (q : Nat) : FamP (w.drewN q) B V m KS US n VS Y := ⟨h.out, fun i hi => (h.inn i hi).drewN q⟩
theorem FamP.base {B' : Nat} (h : FamP w B V m KS US n VS Y) (hb : B' ≤ B) : FamP w B' V m KS US n VS Y := ⟨own_base h.out hb, fun i hi => ⟨own_base (h.inn i hi).out hb, fun j hj => own_base ((h.inn i hi).inn j hj) hb⟩⟩
theorem FamP.head (h : FamP w B V m KS US n VS Y) : ∃ a cap, V = .slice a m cap ∧ m ≤ maxLen ∧ (m = 0 ∨ ∃ b, a = some ⟨b, 0, none⟩ ∧ ∀ i, i < m → w.cell? ⟨b, i * 2, none⟩ = some (.int .i64 (KS i)) ∧ w.cell? ⟨b, i * 2 + 1, none⟩ = some (US i)) := by
  rcases h.out.2 with ⟨rfl, h0⟩ | ⟨g, cap, cur, rfl, hb, hg, h1, h2, h3, h4⟩
  · exact ⟨none, 0, by rw [h0], by rw [h0]; exact Nat.zero_le _, .inl h0⟩
  · refine ⟨_, cap, rfl, Nat.le_trans h1 h2, .inr ⟨g, rfl, fun i hi => ?_⟩⟩
    rw [h.out.cellAt (i * 2) (by omega), h.out.cellAt (i * 2 + 1) (by omega)]
    exact pairsP_at KS US m i hi
end

set_option maxHeartbeats 1000000 in
theorem eqPolyS_same (Va Vb : Value) (m : Nat) (Ba Bb : Nat) (KS : Nat → Int) (UA UB : Nat → Value) (n : Nat → Nat) (VA VB : Nat → Nat → Value) (Y : Nat → Nat → List Int) (w : World) (ha : FamP w Ba Va m KS UA n VA Y) (hb : FamP w Bb Vb m KS UB n VB Y) :
    Calls Try.prog 29 #[Va, Vb] w fun e w' => e = .returned (.bool true) ∧ Below w.heap.size w w' := by
  obtain ⟨aa, capa, rfl, hm, hca⟩ := ha.head
  obtain ⟨ab, capb, rfl, _, hcb⟩ := hb.head
  unfold maxLen at hm
  have t2 := Try.underlying27
  have RA := Lib.hid ha
  have RB := Lib.hid hb
  clear ha hb
  by_cases h0 : m = 0
  · subst h0
    clear hca hcb RA RB
    go_enter Try.func29, Try.ntmps29
    go_wp2
    refine wp_loop_rounds 1 ?_
    rw [rounds_succ]
    go_wp2
    go_ret
    exact ⟨rfl, Below.refl _ _⟩
  · obtain ⟨ba, rfl, hca'⟩ := hca.resolve_left h0
    obtain ⟨bb, rfl, hcb'⟩ := hcb.resolve_left h0
    have CA := Lib.hid hca'
    have CB := Lib.hid hcb'
    have hla : ba < w.heap.size := World.block_lt_of_cell? w _ (hca' 0 (by omega)).1
    have hlb : bb < w.heap.size := World.block_lt_of_cell? w _ (hcb' 0 (by omega)).1
    have HLA := Lib.hid hla
    have HLB := Lib.hid hlb
    clear hca hcb hca' hcb' h0 hla hlb
    go_enter Try.func29, Try.ntmps29
    go_wp2
    go_loopw [5] (fun c wr => ∃ j : Nat, j ≤ m ∧ c = .int .i64 j ∧ Hid (Below w.heap.size w wr)) (fun c _ => m - (intOf c).toNat)
    case atStart => exact ⟨0, by omega, rfl, Lib.hid (Below.refl _ _)⟩
    case round =>
      obtain ⟨j, hj, rfl, hw⟩ := hrel
      by_cases hlt : j < m
      · have hlt' : (j : Int) < (m : Int) := by omega
        have F1 := Lib.hid ((RA.out.inn j hlt).below hw.out)
        have F2 := Lib.hid ((RB.out.inn j hlt).below hw.out)
        have K1 : Hid (∀ wx, Below wr.heap.size wr wx → wx.cell? ⟨ba, j * 2, none⟩ = some (.int .i64 (KS j)) ∧ wx.cell? ⟨ba, j * 2 + 1, none⟩ = some (UA j)) := Lib.hid fun wx hx => by
          have k := hw.out.step1 hx
          exact ⟨(k.cell (p := ⟨ba, j * 2, none⟩) HLA.out).trans (CA.out j hlt).1, (k.cell (p := ⟨ba, j * 2 + 1, none⟩) HLA.out).trans (CA.out j hlt).2⟩
        have K2 : Hid (∀ wx, Below wr.heap.size wr wx → wx.cell? ⟨bb, j * 2, none⟩ = some (.int .i64 (KS j)) ∧ wx.cell? ⟨bb, j * 2 + 1, none⟩ = some (UB j)) := Lib.hid fun wx hx => by
          have k := hw.out.step1 hx
          exact ⟨(k.cell (p := ⟨bb, j * 2, none⟩) HLB.out).trans (CB.out j hlt).1, (k.cell (p := ⟨bb, j * 2 + 1, none⟩) HLB.out).trans (CB.out j hlt).2⟩
        obtain ⟨ua, uca, ea, _⟩ := F1.out.head
        obtain ⟨ub, ucb, eb, _⟩ := F2.out.head
        rw [ea] at F1 K1
        rw [eb] at F2 K2
        clear ea eb
        generalize n j = nj at F1 F2 K1 K2
        generalize KS j = kj at K1 K2
        have KEEP : Hid (∀ wx, Below wr.heap.size wr wx → (wx.cell? ⟨ba, j * 2, none⟩ = some (.int .i64 kj) ∧ wx.cell? ⟨ba, j * 2 + 1, none⟩ = some (.slice ua nj uca) ∧ wx.cell? ⟨bb, j * 2, none⟩ = some (.int .i64 kj) ∧ wx.cell? ⟨bb, j * 2 + 1, none⟩ = some (.slice ub nj ucb) ∧ Below wr.heap.size wr wx)) :=
          Lib.hid (fun wx hb => ⟨(K1.out wx hb).1, (K1.out wx hb).2, (K2.out wx hb).1, (K2.out wx hb).2, hb⟩)
        have z0 : Below wr.heap.size wr wr.drew := (Below.refl _ _).drew
        go_wp2_with fail
        go_region_held3 (fun wx => wx.cell? ⟨ba, j * 2, none⟩ = some (.int .i64 kj) ∧ wx.cell? ⟨ba, j * 2 + 1, none⟩ = some (.slice ua nj uca) ∧ wx.cell? ⟨bb, j * 2, none⟩ = some (.int .i64 kj) ∧ wx.cell? ⟨bb, j * 2 + 1, none⟩ = some (.slice ub nj ucb) ∧ Below wr.heap.size wr wx)
          (first | exact KEEP.out _ (Below.refl _ _).drew | exact KEEP.out _ (by assumption))
          ((go_at_call 16; refine (eqPoly_same kj _ _ nj _ _ _ _ _ _ (F1.out.below z0) (F2.out.below z0)).mono ?_; rintro e w9 ⟨rfl, b9⟩; have z9 := z0.step1 b9))
        have H9 := Lib.hid (hw.out.step1 z9)
        go_wp2_with fail
        go_roundw
        case rel => exact ⟨j + 1, by omega, by go_num, H9⟩
        case measure => simp [intOf]; omega
      · go_wp2
        go_ret
        exact ⟨rfl, hw.out⟩
end Go.Proofs.Ytnfhfilconcajaa.Pl
end
