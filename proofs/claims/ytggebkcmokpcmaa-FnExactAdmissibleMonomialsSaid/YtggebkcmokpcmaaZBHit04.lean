/-
  Joined: WToSS.
-/
import Derived.Test.YtggebkcmokpcmaaZBHit03
section
namespace Go.Proofs.Ytggebkcmokpcmaa
open Go.RowKit
set_option maxRecDepth 100000
set_option linter.unusedVariables false

/-- The numbers of the first j lists together. -/
def tot (X : Nat → List Int) : Nat → Nat
  | 0 => 0
  | j + 1 => tot X j + (X j).length
theorem tot_mono (X : Nat → List Int) (i j : Nat) : tot X i ≤ tot X (i + j) := by
  induction j with
  | zero => exact Nat.le_refl _
  | succ j ih => rw [← Nat.add_assoc, tot]; omega
theorem tot_le (X : Nat → List Int) (i m : Nat) (h : i ≤ m) : tot X i ≤ tot X m := by
  obtain ⟨j, rfl⟩ : ∃ j, m = i + j := ⟨m - i, by omega⟩
  exact tot_mono X i j
theorem tot_one (X : Nat → List Int) (i m : Nat) (h : i < m) : (X i).length ≤ tot X m := by
  have h1 := tot_le X (i + 1) m h
  rw [tot] at h1
  omega
theorem tot_big (X : Nat → List Int) (m c : Nat) (h : c < tot X m) : ∃ q, q < m ∧ tot X q ≤ c ∧ c < tot X (q + 1) := by
  induction m with
  | zero => exact absurd h (Nat.not_lt_zero _)
  | succ m ih =>
    by_cases h1 : c < tot X m
    · obtain ⟨q, a, b, d⟩ := ih h1
      exact ⟨q, by omega, b, d⟩
    · exact ⟨m, by omega, by omega, h⟩

theorem ret_i64 {a b : Int} (h : a = b) : Ending.returned (.int .i64 a) = .returned (.int .i64 b) := by rw [h]

theorem szS_any (v : Value) (n : Nat) (G : Nat → Int) (left : Nat) (w : World) (h : RdI w v n G) (hl : left ≤ 1048576) (hn : n ≤ left) :
    Calls Try.prog 76 #[v, .int .i64 (left : Int)] w fun e w' => e = .returned (.int .i64 ((left : Int) - (n : Int))) ∧ w = w' := by
  obtain ⟨a, cap, rfl, hm, hc⟩ := h
  clear hc
  unfold maxLen at hm
  have hge : ¬ (left : Int) - (n : Int) < 0 := by omega
  go_enter Try.func76, Try.ntmps76
  go_wp2
  go_ret
  exact ⟨rfl, rfl⟩

theorem szS_over (v : Value) (n : Nat) (G : Nat → Int) (left : Nat) (w : World) (h : RdI w v n G) (hl : left ≤ 1048576) (hn : left < n) :
    Calls Try.prog 76 #[v, .int .i64 (left : Int)] w fun e w' => e = .returned (.int .i64 (-1)) ∧ w = w' := by
  obtain ⟨a, cap, rfl, hm, hc⟩ := h
  clear hc
  unfold maxLen at hm
  have hge : (left : Int) - (n : Int) < 0 := by omega
  go_enter Try.func76, Try.ntmps76
  go_wp2
  go_ret
  exact ⟨rfl, rfl⟩

theorem szSS_any (V : Value) (m : Nat) (X : Nat → List Int) (left : Nat) (w : World) (h : RdSS w V m X) (hl : left ≤ 1048576) (hm : m + tot X m ≤ left) :
    Calls Try.prog 47 #[V, .int .i64 (left : Int)] w fun e w' => e = .returned (.int .i64 ((left : Int) - ((m + tot X m : Nat) : Int))) ∧ w = w' := by
  obtain ⟨⟨a, cap, rfl⟩, hsm, VS, hc, hr⟩ := h
  have hge : ¬ (left : Int) - (m : Int) < 0 := by omega
  by_cases h0 : m = 0
  · subst h0
    clear hc hr
    have hge' : ¬ (left : Int) < 0 := by omega
    go_enter Try.func47, Try.ntmps47
    go_wp2
    refine wp_loop_rounds 1 ?_
    rw [rounds_succ]
    go_wp2
    go_ret
    exact ⟨by simp [tot], rfl⟩
  · obtain ⟨b, off, ⟨cap', e⟩, hc'⟩ := hc.resolve_left h0
    cases e
    have HC := Lib.hid hc'
    have HR := Lib.hid hr
    clear hc hc' hr h0
    go_enter Try.func47, Try.ntmps47
    go_wp2
    go_loop [1, 5] (fun c i => ∃ j l : Nat, j ≤ m ∧ i = .int .i64 j ∧ c = .int .i64 (l : Int) ∧ l + m + tot X j = left) (fun _ i => m - (intOf i).toNat)
    case atStart => exact ⟨0, left - m, by omega, rfl, by go_num, by rw [tot]; omega⟩
    case round =>
      obtain ⟨j, l, hj, rfl, rfl, hle⟩ := hrel
      have HL := Lib.hid hle
      by_cases hlt : j < m
      · have hlt' : (j : Int) < (m : Int) := by omega
        have c1 := HC.out j hlt
        have ht := tot_le X (j + 1) m hlt
        rw [tot] at ht
        have hTT : Hid (tot X (j + 1) = tot X j + (X j).length) := Lib.hid rfl
        have M := Lib.hid (szS_any (VS j) (X j).length _ l w (HR.out j hlt) (by omega) (by omega))
        have hnn : ¬ (l : Int) - ((X j).length : Int) < 0 := by omega
        have hq : (X j).length ≤ l := by omega
        have hl2 : l ≤ 1048576 := by omega
        clear hle ht
        generalize VS j = v at c1 M
        generalize (X j).length = n at *
        go_wp2_with (go_at_call 76; refine M.out.mono ?_; rintro e w' ⟨rfl, rfl⟩)
        go_round
        case rel => exact ⟨j + 1, l - n, by omega, by go_num, by go_num, by rw [hTT.out]; have := HL.out; omega⟩
        case measure => simp [intOf]; omega
      · obtain rfl : j = m := by omega
        clear hle
        go_wp2
        go_ret
        exact ⟨ret_i64 (by have := HL.out; omega), rfl⟩

theorem szSS_over (V : Value) (m : Nat) (X : Nat → List Int) (left : Nat) (w : World) (h : RdSS w V m X) (hl : left ≤ 1048576) (hm : left < m + tot X m) :
    Calls Try.prog 47 #[V, .int .i64 (left : Int)] w fun e w' => e = .returned (.int .i64 (-1)) ∧ w = w' := by
  obtain ⟨⟨a, cap, rfl⟩, hsm, VS, hc, hr⟩ := h
  unfold maxLen at hsm
  by_cases hbig : left < m
  · have hge : (left : Int) - (m : Int) < 0 := by omega
    clear hc hr
    go_enter Try.func47, Try.ntmps47
    go_wp2
    go_ret
    exact ⟨rfl, rfl⟩
  · have hge : ¬ (left : Int) - (m : Int) < 0 := by omega
    obtain ⟨q, hq, hq1, hq2⟩ := tot_big X m (left - m) (by omega)
    obtain ⟨b, off, ⟨cap', e⟩, hc'⟩ := hc.resolve_left (by omega)
    cases e
    have HC := Lib.hid hc'
    have HR := Lib.hid hr
    clear hc hc' hr
    go_enter Try.func47, Try.ntmps47
    go_wp2
    go_loop [1, 5] (fun c i => ∃ j l : Nat, j ≤ q ∧ i = .int .i64 j ∧ c = .int .i64 (l : Int) ∧ l + m + tot X j = left) (fun _ i => m - (intOf i).toNat)
    case atStart => exact ⟨0, left - m, by omega, rfl, by go_num, by rw [tot]; omega⟩
    case round =>
      obtain ⟨j, l, hj, rfl, rfl, hle⟩ := hrel
      have HL := Lib.hid hle
      have hlt' : (j : Int) < (m : Int) := by omega
      have c1 := HC.out j (by omega)
      by_cases hlt : j < q
      · have ht := tot_le X (j + 1) q hlt
        rw [tot] at ht
        have hTT : Hid (tot X (j + 1) = tot X j + (X j).length) := Lib.hid rfl
        have M := Lib.hid (szS_any (VS j) (X j).length _ l w (HR.out j (by omega)) (by omega) (by omega))
        have hnn : ¬ (l : Int) - ((X j).length : Int) < 0 := by omega
        have hq : (X j).length ≤ l := by omega
        have hl2 : l ≤ 1048576 := by omega
        clear hle ht hq1 hq2
        generalize VS j = v at c1 M
        generalize (X j).length = n at *
        go_wp2_with (go_at_call 76; refine M.out.mono ?_; rintro e w' ⟨rfl, rfl⟩)
        go_round
        case rel => exact ⟨j + 1, l - n, by omega, by go_num, by go_num, by rw [hTT.out]; have := HL.out; omega⟩
        case measure => simp [intOf]; omega
      · obtain rfl : j = q := by omega
        rw [tot] at hq2
        have M := Lib.hid (szS_over (VS j) (X j).length _ l w (HR.out j (by omega)) (by omega) (by omega))
        clear hle hq1 hq2
        generalize VS j = v at c1 M
        go_wp2_with (go_at_call 76; refine M.out.mono ?_; rintro e w' ⟨rfl, rfl⟩)
        go_ret
        exact ⟨rfl, rfl⟩

theorem apart_swap {v v' : Value} (h : v.ownBlock = none ∨ v.ownBlock ≠ v'.ownBlock) : v'.ownBlock = none ∨ v'.ownBlock ≠ v.ownBlock := by
  rcases h with h | h
  · rw [h]
    exact Classical.em _
  · exact .inr (Ne.symm h)
theorem sep_push {m : Nat} {VS : Nat → Value} {u : Value} (h : Sep m VS) (hu : ∀ i, i < m → (VS i).ownBlock = none ∨ (VS i).ownBlock ≠ u.ownBlock) : Sep (m + 1) (ext VS m u) := by
  intro i j hi hj hij
  unfold ext
  by_cases h1 : i < m
  · rw [if_pos h1]
    by_cases h2 : j < m
    · rw [if_pos h2]; exact h i j h1 h2 hij
    · rw [if_neg h2]; exact hu i h1
  · rw [if_neg h1]
    by_cases h2 : j < m
    · rw [if_pos h2]; exact apart_swap (hu j h2)
    · exact absurd (by omega) hij
theorem apart_lt {w w' : World} {B n m : Nat} {v u : Value} {xs ys : List Value} {e e' : TypeId} {s s' : Nat} (h : w.ownsRow B e s v n xs) (hu : w'.ownsRow w.heap.size e' s' u m ys) : v.ownBlock = none ∨ v.ownBlock ≠ u.ownBlock :=
  own_apart h hu

/-- The heads that stand in the new row when j rows are copied. -/
def hds (US : Nat → Value) (m j : Nat) : List Value := (List.range m).map fun i => if i < j then US i else .slice none 0 0
theorem hds_set (US : Nat → Value) (m j : Nat) (u : Value) : (hds US m j).set j u = hds (ext US j u) m (j + 1) := by
  apply List.ext_getElem
  · simp [hds]
  · intro i h1 h2
    simp only [hds, List.getElem_set, List.getElem_map, List.getElem_range, ext]
    by_cases e : j = i
    · subst e
      rw [if_pos rfl, if_pos (Nat.lt_succ_self _), if_neg (Nat.lt_irrefl _)]
    · rw [if_neg e]
      by_cases h : i < j
      · rw [if_pos h, if_pos (by omega), if_pos h]
      · rw [if_neg h, if_neg (by omega)]
theorem hds_zero (US : Nat → Value) (m : Nat) : hds US m 0 = List.replicate m (.slice none 0 0) := by
  apply List.ext_getElem
  · simp [hds]
  · intro i h1 h2; simp [hds]
theorem hds_all (US : Nat → Value) (m : Nat) : hds US m m = (List.range m).map US := by
  apply List.map_congr_left
  intro i hi
  rw [if_pos (List.mem_range.1 hi)]
theorem hds_len (US : Nat → Value) (m j : Nat) : (hds US m j).length = m := by simp [hds]
theorem made_heads (m : Nat) : (madeCells (Value.cells (.slice none 0 0)) (m * 1)).toList = List.replicate m (Value.slice none 0 0) := by
  rw [Nat.mul_one]
  exact toList_madeCells_one _ _
theorem cpy_list (xs : List Int) : cpy (fun j => xs[j]?.getD 0) xs.length xs.length = xs := by
  apply List.ext_getElem
  · simp [cpy]
  · intro i h1 h2
    simp [cpy, h2]

set_option maxRecDepth 100000 in
theorem toSS_any (V : Value) (m : Nat) (X : Nat → List Int) (w : World) (hm : m ≤ 1048576) (hX : ∀ i, i < m → (X i).length ≤ 1048576) (h : RdSS w V m X) :
    Calls Try.prog 50 #[V] w fun e w' => ∃ U US, e = .returned U ∧ Fam w' w.heap.size U m US X ∧ Below w.heap.size w w' ∧ Sep m US := by
  obtain ⟨i1, hj, hy0, hy1, hy2⟩ := info_parts Try.infoS
  obtain ⟨⟨a, cap, rfl⟩, hsm, VS, hc, hr⟩ := h
  by_cases h0 : m = 0
  · subst h0
    clear hc hr hX
    go_enter Try.func50, Try.ntmps50
    go_wp2_with (at_make; refine wpList_make_full _ rfl _ _ 25 rfl w.heap.size 42 i1 (.slice none 0 0) 1 Try.underlying25 hj hy0 hy1 .i64 .i64 0 0 0 rfl rfl rfl rfl (by omega) (by unfold maxLen; omega) (Nat.le_refl _) ?_; intro w1 hown hgrow; rw [made_heads] at hown; have H1 := Lib.hid hown; have G1 := Lib.hid hgrow; clear hown hgrow)
    refine wp_loop_rounds 1 ?_
    rw [rounds_succ]
    go_wp2
    go_ret
    exact ⟨_, fun _ => undef, rfl, ⟨H1.out, fun i hi => absurd hi (Nat.not_lt_zero _)⟩, (Below.refl _ w).grown G1.out (Nat.le_refl _) (by intro k hk; cases hk), fun i j hi => absurd hi (Nat.not_lt_zero _)⟩
  · obtain ⟨b, off, ⟨cap', e⟩, hc'⟩ := hc.resolve_left h0
    cases e
    have HC := Lib.hid hc'
    have HR := Lib.hid hr
    have HX := Lib.hid hX
    have hlt0 : ∀ i, i < m → b < w.heap.size := fun i hi => World.block_lt_of_cell? w ⟨b, off + i, none⟩ (hc' i hi)
    have hbl := hlt0 0 (by omega)
    clear hc hc' hr hX hlt0 h0
    go_enter Try.func50, Try.ntmps50
    go_wp2_with (at_make; refine wpList_make_full _ rfl _ _ 25 rfl w.heap.size 42 i1 (.slice none 0 0) 1 Try.underlying25 hj hy0 hy1 .i64 .i64 (m : Int) (m : Int) m rfl rfl rfl rfl (by rw [hy2]; omega) hsm (Nat.le_refl _) ?_; intro w1 hown hgrow; rw [made_heads, ← hds_zero (fun _ => undef) m] at hown; have H1 := Lib.hid hown; have G1 := Lib.hid hgrow; clear hown hgrow)
    unfold maxLen at hsm
    have B1 : Below w.heap.size w w1 := (Below.refl _ w).grown G1.out (Nat.le_refl _) (by intro k hk; cases hk)
    clear G1
    go_loopw [4] (fun c wr => ∃ (j : Nat) (US : Nat → Value), j ≤ m ∧ c = .int .i64 j ∧ Hid (wr.ownsRow w.heap.size 42 1 (.slice (some ⟨w.heap.size, 0, none⟩) m m) m (hds US m j)) ∧ Hid (∀ i, i < j → wr.ownsRow w.heap.size 2 1 (US i) (X i).length ((X i).map (Value.int .i64))) ∧ Hid (Sep j US) ∧ Below w.heap.size w wr) (fun c _ => m - (intOf c).toNat)
    case atStart => exact ⟨0, fun _ => undef, by omega, rfl, H1, Lib.hid (fun i hi => absurd hi (Nat.not_lt_zero _)), Lib.hid (fun i j hi => absurd hi (Nat.not_lt_zero _)), B1⟩
    case round =>
      clear H1 B1
      obtain ⟨j, US, hj, rfl, ho, hi, hs, hb⟩ := hrel
      by_cases hlt : j < m
      · have hlt' : (j : Int) < (m : Int) := by omega
        have c1 : wr.cell? ⟨b, off + j, none⟩ = some (VS j) := (hb.cell (p := ⟨b, off + j, none⟩) hbl).trans (HC.out j hlt)
        have r1 : RdI wr (VS j) (X j).length (fun i => (X j)[i]?.getD 0) := by
          obtain ⟨a', c', e, hm', hx⟩ := HR.out j hlt
          refine ⟨a', c', e, hm', ?_⟩
          rcases hx with h0 | ⟨b', off', e', hx⟩
          · exact .inl h0
          · exact .inr ⟨b', off', e', fun i hi => (hb.cell (p := ⟨b', off' + i, none⟩) (World.block_lt_of_cell? w _ (hx i hi))).trans (hx i hi)⟩
        have T := toInt64S_any (VS j) (X j).length _ wr (by have := HX.out j hlt; omega) r1
        rw [cpy_list] at T
        have T := Lib.hid T
        have hsz := hb.size
        clear r1
        generalize VS j = v at c1 T
        go_wp2_with fail
        refine T.out.mono ?_
        rintro e w2 ⟨u, rfl, hu, hb2⟩
        have ho2 := own_below ho.out hb2
        have c2 := ho2.cellAt j (by omega)
        have hz : (hds US m j)[j]? = some (.slice none 0 0) := by simp [hds, hlt]
        rw [hz] at c2
        have f2 := ho2.frozenAt j
        have hst := ho2.stored j u
        rw [hds_set] at hst
        have HS := Lib.hid hst
        have hb02 := hb.trans (hb2.mono hsz)
        have OU : Hid (∀ i, i < j + 1 → (w2.setCell ⟨w.heap.size, j, none⟩ u).ownsRow w.heap.size 2 1 (ext US j u i) (X i).length ((X i).map (Value.int .i64))) := by
          refine Lib.hid fun i hi' => ?_
          by_cases e : i < j
          · rw [ext, if_pos e]
            have h1 := own_below (hi.out i e) hb2
            exact h1.kept hst.2 (own_types h1 ho2 (by decide))
          · have e0 : i = j := by omega
            subst e0
            rw [ext, if_neg (Nat.lt_irrefl _)]
            have h1 := own_base hu hsz
            exact h1.kept hst.2 (own_types h1 ho2 (by decide))
        have SU : Hid (Sep (j + 1) (ext US j u)) := Lib.hid (sep_push hs.out (fun i hi' => apart_lt (hi.out i hi') hu))
        have BU : Below w.heap.size w (w2.setCell ⟨w.heap.size, j, none⟩ u) := hb02.setCell (Nat.le_refl _) _
        have hoc : ∃ ua uc, u = .slice ua (X j).length uc := by
          rcases hu.2 with ⟨rfl, h0⟩ | ⟨g, cap, cur, rfl, _⟩
          · exact ⟨none, 0, by rw [h0]⟩
          · exact ⟨_, cap, rfl⟩
        obtain ⟨ua, uc, hue⟩ := hoc
        clear hst ho ho2 hz hu hi hs T hb hb02 hb2
        generalize (X j).length = n at hue
        subst hue
        go_wp2
        go_roundw
        case rel => exact ⟨j + 1, _, by omega, by go_num, Lib.hid HS.out.1, OU, SU, BU⟩
        case measure => simp [intOf]; omega
      · obtain rfl : j = m := by omega
        go_wp2
        go_ret
        exact ⟨_, US, rfl, ⟨by rw [← hds_all]; exact ho.out, hi.out⟩, hb, hs.out⟩
end Go.Proofs.Ytggebkcmokpcmaa
end
