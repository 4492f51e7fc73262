/-
  spec.l07Divide.
-/
import Derived.Test.YtcbfcpngpnlodaaQQuo
import Derived.Test.YtcbfcpngpnlodaaQSrs
namespace Go.Proofs.Ytcbfcpngpnlodaa
open Go.RowKit
set_option linter.unusedVariables false
set_option maxRecDepth 100000

/-- The part of a number of the quotient that is known after k steps. -/
def divTo (s q c : Nat → Int) (n k : Nat) : Int := c n - sumTo (fun i => s (i + 1) * q (n - (i + 1))) k
theorem divTo_step (s q c : Nat → Int) (n k : Nat) : divTo s q c n (k + 1) = divTo s q c n k - s (k + 1) * q (n - (k + 1)) := by
  unfold divTo; rw [sumTo]; omega
theorem wrap_div (x y z : Int) : wrap64 (wrap64 x - wrap64 (wrap64 y * wrap64 z)) = wrap64 (x - y * z) := by
  rw [wrap_wrap_mul, wrap_wrap_sub]
theorem repS_take_succ (d j : Nat) (q : Nat → Int) (h : j ≤ d) : (repS d q).take j ++ [wrap64 (q j)] = (repS d q).take (j + 1) := by
  rw [List.take_add_one]
  congr 1
  have := List.getElem?_range (show j < d + 1 by omega)
  unfold repS
  rw [List.getElem?_map, this]
  rfl

set_option maxHeartbeats 4000000 in
theorem l07Divide_any (va vb : Value) (d : Nat) (s q c : Nat → Int) (B : Nat) (w : World) (hd : d ≤ 200)
    (ha : w.ownsRow B 2 1 va (d + 1) ((repS d c).map (Value.int .i64))) (hb : w.ownsRow B 2 1 vb (d + 1) ((repS d s).map (Value.int .i64)))
    (hq : ∀ n, n ≤ d → q n = divTo s q c n n) :
    Calls Try.prog 83 #[va, vb] w fun e w' => ∃ u, e = .returned u ∧ w'.ownsRow w.heap.size 2 1 u (repS d q).length ((repS d q).map (Value.int .i64)) ∧ Below w.heap.size w w' := by
  obtain ⟨i0, hi, hz0, hz1, hz2⟩ := info_parts Try.info2
  have HQ := Lib.hid hq
  obtain ⟨ga, ca, rfl⟩ : ∃ g cap, va = .slice (some ⟨g, 0, none⟩) (d + 1) cap := by
    rcases ha.2 with ⟨_, h0⟩ | ⟨g, cap, cur, rfl, _⟩
    · omega
    · exact ⟨g, cap, rfl⟩
  obtain ⟨gb, cb, rfl⟩ : ∃ g cap, vb = .slice (some ⟨g, 0, none⟩) (d + 1) cap := by
    rcases hb.2 with ⟨_, h0⟩ | ⟨g, cap, cur, rfl, _⟩
    · omega
    · exact ⟨g, cap, rfl⟩
  have HA := Lib.hid (fun wx (hx : Below w.heap.size w wx) => own_below ha hx)
  have HB := Lib.hid (fun wx (hx : Below w.heap.size w wx) => own_below hb hx)
  clear ha hb hq
  go_enter Try.func83, Try.ntmps83
  go_wp2_with fail
  go_loopw [5, 6, 7, 8] (fun v c _ _ wr => ∃ j g cap : Nat, ∃ l : List Int, j ≤ d + 1 ∧ Hid (l = (repS d q).take j) ∧ Hid (l.length = j) ∧ c = .int .i64 (j : Int) ∧ v = .slice (some ⟨g, 0, none⟩) l.length cap ∧ Hid (wr.ownsRow w.heap.size 2 1 (.slice (some ⟨g, 0, none⟩) l.length cap) l.length (l.map (Value.int .i64))) ∧ Hid (Below w.heap.size w wr))
    (fun _ c _ _ _ => (d + 1 - intOf c).toNat)
  case atStart => exact ⟨0, w.heap.size, 0, [], by omega, Lib.hid rfl, Lib.hid rfl, by simp, rfl, Lib.hid (World.ownsRow_lit w #[] 0 (Nat.le_refl _) (by decide) rfl), Lib.hid ((Below.refl _ _).alloc (Nat.le_refl _) _)⟩
  case round =>
    obtain ⟨j, g, cap, l, hj, hl, hll, rfl, rfl, hown, hbel⟩ := hrel
    have hsz := hbel.out.size
    by_cases hlt : j < d + 1
    · have hc : (j : Int) < (d : Int) + 1 := by omega
      have cA := own_cell (HA.out wr hbel.out) j hlt
      rw [repS_at d c j (by omega)] at cA
      have CB : Hid (∀ k, k ≤ d → wr.cell? ⟨gb, k, none⟩ = some (.int .i64 (wrap64 (s k)))) := Lib.hid (fun k hk => by
        have := own_cell (HB.out wr hbel.out) k (by omega)
        rwa [repS_at d s k hk] at this)
      have CO : Hid (∀ m, m < j → wr.cell? ⟨g, m, none⟩ = some (.int .i64 (wrap64 (q m)))) := Lib.hid (fun m hm => by
        rw [World.ownsRow.cellAt hown.out m (by rw [hll.out]; omega), List.getElem?_map, hl.out, List.getElem?_take_of_lt hm]
        unfold repS
        rw [List.getElem?_map, List.getElem?_range (by omega)]
        rfl)
      have D0 : Hid (divTo s q c j 0 = c j) := Lib.hid (by unfold divTo; rw [sumTo]; omega)
      have HLL : Hid ((l.length : Int) = j) := Lib.hid (by rw [hll.out])
      go_wp2_with fail
      obtain ⟨wo, hwo⟩ : ∃ wo : World, wo = wr := ⟨_, rfl⟩
      subst hwo
      go_loopw [7, 8] (fun o k wx => ∃ K p : Nat, K ≤ j ∧ k = .int .i64 ((K : Int) + 1) ∧ o = .int .i64 (wrap64 (divTo s q c j K)) ∧ Hid (wx = wo.drewN p)) (fun _ k _ => (j + 1 - intOf k).toNat)
      case atStart => exact ⟨0, 0, by omega, by simp, by rw [D0.out], Lib.hid rfl⟩
      case round =>
        clear cA D0
        obtain ⟨K, p, hK, rfl, rfl, hwx⟩ := hrel
        by_cases hKj : K < j
        · have hd2 : (K : Int) + 1 ≤ (j : Int) := by omega
          obtain ⟨m, hm⟩ : ∃ m, m = j - (K + 1) := ⟨_, rfl⟩
          have c1 : wr.cell? ⟨gb, K + 1, none⟩ = some (.int .i64 (wrap64 (s (K + 1)))) := by rw [hwx.out]; exact CB.out (K + 1) (by omega)
          have c2 : wr.cell? ⟨g, m, none⟩ = some (.int .i64 (wrap64 (q m))) := by rw [hwx.out]; exact CO.out m (by omega)
          have ST : Hid (wrap64 (divTo s q c j (K + 1)) = wrap64 (wrap64 (divTo s q c j K) - wrap64 (wrap64 (s (K + 1)) * wrap64 (q m)))) := Lib.hid (by rw [wrap_div, divTo_step, hm])
          have e1 : wrap64 ((j : Int) - ((K : Int) + 1)) = (m : Int) := by rw [hm]; unfold wrap64; omega
          have e2 : IntKind.i64.wrap ((j : Int) - ((K : Int) + 1)) = (m : Int) := by rw [hm, IntKind.wrap_i64]; omega
          have hml : (m : Int) < (l.length : Int) := by have := HLL.out; omega
          have hkd : (K : Int) + 1 < (d : Int) + 1 := by omega
          clear hm
          generalize wrap64 (divTo s q c j K) = x at *
          generalize wrap64 (s (K + 1)) = y at *
          generalize wrap64 (q m) = z at *
          go_wp2
          go_quiet (fail)
          go_wp2
          go_roundw
          case rel => exact ⟨K + 1, p + nq, by omega, by go_num, by rw [ST.out], Lib.hid (by rw [hwx.out]; exact World.drewN_drewN ..)⟩
          case measure => simp [intOf]; omega
        · have hd2 : ¬ (K : Int) + 1 ≤ (j : Int) := by omega
          obtain rfl : K = j := by omega
          have EQ : Hid (divTo s q c K K = q K) := Lib.hid (HQ.out K (by omega)).symm
          rw [EQ.out]
          have hown2 := hown.out
          have HLN : Hid (l ++ [wrap64 (q K)] = (repS d q).take (K + 1)) := Lib.hid (by rw [hl.out]; exact repS_take_succ d K q (by omega))
          clear CB CO HA HB
          have hown3 : wr.ownsRow w.heap.size 2 1 (.slice (some ⟨g, 0, none⟩) l.length cap) l.length (l.map (Value.int .i64)) := by rw [hwx.out]; exact hown2
          have hbel3 : Below w.heap.size w wr := by rw [hwx.out]; exact below_drewN hbel.out p
          have hsz3 := hbel3.size
          clear hown2
          generalize wrap64 (q K) = x at *
          go_wp2_with (at_builtin; refine wpList_append_own _ rfl _ _ 22 rfl w.heap.size 2 i0 (.int .i64 0) 1 8 Try.underlying22 hi hz0 hz1 hz2 rfl (by decide) _ _ _ rfl (hown3.alloc _) ⟨wr.heap.size, 0, none⟩ 1 1 [.int .i64 x] rfl rfl ?kk1 ?kk2 ?kk3 ?kk4 ?kk5 ?_)
          case kk2 => rfl
          case kk3 => have := hll.out; unfold maxLen; omega
          case kk4 => have := hll.out; omega
          case kk5 => have := hll.out; simp; omega
          intro v' w1 hown' hgrow _
          have hb' : Below w.heap.size w w1 := (hbel3.alloc hsz3 _).grown hgrow (by simp; omega) (fun k hk => (hown3.lt k hk).1)
          have HO4 : Hid (w1.ownsRow w.heap.size 2 1 v' (l ++ [x]).length ((l ++ [x]).map (Value.int .i64))) := Lib.hid (by simpa using hown')
          clear hgrow hbel3 hown3 hown'
          obtain ⟨g2, cap2, rfl⟩ : ∃ g cap, v' = .slice (some ⟨g, 0, none⟩) (l ++ [x]).length cap := by
            rcases HO4.out.2 with ⟨_, h0⟩ | ⟨g, cap, cur, rfl, _⟩
            · simp at h0
            · exact ⟨g, cap, rfl⟩
          have HLX : Hid ((l ++ [x]).length = K + 1) := Lib.hid (by have := hll.out; simp; omega)
          generalize l ++ [x] = l2 at *
          go_wp2_with fail
          go_roundw
          case rel => exact ⟨K + 1, g2, cap2, l2, by omega, HLN, HLX, by go_num, rfl, HO4, Lib.hid hb'⟩
          case measure => simp [intOf]; omega
    · have hc : ¬ (j : Int) < (d : Int) + 1 := by omega
      obtain rfl : j = d + 1 := by omega
      have e : Hid (l = repS d q) := Lib.hid (by rw [hl.out, List.take_of_length_le (by rw [repS_len]; omega)])
      clear hl hll
      go_wp2_with fail
      go_ret
      exact ⟨_, rfl, e.out ▸ hown.out, hbel.out⟩
end Go.Proofs.Ytcbfcpngpnlodaa
