/-
  Joined: QJoin.
-/
import Derived.Test.YtcbfcpngpnlodaaZileOfElement17
section
namespace Go.Proofs.Ytcbfcpngpnlodaa
open Go.RowKit Go.Maps
set_option linter.unusedVariables false
set_option maxRecDepth 100000

/-! ### join -/
/-- The greater numbers, in the first k places. -/
def joinTo (f g : Nat → Int) (k : Nat) (i : Nat) : Int := if i < k then max (f i) (g i) else f i
def joinF (f g : Nat → Int) (i : Nat) : Int := max (f i) (g i)
theorem joinTo_step (f g : Nat → Int) (k : Nat) : updF (joinTo f g k) k (max (f k) (g k)) = joinTo f g (k + 1) := by
  funext i
  unfold updF joinTo
  by_cases e : i = k
  · subst e; rw [if_pos rfl, if_pos (by omega)]
  · rw [if_neg e]
    by_cases c : i < k
    · rw [if_pos c, if_pos (by omega)]
    · rw [if_neg c, if_neg (by omega)]
theorem joinTo_zero (f g : Nat → Int) : joinTo f g 0 = f := by
  funext i; unfold joinTo; rw [if_neg (by omega)]
set_option maxHeartbeats 1000000 in
theorem join_any (f g : Nat → Int) (w : World) : Calls Try.prog 85 #[.agg (arK f), .agg (arK g)] w (SaysA (joinF f g) w) := by
  have HI : Hid (∀ j : Nat, j < 16 → ∀ w : World, (Instr.index 56 (.agg (arK g)) (.int .i64 (j : Int))).run Try.prog w = .ok (.int .i64 (g j)) w) := Lib.hid fun j hj w => idxQ w _ j hj _ _ (arK_at g j hj)
  obtain ⟨w1, hw1⟩ : ∃ w1, w1 = (((w.alloc (.cells (arK f) 56)).alloc (.cells (arK g) 56)).alloc (.cells (arK zeroF) 56)) := ⟨_, rfl⟩
  have T1 : Hid (Tri16 w (joinTo f g 0) w1) := Lib.hid (by
    rw [hw1, joinTo_zero]
    refine ⟨(((Below.refl w.heap.size w).alloc (Nat.le_refl _) _).alloc (by simp) _).alloc (by simp; omega) _, ((ArAt.new w f).alloc _).alloc _, ?_⟩
    have := ArAt.new ((w.alloc (.cells (arK f) 56)).alloc (.cells (arK g) 56)) zeroF
    simpa using this)
  have Y1 : Hid (w1.rangeAt (w.heap.size + 1) 0 (arK g).toList) := Lib.hid (by
    rw [hw1]
    have := (ArAt.new (w.alloc (.cells (arK f) 56)) g).alloc (.cells (arK zeroF) 56)
    rw [World.size_alloc] at this
    exact this.range)
  have SY : Hid ((arK g).size = 16) := Lib.hid (arK_size g)
  rw [arK_zero] at hw1
  go_enter Try.func85, Try.ntmps85
  go_upto_region 1 with fail
  rw [← hw1]
  clear hw1
  generalize arK g = KY at *
  go_wp2_with (refine ldKQ rfl _ rfl (w.heap.size + 1) 0 rfl KY Y1.out SY.out ?_)
  go_loopw [5, 6, 8] (fun _ _ c wr => ∃ k : Nat, k ≤ 16 ∧ c = .int .i64 k ∧ Hid (Tri16 w (joinTo f g k) wr)) (fun _ _ c _ => 16 - (intOf c).toNat)
  case atStart => exact ⟨0, by omega, rfl, T1⟩
  case round =>
    clear T1 Y1
    obtain ⟨k, hk, rfl, hT⟩ := hrel
    by_cases hlt : k < 16
    · have hlt' : (k : Int) < 16 := by omega
      have hix := HI.out k hlt
      have c1 := hT.out.a.cell k hlt
      have f1 := hT.out.a.fr k
      have e1 : joinTo f g k k = f k := if_neg (Nat.lt_irrefl _)
      rw [e1] at c1
      have T2 : Hid (Tri16 w (joinTo f g (k + 1)) (wr.setCell ⟨w.heap.size, k, none⟩ (.int .i64 (max (f k) (g k))))) := Lib.hid ⟨hT.out.bel.setCell (p := ⟨w.heap.size, k, none⟩) (Nat.le_refl _) _, by rw [← joinTo_step f g k]; exact hT.out.a.set k hlt _, hT.out.r.other _ _ (by simp; omega)⟩
      clear e1 hT
      generalize f k = x at *
      generalize g k = y at *
      have emin : max x y = if x < y then y else x := by split <;> omega
      rw [emin] at T2
      clear emin
      by_cases hxy : x < y
      · rw [if_pos hxy] at T2
        go_wp2_with fail
        go_roundw
        case rel => exact ⟨k + 1, by omega, by go_num, T2⟩
        case measure => simp [intOf]; omega
      · rw [if_neg hxy] at T2
        go_wp2_with fail
        go_roundw
        case rel => exact ⟨k + 1, by omega, by go_num, T2⟩
        case measure => simp [intOf]; omega
    · obtain rfl : k = 16 := by omega
      have HR := Lib.hid hT.out.a.range
      have HO : Hid (wr.heap[w.heap.size + 1 + 1]? = some (.cells (arK zeroF) 56 (0, 0))) := Lib.hid hT.out.r
      have SZ := Lib.hid (sizeAr (joinTo f g 16))
      have S5 := Lib.hid (arK_size (joinTo f g 16))
      have S1 := Lib.hid (arK_one (joinTo f g 16))
      have SQ : Hid ((arK zeroF).size = (arK (joinTo f g 16)).size) := Lib.hid (by rw [arK_size, arK_size])
      have B3 := Lib.hid hT.out.bel
      have HE : arK (joinF f g) = arK (joinTo f g 16) := arK_congr fun i hi => by unfold joinF joinTo; rw [if_pos hi]
      clear hT
      obtain ⟨K, hK⟩ : ∃ K, arK (joinTo f g 16) = K := ⟨_, rfl⟩
      rw [hK] at HR SZ S5 SQ HE S1
      have HK : Hid (.agg (arK (joinF f g)) = Value.agg K) := Lib.hid (by rw [HE])
      clear hK HE
      go_wp2_with (first
        | (refine ldKQ rfl _ rfl w.heap.size 0 rfl K HR.out S5.out ?_)
        | (refine wpList_store_row rfl 56 _ _ rfl (w.heap.size + 1 + 1) K rfl rfl 56 _ HO.out SZ.out SQ.out S1.out ?_))
      refine bodyPost_ret (results_cell_row rfl _ _ (w.heap.size + 1 + 1) 56 K (0, 0) _ rfl (setRow_heap _ _ _ _ _ _ HO.out) Try.underlying56 rfl SZ.out) rfl ?_
      exact ⟨by rw [HK.out], below_setRow B3.out (by omega) _⟩

end Go.Proofs.Ytcbfcpngpnlodaa
end
