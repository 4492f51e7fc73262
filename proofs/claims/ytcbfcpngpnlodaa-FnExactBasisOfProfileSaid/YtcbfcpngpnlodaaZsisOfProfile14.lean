/-
  Joined: QMeet.
-/
import Derived.Test.YtcbfcpngpnlodaaZsisOfProfile10
import Derived.BigQuiet
import Derived.Deep.RegionLaw
import Derived.Deep.RegionHeld3
section
namespace Go.Proofs.Ytcbfcpngpnlodaa
open Go.RowKit Go.Maps
set_option linter.unusedVariables false
set_option maxRecDepth 100000

theorem idxQ (w : World) (k : Array Value) (j : Nat) (hj : j < 16) (q : IntKind) (z : Int) (h : k[j]? = some (.int q z)) : (Instr.index 56 (.agg k) (.int .i64 (j : Int))).run Try.prog w = .ok (.int q z) w := by
  have h0 : (j : Int) < 16 := by omega
  have hp := run_part_plain (P := Try.prog) (e := 2) (by kernel_rfl) (w := w) h
  have hs : (Go.sizeOf 2).run Try.prog w = .ok 1 w := by kernel_rfl
  simp [Instr.index, run_underlying Try.underlying56, asIntOf, hs, hp]
  intro h8
  omega

/-! ### Comparing -/
theorem eqItemsQ (P : Program) (d : Nat) (e : TypeId) (c : Nat) (xs ys : Array Value) (w : World) (f : Nat → Bool) : ∀ is : List Nat,
    (∀ i ∈ is, ∃ a b, (part e xs (i * c)).run P w = .ok a w ∧ (part e ys (i * c)).run P w = .ok b w ∧ (Op.equalIn d e a b).run P w = .ok (f i) w) → (Op.eqItems d e c xs ys is).run P w = .ok (is.all f) w
  | [], _ => by simp [Op.eqItems]
  | i :: is, h => by
    obtain ⟨a, b, h1, h2, h3⟩ := h i List.mem_cons_self
    have ih := eqItemsQ P d e c xs ys w f is fun j hj => h j (List.mem_cons_of_mem _ hj)
    simp only [Op.eqItems, Sem.run_bind, h1, h2, h3, Result.andThen_ok, List.all_cons]
    cases f i
    · simp
    · simpa using ih
theorem infoHasQ {t : TypeId} {n : Nat} (h : (Try.prog.info? t).map (·.size) = some n) : ∃ i, Try.prog.info? t = some i ∧ Try.prog.cellsOf t = n := by
  cases hq : Try.prog.info? t with
  | none => simp [hq] at h
  | some i => refine ⟨i, rfl, ?_⟩; simp [Program.cellsOf, hq] at h ⊢; exact h
theorem intZQ (w : World) (xs : Array Value) (o : Nat) (v : Value) (h : xs[o]? = some v) : (part 2 xs o).run Try.prog w = .ok v w :=
  run_part_plain w (by simp [Program.plainKey, Try.underlying2]) h
/-- Are two arrays equal? -/
def sameA (f g : Nat → Int) : Bool := (List.range 16).all fun i => f i == g i
theorem sameA_iff (f g : Nat → Int) : sameA f g = true ↔ ∀ i, i < 16 → f i = g i := by
  unfold sameA
  rw [List.all_eq_true]
  constructor
  · intro h i hi
    simpa using h i (List.mem_range.2 hi)
  · intro h i hi
    simpa using h i (List.mem_range.1 hi)
theorem eq_ar (f g : Nat → Int) (w : World) : (Op.equalIn 10000 56 (.agg (arK f)) (.agg (arK g))).run Try.prog w = .ok (sameA f g) w := by
  obtain ⟨z, hz, hc⟩ := infoHasQ (t := 2) (n := 1) (by kernel_rfl)
  rw [run_equalIn_array w 9999 _ _ Try.underlying56 hz, hc]
  refine eqItemsQ _ _ _ _ _ _ w _ _ fun j hj => ?_
  have hj := List.mem_range.1 hj
  have at_ : ∀ h : Nat → Int, (arK h)[j * 1]? = some (.int .i64 (h j)) := fun h => by rw [Nat.mul_one, arK_at h j hj]
  exact ⟨_, _, intZQ w _ _ _ (at_ f), intZQ w _ _ _ (at_ g), run_equalIn_int w 9998 2 .i64 .i64 _ _ Try.underlying2⟩
theorem guardQ : Try.prog.eqGuardType Try.prog.depth 56 = false := by kernel_rfl

/-! ### meet -/
/-- The lesser numbers, in the first k places. -/
def meetTo (f g : Nat → Int) (k : Nat) (i : Nat) : Int := if i < k then min (f i) (g i) else f i
def meetF (f g : Nat → Int) (i : Nat) : Int := min (f i) (g i)
theorem meetTo_step (f g : Nat → Int) (k : Nat) : updF (meetTo f g k) k (min (f k) (g k)) = meetTo f g (k + 1) := by
  funext i
  unfold updF meetTo
  by_cases e : i = k
  · subst e; rw [if_pos rfl, if_pos (by omega)]
  · rw [if_neg e]
    by_cases c : i < k
    · rw [if_pos c, if_pos (by omega)]
    · rw [if_neg c, if_neg (by omega)]
theorem meetTo_zero (f g : Nat → Int) : meetTo f g 0 = f := by
  funext i; unfold meetTo; rw [if_neg (by omega)]
structure Tri16 (w0 : World) (f : Nat → Int) (w : World) : Prop where
  bel : Below w0.heap.size w0 w
  a : ArAt w w0.heap.size f
  r : ArAt w (w0.heap.size + 1 + 1) zeroF

set_option maxHeartbeats 1000000 in
theorem meet_any (f g : Nat → Int) (w : World) : Calls Try.prog 64 #[.agg (arK f), .agg (arK g)] w (SaysA (meetF f g) w) := by
  have HI : Hid (∀ j : Nat, j < 16 → ∀ w : World, (Instr.index 56 (.agg (arK g)) (.int .i64 (j : Int))).run Try.prog w = .ok (.int .i64 (g j)) w) := Lib.hid fun j hj w => idxQ w _ j hj _ _ (arK_at g j hj)
  obtain ⟨w1, hw1⟩ : ∃ w1, w1 = (((w.alloc (.cells (arK f) 56)).alloc (.cells (arK g) 56)).alloc (.cells (arK zeroF) 56)) := ⟨_, rfl⟩
  have T1 : Hid (Tri16 w (meetTo f g 0) w1) := Lib.hid (by
    rw [hw1, meetTo_zero]
    refine ⟨(((Below.refl w.heap.size w).alloc (Nat.le_refl _) _).alloc (by simp) _).alloc (by simp; omega) _, ((ArAt.new w f).alloc _).alloc _, ?_⟩
    have := ArAt.new ((w.alloc (.cells (arK f) 56)).alloc (.cells (arK g) 56)) zeroF
    simpa using this)
  have Y1 : Hid (w1.rangeAt (w.heap.size + 1) 0 (arK g).toList) := Lib.hid (by
    rw [hw1]
    have := (ArAt.new (w.alloc (.cells (arK f) 56)) g).alloc (.cells (arK zeroF) 56)
    rw [World.size_alloc] at this
    exact this.range)
  have SY : Hid ((arK g).size = 16) := Lib.hid (arK_size g)
  rw [arK_zero] at hw1
  go_enter Try.func64, Try.ntmps64
  go_upto_region 1 with fail
  rw [← hw1]
  clear hw1
  generalize arK g = KY at *
  go_wp2_with (refine ldKQ rfl _ rfl (w.heap.size + 1) 0 rfl KY Y1.out SY.out ?_)
  go_loopw [5, 6, 8] (fun _ _ c wr => ∃ k : Nat, k ≤ 16 ∧ c = .int .i64 k ∧ Hid (Tri16 w (meetTo f g k) wr)) (fun _ _ c _ => 16 - (intOf c).toNat)
  case atStart => exact ⟨0, by omega, rfl, T1⟩
  case round =>
    clear T1 Y1
    obtain ⟨k, hk, rfl, hT⟩ := hrel
    by_cases hlt : k < 16
    · have hlt' : (k : Int) < 16 := by omega
      have hix := HI.out k hlt
      have c1 := hT.out.a.cell k hlt
      have f1 := hT.out.a.fr k
      have e1 : meetTo f g k k = f k := if_neg (Nat.lt_irrefl _)
      rw [e1] at c1
      have T2 : Hid (Tri16 w (meetTo f g (k + 1)) (wr.setCell ⟨w.heap.size, k, none⟩ (.int .i64 (min (f k) (g k))))) := Lib.hid ⟨hT.out.bel.setCell (p := ⟨w.heap.size, k, none⟩) (Nat.le_refl _) _, by rw [← meetTo_step f g k]; exact hT.out.a.set k hlt _, hT.out.r.other _ _ (by simp; omega)⟩
      clear e1 hT
      generalize f k = x at *
      generalize g k = y at *
      have emin : min x y = if y < x then y else x := by split <;> omega
      rw [emin] at T2
      clear emin
      by_cases hxy : y < x
      · rw [if_pos hxy] at T2
        go_wp2_with fail
        go_roundw
        case rel => exact ⟨k + 1, by omega, by go_num, T2⟩
        case measure => simp [intOf]; omega
      · rw [if_neg hxy] at T2
        go_wp2_with fail
        go_roundw
        case rel => exact ⟨k + 1, by omega, by go_num, T2⟩
        case measure => simp [intOf]; omega
    · obtain rfl : k = 16 := by omega
      have HR := Lib.hid hT.out.a.range
      have HO : Hid (wr.heap[w.heap.size + 1 + 1]? = some (.cells (arK zeroF) 56 (0, 0))) := Lib.hid hT.out.r
      have SZ := Lib.hid (sizeAr (meetTo f g 16))
      have S5 := Lib.hid (arK_size (meetTo f g 16))
      have S1 := Lib.hid (arK_one (meetTo f g 16))
      have SQ : Hid ((arK zeroF).size = (arK (meetTo f g 16)).size) := Lib.hid (by rw [arK_size, arK_size])
      have B3 := Lib.hid hT.out.bel
      have HE : arK (meetF f g) = arK (meetTo f g 16) := arK_congr fun i hi => by unfold meetF meetTo; rw [if_pos hi]
      clear hT
      obtain ⟨K, hK⟩ : ∃ K, arK (meetTo f g 16) = K := ⟨_, rfl⟩
      rw [hK] at HR SZ S5 SQ HE S1
      have HK : Hid (.agg (arK (meetF f g)) = Value.agg K) := Lib.hid (by rw [HE])
      clear hK HE
      go_wp2_with (first
        | (refine ldKQ rfl _ rfl w.heap.size 0 rfl K HR.out S5.out ?_)
        | (refine wpList_store_row rfl 56 _ _ rfl (w.heap.size + 1 + 1) K rfl rfl 56 _ HO.out SZ.out SQ.out S1.out ?_))
      refine bodyPost_ret (results_cell_row rfl _ _ (w.heap.size + 1 + 1) 56 K (0, 0) _ rfl (setRow_heap _ _ _ _ _ _ HO.out) Try.underlying56 rfl SZ.out) rfl ?_
      exact ⟨by rw [HK.out], below_setRow B3.out (by omega) _⟩

/-! ### isContainedIn -/
set_option maxHeartbeats 1000000 in
theorem isIn_any (f g : Nat → Int) (w : World) : Calls Try.prog 65 #[.agg (arK f), .agg (arK g)] w (SaysV (.bool (sameA (meetF f g) f)) w) := by
  obtain ⟨w1, hw1⟩ : ∃ w1, w1 = ((w.alloc (.cells (arK f) 56)).alloc (.cells (arK g) 56)) := ⟨_, rfl⟩
  have A1 : Hid (ArAt w1 w.heap.size f) := Lib.hid (by rw [hw1]; exact (ArAt.new w f).alloc _)
  have A2 : Hid (ArAt w1 (w.heap.size + 1) g) := Lib.hid (by rw [hw1]; have := ArAt.new (w.alloc (.cells (arK f) 56)) g; rw [World.size_alloc] at this; exact this)
  have B1 : Hid (Below w.heap.size w w1) := Lib.hid (by rw [hw1]; exact ((Below.refl _ w).alloc (Nat.le_refl _) _).alloc (by simp) _)
  have M := Lib.hid (fun wx => meet_any f g wx)
  have EQ : ∀ wx, (Op.equalIn 10000 56 (.agg (arK (meetF f g))) (.agg (arK f))).run Try.prog wx = .ok (sameA (meetF f g) f) wx := fun wx => eq_ar _ _ wx
  have G := guardQ
  have R1 := Lib.hid (fun wx (hb : Below w1.heap.size w1 wx) => (A1.out.up hb).range)
  have R2 := Lib.hid (fun wx (hb : Below w1.heap.size w1 wx) => (A2.out.up hb).range)
  have z1 : (Try.prog.info? 56).map (·.size) = some (arK f).toList.length := by rw [Array.length_toList]; exact sizeAr f
  have z2 : (Try.prog.info? 56).map (·.size) = some (arK g).toList.length := by rw [Array.length_toList]; exact sizeAr g
  have tq := Try.underlying56
  have tl1 : (arK f).toList.toArray = arK f := Array.toArray_toList
  have tl2 : (arK g).toList.toArray = arK g := Array.toArray_toList
  generalize sameA (meetF f g) f = b at *
  unfold SaysA at M
  generalize arK (meetF f g) = KM at *
  generalize arK f = KF at *
  generalize arK g = KG at *
  have y0 : Below w1.heap.size w1 w1.drew := (Below.refl _ _).drew
  clear A1 A2
  go_enter Try.func65, Try.ntmps65
  go_upto_region 1 with fail
  rw [← hw1]
  clear hw1
  refine wp_region_noPanic ?_
  refine wp_region_held_drew (S := fun wx => wx.rangeAt w.heap.size 0 KF.toList ∧ wx.rangeAt (w.heap.size + 1) 0 KG.toList ∧ Below w1.heap.size w1 wx) (by kernel_rfl) ⟨R1.out _ y0, R2.out _ y0, y0⟩ (fun hHeld => ?_)
  refine' wpAnyH_take (i := 0) (v := _) rfl (by kernel_rfl) (by kernel_rfl) (by kernel_rfl) (fun _ _ _ h => h) (yieldsIf_load_mid (by rfl) _ _ rfl _ _ rfl KF.toList _ (fun wx hw => hw.1) tq rfl z1) hHeld ?r0
  change wpAnyH _ _ _ _ _ _ _ { tmps := #[.agg KF, .agg KG, Value.pointer (some ⟨w.heap.size, 0, none⟩), Value.pointer (some ⟨w.heap.size + 1, 0, none⟩), .bool false, .agg KF, undef, undef, undef, undef], defers := [] } _
  refine' wpAnyH_take (i := 1) (v := _) rfl (by kernel_rfl) (by kernel_rfl) (by kernel_rfl) (fun _ _ _ h => h) (yieldsIf_load_mid (by rfl) _ _ rfl _ _ rfl KG.toList _ (fun wx hw => hw.2.1) tq rfl z2) hHeld ?r1
  change wpAnyH _ _ _ _ _ _ _ { tmps := #[.agg KF, .agg KG, Value.pointer (some ⟨w.heap.size, 0, none⟩), Value.pointer (some ⟨w.heap.size + 1, 0, none⟩), .bool false, .agg KF, .agg KG, undef, undef, undef], defers := [] } _
  refine' wpAnyH_take (i := 3) (v := _) rfl (by kernel_rfl) (by kernel_rfl) (by kernel_rfl) (fun _ _ _ h => h) (yieldsIf_load_mid (by rfl) _ _ rfl _ _ rfl KF.toList _ (fun wx hw => hw.1) tq rfl z1) hHeld ?r2
  change wpAnyH _ _ _ _ _ _ _ { tmps := #[.agg KF, .agg KG, Value.pointer (some ⟨w.heap.size, 0, none⟩), Value.pointer (some ⟨w.heap.size + 1, 0, none⟩), .bool false, .agg KF, .agg KG, undef, .agg KF, undef], defers := [] } _
  refine wpAnyH_ready (rs := [2]) (by kernel_rfl) (by simp) ?_
  refine AllReadyH.cons rfl (fun K hK => ?_) AllReadyH.nil
  go_simp
  go_at_call 64
  refine (M.out _).mono ?_
  rintro e wq ⟨rfl, bq⟩
  have y1 : Below w1.heap.size w1 wq := y0.trans bq
  have r1 := R1.out _ y1
  have r2 := R2.out _ y1
  have B2 : Hid (Below w.heap.size w wq) := Lib.hid (B1.out.trans (y1.mono B1.out.size))
  refine hK.out _ _ ⟨r1, r2, y1⟩ (fun hHeld => ?_)
  clear hK K
  refine wpAnyH_take (i := 4) (v := .bool b) rfl (by kernel_rfl) (by kernel_rfl) (by kernel_rfl) (fun _ _ _ h => h) (Or.inl ⟨by rfl, ?_⟩) hHeld ?_
  · intro wx hw
    go_simp
  change wpAnyH _ _ _ _ _ _ _ { tmps := #[.agg KF, .agg KG, Value.pointer (some ⟨w.heap.size, 0, none⟩), Value.pointer (some ⟨w.heap.size + 1, 0, none⟩), .bool false, .agg KF, .agg KG, .agg KM, .agg KF, .bool b], defers := [] } _
  refine wpAnyH_take (i := 5) (v := .bool b) rfl (by kernel_rfl) (by kernel_rfl) (by kernel_rfl) (fun _ _ _ h => h) (Or.inl ⟨by rfl, ?_⟩) hHeld ?_
  · intro wx hw
    go_simp
  change wpAnyH _ _ _ _ _ _ _ { tmps := #[.agg KF, .agg KG, Value.pointer (some ⟨w.heap.size, 0, none⟩), Value.pointer (some ⟨w.heap.size + 1, 0, none⟩), .bool b, .agg KF, .agg KG, .agg KM, .agg KF, .bool b], defers := [] } _
  refine wpAnyH_done (by kernel_rfl) (NoPanic.normal ?_) _
  go_wp2
  go_ret
  exact ⟨rfl, B2.out⟩

/-! ### numbers -/
set_option maxHeartbeats 1000000 in
theorem numbers_any (f : Nat → Int) (w : World) :
    Calls Try.prog 60 #[.agg (arK f)] w fun e w' => ∃ u, e = .returned u ∧ w'.ownsRow w.heap.size 2 1 u (trim (arL f)).length ((trim (arL f)).map (Value.int .i64)) ∧ Below w.heap.size w w' := by
  have M1 : Hid (ArAt (w.alloc (.cells (arK f) 56)) w.heap.size f) := Lib.hid (ArAt.new w f)
  have B1 : Hid (Below w.heap.size w (w.alloc (.cells (arK f) 56))) := Lib.hid ((Below.refl _ _).alloc (Nat.le_refl _) _)
  have TR := Lib.hid (fun oa oc wx B h => trimmed_any (arL f) B oa oc wx h (by rw [arL_len]; decide))
  rw [arL_len] at TR
  go_enter Try.func60, Try.ntmps60
  go_upto_region 1 with fail
  generalize (w.alloc (.cells (arK f) 56)) = w1 at *
  have CL := Lib.hid (cloneRd w.heap.size 0 (arL f) 16 w1 (by rw [arL_len]; decide) (fun j hj => by rw [Nat.zero_add, arL_at f j (by rw [arL_len] at hj; exact hj)]; exact M1.out.cell j (by rw [arL_len] at hj; exact hj)))
  rw [arL_len] at CL
  go_wp2_with fail
  refine CL.out.mono ?_
  rintro e w2 ⟨u, rfl, ho, b2⟩
  obtain ⟨oa, oc, rfl⟩ : ∃ a cap, u = .slice a 16 cap := by
    rcases ho.2 with ⟨rfl, h0⟩ | ⟨g, cap, cur, rfl, _⟩
    · exact absurd h0 (by decide)
    · exact ⟨_, cap, rfl⟩
  have HO := Lib.hid ho
  have B2 := Lib.hid (B1.out.trans (b2.mono B1.out.size))
  have HB := B1.out.size
  clear ho b2 CL
  go_wp2_with fail
  refine (TR.out oa oc w2 w1.heap.size HO.out).mono ?_
  rintro e w3 ⟨u3, rfl, rfl, h3⟩
  have H3 := Lib.hid h3
  clear h3
  go_wp2_with fail
  go_ret
  exact ⟨u3, rfl, own_base H3.out HB, B2.out⟩
end Go.Proofs.Ytcbfcpngpnlodaa
end
