/-
  (impl.wideTerm).term; slices.Clone of what reads as numbers.
-/
import Derived.Test.YthbibkehhnggfaaKWide
import Derived.Test.YthbibkehhnggfaaWOwn
namespace Go.Proofs.Ythbibkehhnggfaa
open Go.RowKit Go.Maps
set_option linter.unusedVariables false
set_option maxRecDepth 100000

theorem cloneRd (b off : Nat) (xs : List Int) (cap : Nat) (w : World) (hn : xs.length ≤ 1000000) (h : ∀ j, j < xs.length → w.cell? ⟨b, off + j, none⟩ = some (.int .i64 (xs[j]?.getD 0))) :
    Calls Try.prog 66 #[.slice (some ⟨b, off, none⟩) xs.length cap] w fun e w' => ∃ u, e = .returned u ∧ w'.ownsRow w.heap.size 2 1 u xs.length (xs.map (Value.int .i64)) ∧ Below w.heap.size w w' := by
  obtain ⟨i0, hi, hz0, hz1, hz2⟩ := info_parts Try.info2
  have H : Hid (∀ j u, (xs.map (Value.int .i64))[j]? = some u → (w.alloc (.cells #[] 2)).cell? ((⟨b, off, none⟩ : Addr).add j) = some u) := by
    refine Lib.hid fun j u hu => ?_
    rw [Addr.add_mid]
    rw [List.getElem?_map] at hu
    cases hx : xs[j]? with
    | none => rw [hx] at hu; cases hu
    | some x =>
      rw [hx] at hu
      have hj : j < xs.length := (List.getElem?_eq_some_iff.1 hx).1
      have h1 := h j hj
      simp only [hx, Option.getD_some] at h1
      have hbl := World.block_lt_of_cell? w _ h1
      rw [← Option.some.inj hu]
      exact (((Below.refl _ w).alloc (Nat.le_refl _) _).cell (p := ⟨b, off + j, none⟩) hbl).trans h1
  have q22 : ∀ (w : World) (a : Option Addr) (n c n' c' : Nat), (binOp .eql 41 (.slice a n c) (.slice none n' c')).run Try.prog w = .ok (.bool a.isNone) w := fun w a n c n' c' => Lib.run_eql_slice_nil w _ _ a n c n' c' Try.underlying41
  clear h
  go_enter Try.func66, Try.ntmps66
  go_wp2_with (at_builtin; refine wpList_append_own _ rfl _ _ 41 rfl w.heap.size 2 i0 (.int .i64 0) 1 8 Try.underlying41 hi hz0 hz1 hz2 rfl (by decide) _ _ _ rfl (World.ownsRow_made w #[] 0 (Nat.le_refl _) (Nat.zero_le _) (by simp)) ⟨b, off, none⟩ xs.length cap (xs.map (Value.int .i64)) rfl ?qc1 ?qc2 ?qc3 ?qc4 ?qc5 ?qc6 ?_)
  case qc1 => simp
  case qc2 => exact H.out
  case qc3 => exact ints_one xs
  case qc4 => unfold maxLen; omega
  case qc5 => omega
  case qc6 => simp
  intro v' w1 hown hgrow hnil
  have HO := Lib.hid hown
  have HG := Lib.hid hgrow
  clear hown hgrow hnil
  go_wp2
  go_ret
  refine ⟨v', rfl, by simpa using HO.out, ?_⟩
  exact ((Below.refl _ w).alloc (Nat.le_refl _) _).grown HG.out (by simp) (by intro k hk; simp [Value.ownBlock] at hk; omega)

theorem wideK_zero (xs : List Int) : (wideK xs)[0]? = some (.int .i64 xs.length) := by simp [wideK, wdA, wdI]
theorem wideK_at (xs : List Int) (j : Nat) (hj : j < xs.length) : (wideK xs)[1 + j]? = some (.int .i64 (xs[j]?.getD 0)) := by
  have e : (wideK xs)[1 + j]? = (xs.map (Value.int .i64) ++ List.replicate (20 - xs.length) (Value.int .i64 0))[j]? := by simp [wideK, wdA, wdI, Nat.add_comm 1 j]
  rw [e, List.getElem?_append_left (by simpa using hj)]
  simp [hj]

theorem termW_any (xs : List Int) (w : World) (h20 : xs.length ≤ 20) :
    Calls Try.prog 49 #[.agg (wideK xs)] w fun e w' => ∃ v, e = .returned v ∧ w'.ownsRow w.heap.size 2 1 v xs.length (xs.map (Value.int .i64)) ∧ Below w.heap.size w w' := by
  have c0 : (w.alloc (.cells (wideK xs) 68)).cell? ⟨w.heap.size, 0, none⟩ = some (.int .i64 xs.length) := by
    rw [cell_of_row _ w.heap.size 0 _ 68 (0, 0) (heap_alloc_new w _)]
    exact wideK_zero xs
  have CL := Lib.hid (cloneRd w.heap.size 1 xs 20 (w.alloc (.cells (wideK xs) 68)) (by omega) (fun j hj => by
    rw [cell_of_row _ w.heap.size (1 + j) _ 68 (0, 0) (heap_alloc_new w _)]
    exact wideK_at xs j hj))
  have HB := Lib.hid ((Below.refl _ w).alloc (Nat.le_refl _) (.cells (wideK xs) 68))
  obtain ⟨K, hK⟩ : ∃ K, wideK xs = K := ⟨_, rfl⟩
  rw [hK] at c0 CL HB ⊢
  clear hK
  have hl : (xs.length : Int) ≤ 20 := by omega
  generalize xs.length = n at *
  go_enter Try.func49, Try.ntmps49
  go_wp2_with (go_at_call 66; refine CL.out.mono ?_; rintro e w' ⟨u, rfl, ho, hb⟩)
  have HO := Lib.hid ho
  have HB2 := Lib.hid hb
  clear ho hb
  go_wp2
  go_ret
  exact ⟨_, rfl, own_base HO.out (by simp), HB.out.trans (HB2.out.mono (by simp))⟩
end Go.Proofs.Ythbibkehhnggfaa
