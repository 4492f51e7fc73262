/-
  impl.packTerm.
-/
import Derived.Test.YthbibkehhnggfaaKFit
import Derived.Laws.CopyOwn
namespace Go.Proofs.Ythbibkehhnggfaa
open Go.RowKit Go.Maps
set_option linter.unusedVariables false
set_option maxRecDepth 100000

theorem wrap8 (z : Int) (h0 : 0 ≤ z) (h1 : z ≤ 255) : IntKind.u8.wrap z = z := by rw [IntKind.wrap_u8]; omega

theorem packTerm_any (v : Value) (xs : List Int) (w : World) (h : RdL w v xs) (hf : fits xs) :
    Calls Try.prog 60 #[v] w fun e w' => e = .returned (.agg (packK xs)) ∧ Below w.heap.size w w' := by
  have hsz := pkA_size xs xs.length
  have hone : (packK xs).all (·.oneCell') = true := (packK_ok xs hf).one
  obtain ⟨a, cap, rfl, hm, ha⟩ := h
  obtain ⟨h8, hf⟩ := hf
  unfold maxLen at hm
  have HF := Lib.hid hf
  have HSZ : Hid ((packK xs).size = 8) := Lib.hid hsz
  have HONE := Lib.hid hone
  have HA : Hid (∀ i, i < xs.length → ∃ b off, a = some ⟨b, off, none⟩ ∧ ((w.alloc (.cells #[Value.int .u8 0, Value.int .u8 0, Value.int .u8 0, Value.int .u8 0, Value.int .u8 0, Value.int .u8 0, Value.int .u8 0, Value.int .u8 0] 63)).alloc (.cells (pkA xs i) 63)).cell? ⟨b, off + i, none⟩ = some (.int .i64 (xs[i]?.getD 0))) := by
    refine Lib.hid fun i hi => ?_
    obtain ⟨b, off, e, hc⟩ := ha.resolve_left (by omega)
    refine ⟨b, off, e, ?_⟩
    have hb := World.block_lt_of_cell? w _ (hc i hi)
    exact ((((Below.refl _ w).alloc (Nat.le_refl _) _).alloc (by simp) _).cell (p := ⟨b, off + i, none⟩) hb).trans (hc i hi)
  clear hf ha hsz hone
  go_enter Try.func60, Try.ntmps60
  go_wp2
  go_loopw [4, 5, 8] (fun _ _ c wr => ∃ k : Nat, k ≤ xs.length ∧ c = .int .i64 k ∧ Hid (wr = (w.alloc (.cells #[Value.int .u8 0, Value.int .u8 0, Value.int .u8 0, Value.int .u8 0, Value.int .u8 0, Value.int .u8 0, Value.int .u8 0, Value.int .u8 0] 63)).alloc (.cells (pkA xs k) 63))) (fun _ _ c _ => xs.length - (intOf c).toNat)
  case atStart => exact ⟨0, Nat.zero_le _, rfl, Lib.hid (by rw [pkA_zero])⟩
  case round =>
    obtain ⟨k, hk, rfl, hw⟩ := hrel
    by_cases h1 : k < xs.length
    · have h1' : (k : Int) < (xs.length : Int) := by omega
      have hk8 : (k : Int) < 8 := by omega
      obtain ⟨b, off, rfl, hc⟩ := HA.out k h1
      obtain ⟨h2, h3⟩ := HF.out k h1
      have hset := Lib.hid (pkA_set xs k (by omega))
      have hsz := pkA_size xs k
      have e := hw.out
      clear hw
      have hcell : wr.cell? ⟨w.heap.size + 1, k, none⟩ = some ((pkA xs k)[k]?.getD undef) := by
        rw [e]
        have hh := heap_alloc2_new w (.cells #[Value.int .u8 0, Value.int .u8 0, Value.int .u8 0, Value.int .u8 0, Value.int .u8 0, Value.int .u8 0, Value.int .u8 0, Value.int .u8 0] 63) (.cells (pkA xs k) 63)
        rw [cell_of_row _ (w.heap.size + 1) k (pkA xs k) 63 (0, 0) hh]
        have : k < (pkA xs k).size := by omega
        simp [this]
      have hfro : wr.frozen? ⟨w.heap.size + 1, k, none⟩ = false := by
        rw [e]
        exact World.frozen?_alloc2_new _ _ _ _
      have hW : wr.setCell ⟨w.heap.size + 1, k, none⟩ (.int .u8 (xs[k]?.getD 0 + 1)) = (w.alloc (.cells #[Value.int .u8 0, Value.int .u8 0, Value.int .u8 0, Value.int .u8 0, Value.int .u8 0, Value.int .u8 0, Value.int .u8 0, Value.int .u8 0] 63)).alloc (.cells (pkA xs (k + 1)) 63) := by
        rw [e, ← hset.out]
        have := World.setCell_alloc_new (w := w.alloc (.cells #[Value.int .u8 0, Value.int .u8 0, Value.int .u8 0, Value.int .u8 0, Value.int .u8 0, Value.int .u8 0, Value.int .u8 0, Value.int .u8 0] 63)) (pkA xs k) 63 k (.int .u8 (xs[k]?.getD 0 + 1))
        simpa using this
      rw [← e] at hc
      have HW := Lib.hid hW
      clear hW e hset hsz
      have w1 : IntKind.i64.wrap (xs[k]?.getD 0 + 1) = xs[k]?.getD 0 + 1 := by rw [IntKind.wrap_i64]; omega
      have w2 : IntKind.u8.wrap (xs[k]?.getD 0 + 1) = xs[k]?.getD 0 + 1 := wrap8 _ (by omega) (by omega)
      generalize xs[k]?.getD 0 = x at hc HW w1 w2
      generalize (pkA xs k)[k]?.getD undef = old at hcell
      clear h2 h3
      go_wp2
      go_roundw
      case rel => exact ⟨k + 1, by omega, by go_num, Lib.hid HW.out⟩
      case measure => simp [intOf]; omega
    · have h1' : ¬ (k : Int) < (xs.length : Int) := by omega
      have e : k = xs.length := by omega
      subst e
      have hw1 := hw.out
      clear hw
      have hnew : wr.rangeAt (w.heap.size + 1) 0 (packK xs).toList := by
        rw [hw1]
        have := loadNewP (w.alloc (.cells #[Value.int .u8 0, Value.int .u8 0, Value.int .u8 0, Value.int .u8 0, Value.int .u8 0, Value.int .u8 0, Value.int .u8 0, Value.int .u8 0] 63)) (packK xs) HSZ.out
        simpa [packK] using this
      have hold : wr.heap[w.heap.size]? = some (.cells #[Value.int .u8 0, Value.int .u8 0, Value.int .u8 0, Value.int .u8 0, Value.int .u8 0, Value.int .u8 0, Value.int .u8 0, Value.int .u8 0] 63 (0, 0)) := by
        rw [hw1]; exact heap_alloc2_old _ _ _
      have hbel : Below w.heap.size w wr := by
        rw [hw1]; exact ((Below.refl _ w).alloc (Nat.le_refl _) _).alloc (by simp) _
      have HN := Lib.hid hnew
      have HO := Lib.hid hold
      have HB := Lib.hid hbel
      clear hw1 hnew hold hbel
      obtain ⟨K, hK⟩ : ∃ K, packK xs = K := ⟨_, rfl⟩
      rw [hK] at HSZ HONE HN
      have HK := Lib.hid hK
      clear hK
      go_wp2_with (first
        | (refine ldKP rfl _ rfl (w.heap.size + 1) 0 rfl K HN.out HSZ.out ?_)
        | (refine wpList_store_row rfl 63 _ _ rfl w.heap.size K rfl rfl 63 _ HO.out (by rw [sizeP, HSZ.out]) (by rw [HSZ.out]; rfl) HONE.out ?_))
      refine bodyPost_ret (results_cell_row rfl _ _ w.heap.size 63 K (0, 0) _ rfl (setRow_heap _ _ _ _ _ _ HO.out) Try.underlying63 rfl (by rw [sizeP, HSZ.out])) rfl ?_
      exact ⟨by rw [HK.out], below_setRow HB.out (Nat.le_refl _) _⟩
end Go.Proofs.Ythbibkehhnggfaa
