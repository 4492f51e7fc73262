/-
  Joined: KFit, KPack, KSumW.
-/
import Derived.Test.YtldlpeohdindaaaZeneratorForm15
import Derived.Test.YtldlpeohdindaaaZeneratorForm02
import Derived.Deep.MidRow
import Derived.Laws.Tables
import Derived.Laws.CopyOwn
import Derived.Test.YtldlpeohdindaaaZeneratorForm03
import Derived.BigRegion
section
namespace Go.Proofs.Ytldlpeohdindaaa
open Go.RowKit Go.Maps
set_option linter.unusedVariables false
set_option maxRecDepth 100000

/-- A term that fits into eight bytes. -/
def fits (xs : List Int) : Prop := xs.length ≤ 8 ∧ ∀ i, i < xs.length → 0 ≤ xs[i]?.getD 0 ∧ xs[i]?.getD 0 ≤ 254
instance (xs : List Int) : Decidable (fits xs) := by unfold fits; infer_instance

theorem fits_yes (v : Value) (xs : List Int) (w : World) (h : RdL w v xs) (hf : fits xs) :
    Calls Try.prog 76 #[v] w fun e w' => e = .returned (.bool true) ∧ w' = w := by
  obtain ⟨a, cap, rfl, hm, ha⟩ := h
  obtain ⟨h8, hf⟩ := hf
  unfold maxLen at hm
  have h8' : ¬ (8 : Int) < (xs.length : Int) := by omega
  have HF := Lib.hid hf
  have HA : Hid (∀ i, i < xs.length → ∃ b off, a = some ⟨b, off, none⟩ ∧ w.cell? ⟨b, off + i, none⟩ = some (.int .i64 (xs[i]?.getD 0))) := by
    refine Lib.hid fun i hi => ?_
    obtain ⟨b, off, e, hc⟩ := ha.resolve_left (by omega)
    exact ⟨b, off, e, hc i hi⟩
  clear hf ha
  go_enter Try.func76, Try.ntmps76
  go_wp2
  go_loop [2, 4, 10] (fun _ _ c => ∃ k : Nat, k ≤ xs.length ∧ c = .int .i64 k) (fun _ _ c => xs.length - (intOf c).toNat)
  case atStart => exact ⟨0, Nat.zero_le _, rfl⟩
  case round =>
    obtain ⟨k, hk, rfl⟩ := hrel
    by_cases h1 : k < xs.length
    · have h1' : (k : Int) < (xs.length : Int) := by omega
      obtain ⟨b, off, rfl, hc⟩ := HA.out k h1
      obtain ⟨h2, h3⟩ := HF.out k h1
      have h2' : ¬ xs[k]?.getD 0 < 0 := by omega
      have h3' : ¬ 254 < xs[k]?.getD 0 := by omega
      generalize xs[k]?.getD 0 = x at hc h2' h3'
      clear h2 h3
      go_wp2
      go_round
      case rel => exact ⟨k + 1, by omega, by go_num⟩
      case measure => simp [intOf]; omega
    · have h1' : ¬ (k : Int) < (xs.length : Int) := by omega
      go_wp2
      go_ret
      exact ⟨rfl, rfl⟩

theorem fits_no (v : Value) (xs : List Int) (w : World) (h : RdL w v xs) (hf : ¬ fits xs) :
    Calls Try.prog 76 #[v] w fun e w' => e = .returned (.bool false) ∧ w' = w := by
  obtain ⟨a, cap, rfl, hm, ha⟩ := h
  unfold maxLen at hm
  by_cases h8 : xs.length ≤ 8
  · have h8' : ¬ (8 : Int) < (xs.length : Int) := by omega
    have hf : ¬ ∀ i, i < xs.length → 0 ≤ xs[i]?.getD 0 ∧ xs[i]?.getD 0 ≤ 254 := fun h => hf ⟨h8, h⟩
    have HF := Lib.hid hf
    have HA : Hid (∀ i, i < xs.length → ∃ b off, a = some ⟨b, off, none⟩ ∧ w.cell? ⟨b, off + i, none⟩ = some (.int .i64 (xs[i]?.getD 0))) := by
      refine Lib.hid fun i hi => ?_
      obtain ⟨b, off, e, hc⟩ := ha.resolve_left (by omega)
      exact ⟨b, off, e, hc i hi⟩
    clear hf ha
    go_enter Try.func76, Try.ntmps76
    go_wp2
    go_loop [2, 4, 10] (fun _ _ c => ∃ k : Nat, k ≤ xs.length ∧ c = .int .i64 k ∧ Hid (∀ i, i < k → 0 ≤ xs[i]?.getD 0 ∧ xs[i]?.getD 0 ≤ 254)) (fun _ _ c => xs.length - (intOf c).toNat)
    case atStart => exact ⟨0, Nat.zero_le _, rfl, Lib.hid fun i hi => absurd hi (Nat.not_lt_zero _)⟩
    case round =>
      obtain ⟨k, hk, rfl, hP⟩ := hrel
      by_cases h1 : k < xs.length
      · have h1' : (k : Int) < (xs.length : Int) := by omega
        obtain ⟨b, off, rfl, hc⟩ := HA.out k h1
        by_cases h2' : xs[k]?.getD 0 < 0
        · generalize xs[k]?.getD 0 = x at hc h2'
          go_wp2
          go_ret
          exact ⟨rfl, rfl⟩
        · by_cases h3' : 254 < xs[k]?.getD 0
          · generalize xs[k]?.getD 0 = x at hc h2' h3'
            go_wp2
            go_ret
            exact ⟨rfl, rfl⟩
          · have hP2 : Hid (∀ i, i < k + 1 → 0 ≤ xs[i]?.getD 0 ∧ xs[i]?.getD 0 ≤ 254) := Lib.hid fun i hi => by
              by_cases e : i = k
              · subst e; omega
              · exact hP.out i (by omega)
            generalize xs[k]?.getD 0 = x at hc h2' h3'
            go_wp2
            go_round
            case rel => exact ⟨k + 1, by omega, by go_num, hP2⟩
            case measure => simp [intOf]; omega
      · exact absurd (fun i hi => hP.out i (by omega)) HF.out
  · have h8' : (8 : Int) < (xs.length : Int) := by omega
    clear ha
    go_enter Try.func76, Try.ntmps76
    go_wp2
    go_ret
    exact ⟨rfl, rfl⟩

theorem fits_any (v : Value) (xs : List Int) (w : World) (h : RdL w v xs) :
    Calls Try.prog 76 #[v] w fun e w' => e = .returned (.bool (decide (fits xs))) ∧ w' = w := by
  by_cases hf : fits xs
  · rw [decide_eq_true hf]; exact fits_yes v xs w h hf
  · rw [decide_eq_false hf]; exact fits_no v xs w h hf

/-- The cells of a packed term: each number and one, then zeros. -/
def pkI (xs : List Int) (n : Nat) : List Int := (List.range 8).map fun j => if j < n then xs[j]?.getD 0 + 1 else 0
def pkA (xs : List Int) (n : Nat) : Array Value := ((pkI xs n).map (Value.int .u8)).toArray
theorem pkI_len (xs : List Int) (n : Nat) : (pkI xs n).length = 8 := by simp [pkI]
theorem pkA_size (xs : List Int) (n : Nat) : (pkA xs n).size = 8 := by simp [pkA, pkI]
theorem pkA_zero (xs : List Int) : pkA xs 0 = #[Value.int .u8 0, Value.int .u8 0, Value.int .u8 0, Value.int .u8 0, Value.int .u8 0, Value.int .u8 0, Value.int .u8 0, Value.int .u8 0] := by
  simp [pkA, pkI, List.range, List.range.loop]
theorem pkA_set (xs : List Int) (n : Nat) (hn : n < 8) : (pkA xs n).setIfInBounds n (.int .u8 (xs[n]?.getD 0 + 1)) = pkA xs (n + 1) := by
  apply Array.ext_getElem?
  intro j
  rw [Array.getElem?_setIfInBounds]
  by_cases hj : j < 8
  · by_cases e : n = j
    · subst e
      simp [pkA, pkI, hj]
    · have : (j < n + 1) ↔ (j < n) := by omega
      simp [pkA, pkI, hj, e, this]
  · have e : n ≠ j := by omega
    simp [pkA, pkI, e, hj]

def packK (xs : List Int) : Array Value := pkA xs xs.length
theorem packK_ok (xs : List Int) (hf : fits xs) : KOKP (packK xs) := keyP_mk _ (pkI_len _ _) (fun z hz => by
  obtain ⟨j, hj, rfl⟩ := List.mem_map.1 hz
  split
  · rename_i h
    obtain ⟨h1, h2⟩ := hf.2 j h
    have e1 : (0 : Int) ≤ xs[j]?.getD 0 + 1 := by omega
    have e2 : xs[j]?.getD 0 + 1 ≤ (255 : Int) := by omega
    exact (Bool.and_eq_true _ _).mpr ⟨decide_eq_true e1, decide_eq_true e2⟩
  · rfl)
end Go.Proofs.Ytldlpeohdindaaa
end
section
namespace Go.Proofs.Ytldlpeohdindaaa
open Go.RowKit Go.Maps
set_option linter.unusedVariables false
set_option maxRecDepth 100000

theorem wrap8 (z : Int) (h0 : 0 ≤ z) (h1 : z ≤ 255) : IntKind.u8.wrap z = z := by rw [IntKind.wrap_u8]; omega

theorem packTerm_any (v : Value) (xs : List Int) (w : World) (h : RdL w v xs) (hf : fits xs) :
    Calls Try.prog 77 #[v] w fun e w' => e = .returned (.agg (packK xs)) ∧ Below w.heap.size w w' := by
  have hsz := pkA_size xs xs.length
  have hone : (packK xs).all (·.oneCell') = true := (packK_ok xs hf).one
  obtain ⟨a, cap, rfl, hm, ha⟩ := h
  obtain ⟨h8, hf⟩ := hf
  unfold maxLen at hm
  have HF := Lib.hid hf
  have HSZ : Hid ((packK xs).size = 8) := Lib.hid hsz
  have HONE := Lib.hid hone
  have HA : Hid (∀ i, i < xs.length → ∃ b off, a = some ⟨b, off, none⟩ ∧ ((w.alloc (.cells #[Value.int .u8 0, Value.int .u8 0, Value.int .u8 0, Value.int .u8 0, Value.int .u8 0, Value.int .u8 0, Value.int .u8 0, Value.int .u8 0] 72)).alloc (.cells (pkA xs i) 72)).cell? ⟨b, off + i, none⟩ = some (.int .i64 (xs[i]?.getD 0))) := by
    refine Lib.hid fun i hi => ?_
    obtain ⟨b, off, e, hc⟩ := ha.resolve_left (by omega)
    refine ⟨b, off, e, ?_⟩
    have hb := World.block_lt_of_cell? w _ (hc i hi)
    exact ((((Below.refl _ w).alloc (Nat.le_refl _) _).alloc (by simp) _).cell (p := ⟨b, off + i, none⟩) hb).trans (hc i hi)
  clear hf ha hsz hone
  go_enter Try.func77, Try.ntmps77
  go_wp2
  go_loopw [4, 5, 8] (fun _ _ c wr => ∃ k : Nat, k ≤ xs.length ∧ c = .int .i64 k ∧ Hid (wr = (w.alloc (.cells #[Value.int .u8 0, Value.int .u8 0, Value.int .u8 0, Value.int .u8 0, Value.int .u8 0, Value.int .u8 0, Value.int .u8 0, Value.int .u8 0] 72)).alloc (.cells (pkA xs k) 72))) (fun _ _ c _ => xs.length - (intOf c).toNat)
  case atStart => exact ⟨0, Nat.zero_le _, rfl, Lib.hid (by rw [pkA_zero])⟩
  case round =>
    obtain ⟨k, hk, rfl, hw⟩ := hrel
    by_cases h1 : k < xs.length
    · have h1' : (k : Int) < (xs.length : Int) := by omega
      have hk8 : (k : Int) < 8 := by omega
      obtain ⟨b, off, rfl, hc⟩ := HA.out k h1
      obtain ⟨h2, h3⟩ := HF.out k h1
      have hset := Lib.hid (pkA_set xs k (by omega))
      have hsz := pkA_size xs k
      have e := hw.out
      clear hw
      have hcell : wr.cell? ⟨w.heap.size + 1, k, none⟩ = some ((pkA xs k)[k]?.getD undef) := by
        rw [e]
        have hh := heap_alloc2_new w (.cells #[Value.int .u8 0, Value.int .u8 0, Value.int .u8 0, Value.int .u8 0, Value.int .u8 0, Value.int .u8 0, Value.int .u8 0, Value.int .u8 0] 72) (.cells (pkA xs k) 72)
        rw [cell_of_row _ (w.heap.size + 1) k (pkA xs k) 72 (0, 0) hh]
        have : k < (pkA xs k).size := by omega
        simp [this]
      have hfro : wr.frozen? ⟨w.heap.size + 1, k, none⟩ = false := by
        rw [e]
        exact World.frozen?_alloc2_new _ _ _ _
      have hW : wr.setCell ⟨w.heap.size + 1, k, none⟩ (.int .u8 (xs[k]?.getD 0 + 1)) = (w.alloc (.cells #[Value.int .u8 0, Value.int .u8 0, Value.int .u8 0, Value.int .u8 0, Value.int .u8 0, Value.int .u8 0, Value.int .u8 0, Value.int .u8 0] 72)).alloc (.cells (pkA xs (k + 1)) 72) := by
        rw [e, ← hset.out]
        have := World.setCell_alloc_new (w := w.alloc (.cells #[Value.int .u8 0, Value.int .u8 0, Value.int .u8 0, Value.int .u8 0, Value.int .u8 0, Value.int .u8 0, Value.int .u8 0, Value.int .u8 0] 72)) (pkA xs k) 72 k (.int .u8 (xs[k]?.getD 0 + 1))
        simpa using this
      rw [← e] at hc
      have HW := Lib.hid hW
      clear hW e hset hsz
      have w1 : IntKind.i64.wrap (xs[k]?.getD 0 + 1) = xs[k]?.getD 0 + 1 := by rw [IntKind.wrap_i64]; omega
      have w2 : IntKind.u8.wrap (xs[k]?.getD 0 + 1) = xs[k]?.getD 0 + 1 := wrap8 _ (by omega) (by omega)
      generalize xs[k]?.getD 0 = x at hc HW w1 w2
      generalize (pkA xs k)[k]?.getD undef = old at hcell
      clear h2 h3
      go_wp2
      go_roundw
      case rel => exact ⟨k + 1, by omega, by go_num, Lib.hid HW.out⟩
      case measure => simp [intOf]; omega
    · have h1' : ¬ (k : Int) < (xs.length : Int) := by omega
      have e : k = xs.length := by omega
      subst e
      have hw1 := hw.out
      clear hw
      have hnew : wr.rangeAt (w.heap.size + 1) 0 (packK xs).toList := by
        rw [hw1]
        have := loadNewP (w.alloc (.cells #[Value.int .u8 0, Value.int .u8 0, Value.int .u8 0, Value.int .u8 0, Value.int .u8 0, Value.int .u8 0, Value.int .u8 0, Value.int .u8 0] 72)) (packK xs) HSZ.out
        simpa [packK] using this
      have hold : wr.heap[w.heap.size]? = some (.cells #[Value.int .u8 0, Value.int .u8 0, Value.int .u8 0, Value.int .u8 0, Value.int .u8 0, Value.int .u8 0, Value.int .u8 0, Value.int .u8 0] 72 (0, 0)) := by
        rw [hw1]; exact heap_alloc2_old _ _ _
      have hbel : Below w.heap.size w wr := by
        rw [hw1]; exact ((Below.refl _ w).alloc (Nat.le_refl _) _).alloc (by simp) _
      have HN := Lib.hid hnew
      have HO := Lib.hid hold
      have HB := Lib.hid hbel
      clear hw1 hnew hold hbel
      obtain ⟨K, hK⟩ : ∃ K, packK xs = K := ⟨_, rfl⟩
      rw [hK] at HSZ HONE HN
      have HK := Lib.hid hK
      clear hK
      go_wp2_with (first
        | (refine ldKP rfl _ rfl (w.heap.size + 1) 0 rfl K HN.out HSZ.out ?_)
        | (refine wpList_store_row rfl 72 _ _ rfl w.heap.size K rfl rfl 72 _ HO.out (by rw [sizeP, HSZ.out]) (by rw [HSZ.out]; rfl) HONE.out ?_))
      refine bodyPost_ret (results_cell_row rfl _ _ w.heap.size 72 K (0, 0) _ rfl (setRow_heap _ _ _ _ _ _ HO.out) Try.underlying72 rfl (by rw [sizeP, HSZ.out])) rfl ?_
      exact ⟨by rw [HK.out], below_setRow HB.out (Nat.le_refl _) _⟩
end Go.Proofs.Ytldlpeohdindaaa
end
section
namespace Go.Proofs.Ytldlpeohdindaaa
open Go.RowKit Go.Maps
set_option linter.unusedVariables false
set_option maxRecDepth 100000

theorem keyedW : Keyed Try.prog 89 := Keyed.of_law (deep_law_laid laidP (m := 3) (by omega) (of_decide_eq_true (by kernel_rfl)) (by kernel_rfl) (by kernel_rfl))
theorem sizeW : (Try.prog.info? 89).map (·.size) = some 21 := by kernel_rfl

theorem listW {zs : List Int} (h : zs.length = 21) : ∃ z0 z1 z2 z3 z4 z5 z6 z7 z8 z9 z10 z11 z12 z13 z14 z15 z16 z17 z18 z19 z20, zs = [z0, z1, z2, z3, z4, z5, z6, z7, z8, z9, z10, z11, z12, z13, z14, z15, z16, z17, z18, z19, z20] := by
  match zs, h with
  | [z0, z1, z2, z3, z4, z5, z6, z7, z8, z9, z10, z11, z12, z13, z14, z15, z16, z17, z18, z19, z20], _ => exact ⟨z0, z1, z2, z3, z4, z5, z6, z7, z8, z9, z10, z11, z12, z13, z14, z15, z16, z17, z18, z19, z20, rfl⟩

/-- A key's cells. -/
structure KOKW (k : Array Value) : Prop where
  ints : ∃ zs : List Int, zs.length = 21 ∧ k = (zs.map (Value.int .i64)).toArray
  key : ∃ l, keyOf Try.prog 89 (.agg k) = some l
theorem KOKW.lit {k : Array Value} (h : KOKW k) : ∃ z0 z1 z2 z3 z4 z5 z6 z7 z8 z9 z10 z11 z12 z13 z14 z15 z16 z17 z18 z19 z20 : Int, k = #[Value.int .i64 z0, Value.int .i64 z1, Value.int .i64 z2, Value.int .i64 z3, Value.int .i64 z4, Value.int .i64 z5, Value.int .i64 z6, Value.int .i64 z7, Value.int .i64 z8, Value.int .i64 z9, Value.int .i64 z10, Value.int .i64 z11, Value.int .i64 z12, Value.int .i64 z13, Value.int .i64 z14, Value.int .i64 z15, Value.int .i64 z16, Value.int .i64 z17, Value.int .i64 z18, Value.int .i64 z19, Value.int .i64 z20] := by
  obtain ⟨zs, hz, e⟩ := h.ints
  obtain ⟨z0, z1, z2, z3, z4, z5, z6, z7, z8, z9, z10, z11, z12, z13, z14, z15, z16, z17, z18, z19, z20, rfl⟩ := listW hz
  exact ⟨z0, z1, z2, z3, z4, z5, z6, z7, z8, z9, z10, z11, z12, z13, z14, z15, z16, z17, z18, z19, z20, e⟩

/-- v reads as the keys ks. -/
def RdW (w : World) (v : Value) (ks : List (Array Value)) : Prop :=
  ∃ a cap, v = .slice a ks.length cap ∧ ks.length ≤ maxLen ∧ (ks.length = 0 ∨ ∃ b off, a = some ⟨b, off, none⟩ ∧ b < w.heap.size ∧ ∀ i, i < ks.length → w.rangeAt b (off + i * 21) (ks[i]?.getD #[]).toList)
theorem RdW.below {w w' : World} {v : Value} {ks : List (Array Value)} (h : RdW w v ks) (k : Below w.heap.size w w') : RdW w' v ks := by
  obtain ⟨a, cap, e, hm, hc⟩ := h
  refine ⟨a, cap, e, hm, ?_⟩
  rcases hc with h0 | ⟨b, off, e, hb, hc⟩
  · exact .inl h0
  · exact .inr ⟨b, off, e, Nat.lt_of_lt_of_le hb k.size, fun i hi j u hj => (k.cell (p := ⟨b, off + i * 21 + j, none⟩) hb).trans (hc i hi j u hj)⟩

theorem loadW (w : World) (b o : Nat) (k : Array Value) (h : w.rangeAt b o k.toList) (hs : k.size = 21) : (Instr.loadAt 89 (.pointer (some ⟨b, o, none⟩))).run Try.prog w = .ok (.agg k) w := by
  have := run_loadAt_mid w b o 89 k.toList _ h Try.underlying89 rfl (by rw [sizeW]; simp [hs])
  simpa using this
theorem KOKW.size {k : Array Value} (h : KOKW k) : k.size = 21 := by
  obtain ⟨zs, hz, rfl⟩ := h.ints
  simp [hz]
theorem KOKW.one {k : Array Value} (h : KOKW k) : k.all (·.oneCell') = true := by
  obtain ⟨zs, hz, rfl⟩ := h.ints
  simp [Value.oneCell']

theorem loadCW (w : World) (b o : Nat) (k : Array Value) (h : w.rangeAt b o k.toList) (hs : k.size = 21) : (loadCellsFrom ⟨b, o, none⟩ 0 21 #[]).run Try.prog w = .ok k w := by
  have := run_loadCells_list (P := Try.prog) w ⟨b, o, none⟩ k.toList (fun j v hv => by rw [Addr.add_mid]; exact h j v hv)
  simpa [loadCells, hs] using this
theorem loadNewW (w : World) (k : Array Value) (hs : k.size = 21) : (w.alloc (.cells k 89)).rangeAt w.heap.size 0 k.toList := by
  intro j v hv
  rw [Nat.zero_add, cell_of_row _ w.heap.size j k 89 (0, 0) (heap_alloc_new w _)]
  simpa using hv

/-- A key is loaded whole. -/
theorem ldKW {ops : Array Oper} {rest : List Oper} {op : Oper} {a : Act} {w : World} {Q : Exit → Act → World → Prop} (hgd : op.guard = none) (x : Operand) (ho : op.op = .load 89 x)
    (b o : Nat) (hx : a.eval x = .pointer (some ⟨b, o, none⟩)) (k : Array Value) (hc : w.rangeAt b o k.toList) (hs : k.size = 21) (h : wpList Try.prog ops Q rest (a.put op.dst (.agg k)) w) : wpList Try.prog ops Q (op :: rest) a w :=
  wpList_load_mid hgd 89 x ho b o hx k.toList _ hc Try.underlying89 rfl (by rw [sizeW]; simp [hs]) (by simpa using h)
/-- A key is stored into the variable that was made last. -/
theorem stKW {ops : Array Oper} {rest : List Oper} {op : Oper} {a : Act} {Q : Exit → Act → World → Prop} (w : World) (hgd : op.guard = none) (x y : Operand) (ho : op.op = .store 89 x y)
    (hx : a.eval x = .pointer (some ⟨w.heap.size, 0, none⟩)) (k : Array Value) (hy : a.eval y = .agg k) (hs : k.size = 21) (h1 : k.all (·.oneCell') = true)
    (h : wpList Try.prog ops Q rest (a.put op.dst undef) (w.alloc (.cells k 89))) : wpList Try.prog ops Q (op :: rest) a (w.alloc (.cells #[Value.int .i64 0, Value.int .i64 0, Value.int .i64 0, Value.int .i64 0, Value.int .i64 0, Value.int .i64 0, Value.int .i64 0, Value.int .i64 0, Value.int .i64 0, Value.int .i64 0, Value.int .i64 0, Value.int .i64 0, Value.int .i64 0, Value.int .i64 0, Value.int .i64 0, Value.int .i64 0, Value.int .i64 0, Value.int .i64 0, Value.int .i64 0, Value.int .i64 0, Value.int .i64 0] 89)) := by
  refine wpList_plain hgd fun K' hK' => ?_
  unfold Oper.wp execOp
  simp only [ho, hx, hy, run_storeAt_new (P := Try.prog) w 89 #[Value.int .i64 0, Value.int .i64 0, Value.int .i64 0, Value.int .i64 0, Value.int .i64 0, Value.int .i64 0, Value.int .i64 0, Value.int .i64 0, Value.int .i64 0, Value.int .i64 0, Value.int .i64 0, Value.int .i64 0, Value.int .i64 0, Value.int .i64 0, Value.int .i64 0, Value.int .i64 0, Value.int .i64 0, Value.int .i64 0, Value.int .i64 0, Value.int .i64 0, Value.int .i64 0] k (by rw [sizeW, hs]) (by rw [hs]; rfl) h1, Sem.run_bind, Sem.run_pure, Result.andThen_ok]
  exact hK' _ _ h

/-- The state between two rounds. -/
structure StW (w : World) (va vb : Value) (p : List (Array Value)) (wr : World) : Prop where
  map : ∃ (D : DataW Unit) (n : Nat), wr.ownsMap Try.prog 89 (plainElem Try.prog 4) w.heap.size n D ∧ n ≤ p.length ∧ MapIs 89 D p
  bel : Below w.heap.size w wr
  two : wr.heap[w.heap.size + 1]? = some (.cells #[va, vb] 83 (0, 0))
  big : w.heap.size + 2 ≤ wr.heap.size
end Go.Proofs.Ytldlpeohdindaaa
end
