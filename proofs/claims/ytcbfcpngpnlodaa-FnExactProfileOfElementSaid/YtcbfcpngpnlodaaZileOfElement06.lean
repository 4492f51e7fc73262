/-
  Joined: KSumQ.
-/
import Derived.Test.YtcbfcpngpnlodaaZileOfElement05
import Derived.BigRegion
section
namespace Go.Proofs.Ytcbfcpngpnlodaa
open Go.RowKit Go.Maps
set_option linter.unusedVariables false
set_option maxRecDepth 100000

theorem keyedQ : Keyed Try.prog 56 := Keyed.of_law (deep_law_laid laidP (m := 3) (by omega) (of_decide_eq_true (by kernel_rfl)) (by kernel_rfl) (by kernel_rfl))
theorem sizeQ : (Try.prog.info? 56).map (·.size) = some 16 := by kernel_rfl

theorem listQ {zs : List Int} (h : zs.length = 16) : ∃ z0 z1 z2 z3 z4 z5 z6 z7 z8 z9 z10 z11 z12 z13 z14 z15, zs = [z0, z1, z2, z3, z4, z5, z6, z7, z8, z9, z10, z11, z12, z13, z14, z15] := by
  match zs, h with
  | [z0, z1, z2, z3, z4, z5, z6, z7, z8, z9, z10, z11, z12, z13, z14, z15], _ => exact ⟨z0, z1, z2, z3, z4, z5, z6, z7, z8, z9, z10, z11, z12, z13, z14, z15, rfl⟩

/-- A key's cells. -/
structure KOKQ (k : Array Value) : Prop where
  ints : ∃ zs : List Int, zs.length = 16 ∧ k = (zs.map (Value.int .i64)).toArray
  key : ∃ l, keyOf Try.prog 56 (.agg k) = some l
theorem KOKQ.lit {k : Array Value} (h : KOKQ k) : ∃ z0 z1 z2 z3 z4 z5 z6 z7 z8 z9 z10 z11 z12 z13 z14 z15 : Int, k = #[Value.int .i64 z0, Value.int .i64 z1, Value.int .i64 z2, Value.int .i64 z3, Value.int .i64 z4, Value.int .i64 z5, Value.int .i64 z6, Value.int .i64 z7, Value.int .i64 z8, Value.int .i64 z9, Value.int .i64 z10, Value.int .i64 z11, Value.int .i64 z12, Value.int .i64 z13, Value.int .i64 z14, Value.int .i64 z15] := by
  obtain ⟨zs, hz, e⟩ := h.ints
  obtain ⟨z0, z1, z2, z3, z4, z5, z6, z7, z8, z9, z10, z11, z12, z13, z14, z15, rfl⟩ := listQ hz
  exact ⟨z0, z1, z2, z3, z4, z5, z6, z7, z8, z9, z10, z11, z12, z13, z14, z15, e⟩

/-- v reads as the keys ks. -/
def RdQ (w : World) (v : Value) (ks : List (Array Value)) : Prop :=
  ∃ a cap, v = .slice a ks.length cap ∧ ks.length ≤ maxLen ∧ (ks.length = 0 ∨ ∃ b off, a = some ⟨b, off, none⟩ ∧ b < w.heap.size ∧ ∀ i, i < ks.length → w.rangeAt b (off + i * 16) (ks[i]?.getD #[]).toList)
theorem RdQ.below {w w' : World} {v : Value} {ks : List (Array Value)} (h : RdQ w v ks) (k : Below w.heap.size w w') : RdQ w' v ks := by
  obtain ⟨a, cap, e, hm, hc⟩ := h
  refine ⟨a, cap, e, hm, ?_⟩
  rcases hc with h0 | ⟨b, off, e, hb, hc⟩
  · exact .inl h0
  · exact .inr ⟨b, off, e, Nat.lt_of_lt_of_le hb k.size, fun i hi j u hj => (k.cell (p := ⟨b, off + i * 16 + j, none⟩) hb).trans (hc i hi j u hj)⟩

theorem loadQ (w : World) (b o : Nat) (k : Array Value) (h : w.rangeAt b o k.toList) (hs : k.size = 16) : (Instr.loadAt 56 (.pointer (some ⟨b, o, none⟩))).run Try.prog w = .ok (.agg k) w := by
  have := run_loadAt_mid w b o 56 k.toList _ h Try.underlying56 rfl (by rw [sizeQ]; simp [hs])
  simpa using this
theorem KOKQ.size {k : Array Value} (h : KOKQ k) : k.size = 16 := by
  obtain ⟨zs, hz, rfl⟩ := h.ints
  simp [hz]
theorem KOKQ.one {k : Array Value} (h : KOKQ k) : k.all (·.oneCell') = true := by
  obtain ⟨zs, hz, rfl⟩ := h.ints
  simp [Value.oneCell']

theorem loadCQ (w : World) (b o : Nat) (k : Array Value) (h : w.rangeAt b o k.toList) (hs : k.size = 16) : (loadCellsFrom ⟨b, o, none⟩ 0 16 #[]).run Try.prog w = .ok k w := by
  have := run_loadCells_list (P := Try.prog) w ⟨b, o, none⟩ k.toList (fun j v hv => by rw [Addr.add_mid]; exact h j v hv)
  simpa [loadCells, hs] using this
theorem loadNewQ (w : World) (k : Array Value) (hs : k.size = 16) : (w.alloc (.cells k 56)).rangeAt w.heap.size 0 k.toList := by
  intro j v hv
  rw [Nat.zero_add, cell_of_row _ w.heap.size j k 56 (0, 0) (heap_alloc_new w _)]
  simpa using hv

/-- A key is loaded whole. -/
theorem ldKQ {ops : Array Oper} {rest : List Oper} {op : Oper} {a : Act} {w : World} {Q : Exit → Act → World → Prop} (hgd : op.guard = none) (x : Operand) (ho : op.op = .load 56 x)
    (b o : Nat) (hx : a.eval x = .pointer (some ⟨b, o, none⟩)) (k : Array Value) (hc : w.rangeAt b o k.toList) (hs : k.size = 16) (h : wpList Try.prog ops Q rest (a.put op.dst (.agg k)) w) : wpList Try.prog ops Q (op :: rest) a w :=
  wpList_load_mid hgd 56 x ho b o hx k.toList _ hc Try.underlying56 rfl (by rw [sizeQ]; simp [hs]) (by simpa using h)
/-- A key is stored into the variable that was made last. -/
theorem stKQ {ops : Array Oper} {rest : List Oper} {op : Oper} {a : Act} {Q : Exit → Act → World → Prop} (w : World) (hgd : op.guard = none) (x y : Operand) (ho : op.op = .store 56 x y)
    (hx : a.eval x = .pointer (some ⟨w.heap.size, 0, none⟩)) (k : Array Value) (hy : a.eval y = .agg k) (hs : k.size = 16) (h1 : k.all (·.oneCell') = true)
    (h : wpList Try.prog ops Q rest (a.put op.dst undef) (w.alloc (.cells k 56))) : wpList Try.prog ops Q (op :: rest) a (w.alloc (.cells #[Value.int .i64 0, Value.int .i64 0, Value.int .i64 0, Value.int .i64 0, Value.int .i64 0, Value.int .i64 0, Value.int .i64 0, Value.int .i64 0, Value.int .i64 0, Value.int .i64 0, Value.int .i64 0, Value.int .i64 0, Value.int .i64 0, Value.int .i64 0, Value.int .i64 0, Value.int .i64 0] 56)) := by
  refine wpList_plain hgd fun K' hK' => ?_
  unfold Oper.wp execOp
  simp only [ho, hx, hy, run_storeAt_new (P := Try.prog) w 56 #[Value.int .i64 0, Value.int .i64 0, Value.int .i64 0, Value.int .i64 0, Value.int .i64 0, Value.int .i64 0, Value.int .i64 0, Value.int .i64 0, Value.int .i64 0, Value.int .i64 0, Value.int .i64 0, Value.int .i64 0, Value.int .i64 0, Value.int .i64 0, Value.int .i64 0, Value.int .i64 0] k (by rw [sizeQ, hs]) (by rw [hs]; rfl) h1, Sem.run_bind, Sem.run_pure, Result.andThen_ok]
  exact hK' _ _ h

end Go.Proofs.Ytcbfcpngpnlodaa
end
