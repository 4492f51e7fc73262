/-
  Joined: KWide, KRows.
-/
import Derived.Test.YtachdmklkkakbaaZactAddMilnor25
import Derived.Test.YtachdmklkkakbaaZactAddMilnor11
import Derived.Deep.MidRow
import Derived.Laws.Tables
import Derived.Laws.CopyOwn
import Derived.Great.BuildSlice
import Derived.Test.YtachdmklkkakbaaZactAddMilnor04
import Derived.Test.YtachdmklkkakbaaZactAddMilnor06
section
namespace Go.Proofs.Ytachdmklkkakbaa
open Go.RowKit Go.Maps
set_option linter.unusedVariables false
set_option maxRecDepth 100000

/-- The cells of a wide term: its length, its numbers, zeros. -/
def wdI (n : Int) (xs : List Int) : List Int := n :: (xs ++ List.replicate (20 - xs.length) 0)
def wdA (n : Int) (xs : List Int) : Array Value := ((wdI n xs).map (Value.int .i64)).toArray
theorem wdI_len (n : Int) (xs : List Int) (h : xs.length ≤ 20) : (wdI n xs).length = 21 := by simp [wdI]; omega
theorem wdA_size (n : Int) (xs : List Int) (h : xs.length ≤ 20) : (wdA n xs).size = 21 := by simp [wdA, wdI_len n xs h]
theorem wdA_zero : wdA 0 [] = #[Value.int .i64 0, Value.int .i64 0, Value.int .i64 0, Value.int .i64 0, Value.int .i64 0, Value.int .i64 0, Value.int .i64 0, Value.int .i64 0, Value.int .i64 0, Value.int .i64 0, Value.int .i64 0, Value.int .i64 0, Value.int .i64 0, Value.int .i64 0, Value.int .i64 0, Value.int .i64 0, Value.int .i64 0, Value.int .i64 0, Value.int .i64 0, Value.int .i64 0, Value.int .i64 0] := by rfl
theorem wd_build (n : Int) : Try.prog.built 98 [(0, .int .i64 n)] = some (wdA n []) := by kernel_rfl
theorem wd_splice (n : Int) (xs : List Int) (h : xs.length ≤ 20) : splice (wdA n []).toList 1 (xs.map (Value.int .i64)) = (wdA n xs).toList := by
  have e : (wdA n []).toList = .int .i64 n :: List.replicate 20 (.int .i64 0) := by simp [wdA, wdI]
  rw [e]
  have h20 : List.replicate 20 (Value.int .i64 0) = List.replicate xs.length (Value.int .i64 0) ++ List.replicate (20 - xs.length) (Value.int .i64 0) := by
    rw [List.replicate_append_replicate]; congr 1; omega
  rw [h20]
  simp only [splice, wdA, wdI, List.toList_toArray, List.take_succ_cons, List.take_zero, List.map_cons, List.map_append, List.map_replicate, List.length_map]
  rw [Nat.add_comm 1, List.drop_succ_cons, List.drop_left' (List.length_replicate)]
  rfl

def wideK (xs : List Int) : Array Value := wdA xs.length xs
theorem wideK_ok (xs : List Int) (h : xs.length ≤ 20) (hw : ∀ z ∈ xs, (Lit.int .i64 z).wf = true) : KOKW (wideK xs) := keyW_mk _ (wdI_len _ _ h) (fun z hz => by
  rcases List.mem_cons.1 hz with rfl | hz
  · have e1 : (-9223372036854775808 : Int) ≤ (xs.length : Int) := by omega
    have e2 : (xs.length : Int) ≤ (9223372036854775807 : Int) := by omega
    exact (Bool.and_eq_true _ _).mpr ⟨decide_eq_true e1, decide_eq_true e2⟩
  · rcases List.mem_append.1 hz with hz | hz
    · exact hw z hz
    · rw [(List.mem_replicate.1 hz).2]; rfl)

/-- A key is stored into the variable that was made last, its block said apart. -/
theorem stKWg {ops : Array Oper} {rest : List Oper} {op : Oper} {a : Act} {Q : Exit → Act → World → Prop} (w : World) (hgd : op.guard = none) (x y : Operand) (ho : op.op = .store 98 x y)
    (g : Nat) (hg : g = w.heap.size) (hx : a.eval x = .pointer (some ⟨g, 0, none⟩)) (k : Array Value) (hy : a.eval y = .agg k) (hs : k.size = 21) (h1 : k.all (·.oneCell') = true)
    (h : wpList Try.prog ops Q rest (a.put op.dst undef) (w.alloc (.cells k 98))) : wpList Try.prog ops Q (op :: rest) a (w.alloc (.cells #[Value.int .i64 0, Value.int .i64 0, Value.int .i64 0, Value.int .i64 0, Value.int .i64 0, Value.int .i64 0, Value.int .i64 0, Value.int .i64 0, Value.int .i64 0, Value.int .i64 0, Value.int .i64 0, Value.int .i64 0, Value.int .i64 0, Value.int .i64 0, Value.int .i64 0, Value.int .i64 0, Value.int .i64 0, Value.int .i64 0, Value.int .i64 0, Value.int .i64 0, Value.int .i64 0] 98)) := by
  subst hg
  exact stKW w hgd x y ho hx k hy hs h1 h

/-- Behind the copy. -/
theorem wide_after (w w3 : World) (cur cs : List Value) (K : Array Value) (hs : Hid (splice cur 1 cs = K.toList)) (hg : Hid (w3.heap[w.heap.size + 1]? = some (.cells (splice cur 1 cs).toArray 98 (0, 0))))
    (hb : Below (w.heap.size + 1) (w.alloc (.cells #[Value.int .i64 0, Value.int .i64 0, Value.int .i64 0, Value.int .i64 0, Value.int .i64 0, Value.int .i64 0, Value.int .i64 0, Value.int .i64 0, Value.int .i64 0, Value.int .i64 0, Value.int .i64 0, Value.int .i64 0, Value.int .i64 0, Value.int .i64 0, Value.int .i64 0, Value.int .i64 0, Value.int .i64 0, Value.int .i64 0, Value.int .i64 0, Value.int .i64 0, Value.int .i64 0] 98)) w3) :
    Hid (w3.rangeAt (w.heap.size + 1) 0 K.toList) ∧ Hid (w3.heap[w.heap.size]? = some (.cells #[Value.int .i64 0, Value.int .i64 0, Value.int .i64 0, Value.int .i64 0, Value.int .i64 0, Value.int .i64 0, Value.int .i64 0, Value.int .i64 0, Value.int .i64 0, Value.int .i64 0, Value.int .i64 0, Value.int .i64 0, Value.int .i64 0, Value.int .i64 0, Value.int .i64 0, Value.int .i64 0, Value.int .i64 0, Value.int .i64 0, Value.int .i64 0, Value.int .i64 0, Value.int .i64 0] 98 (0, 0))) ∧ Hid (Below w.heap.size w w3) := by
  refine ⟨Lib.hid ?_, Lib.hid ((hb.block _ (Nat.lt_succ_self _)).trans (heap_alloc_new w _)), Lib.hid (((Below.refl _ w).alloc (Nat.le_refl _) _).trans (hb.mono (Nat.le_succ _)))⟩
  intro j v hv
  have h1 := hg.out
  rw [hs.out] at h1
  rw [Nat.zero_add, cell_of_row _ (w.heap.size + 1) j _ 98 (0, 0) h1]
  simpa using hv

set_option maxHeartbeats 2000000 in
theorem widen_any (v : Value) (xs : List Int) (w : World) (h : RdL w v xs) (h20 : xs.length ≤ 20) (hwf : ∀ z ∈ xs, (Lit.int .i64 z).wf = true) :
    Calls Try.prog 105 #[v] w fun e w' => e = .returned (.agg (wideK xs)) ∧ Below w.heap.size w w' := by
  have HK := Lib.hid (wideK_ok xs h20 hwf)
  have HSZ : Hid ((wideK xs).size = 21) := Lib.hid HK.out.size
  have HONE : Hid ((wideK xs).all (·.oneCell') = true) := Lib.hid HK.out.one
  have H0 : Hid ((wdA xs.length []).size = 21) := Lib.hid (wdA_size _ _ (by simp))
  have H1 : Hid ((wdA xs.length []).all (·.oneCell') = true) := Lib.hid (by simp [wdA, wdI, Value.oneCell'])
  have HSP := Lib.hid (wd_splice xs.length xs h20)
  have HB := Lib.hid (wd_build xs.length)
  have HL := Lib.hid h20
  obtain ⟨a, cap, rfl, hm, ha⟩ := h
  unfold maxLen at hm
  have HA := Lib.hid ha
  clear ha hwf h20 HK
  go_enter Try.func105, Try.ntmps105
  obtain ⟨Z, hZ⟩ : ∃ Z, wdA 0 [] = Z := ⟨_, rfl⟩
  obtain ⟨K0, hK0⟩ : ∃ K0, wdA xs.length [] = K0 := ⟨_, rfl⟩
  rw [hK0] at H0 H1 HSP HB
  have HCN : Hid ((xs.map (Value.int .i64)).length = Nat.min xs.length 20) := Lib.hid (by rw [List.length_map]; have := HL.out; exact (Nat.min_eq_left this).symm)
  have HC : Hid (∀ w2 : World, Below w.heap.size w w2 → (xs.map (Value.int .i64)).length = Nat.min xs.length 20 ∧ (0 < (xs.map (Value.int .i64)).length → ∃ ad, a = some ad ∧ ∀ j v, (xs.map (Value.int .i64))[j]? = some v → w2.cell? (ad.add j) = some v)) := by
    refine Lib.hid fun w2 hb => ⟨?_, fun hp => ?_⟩
    · rw [List.length_map]; have := HL.out; exact (Nat.min_eq_left this).symm
    · rw [List.length_map] at hp
      obtain ⟨b, off, rfl, hc⟩ := HA.out.resolve_left (by omega)
      refine ⟨_, rfl, fun j v hv => ?_⟩
      rw [Addr.add_mid]
      rw [List.getElem?_map] at hv
      cases hx : xs[j]? with
      | none => rw [hx] at hv; cases hv
      | some x =>
        rw [hx] at hv
        have hj : j < xs.length := (List.getElem?_eq_some_iff.1 hx).1
        have h1 := hc j hj
        simp only [hx, Option.getD_some] at h1
        have hbl := World.block_lt_of_cell? w _ h1
        rw [← Option.some.inj hv]
        exact (hb.cell (p := ⟨b, off + j, none⟩) hbl).trans h1
  have HBEL : Hid (∀ Y Z : Obj, Below w.heap.size w ((w.alloc Y).alloc Z)) := Lib.hid fun Y Z => ((Below.refl _ w).alloc (Nat.le_refl _) _).alloc (by simp) _
  have HBE1 : Hid (∀ Y Z : Obj, Below (w.heap.size + 1) (w.alloc Y) ((w.alloc Y).alloc Z)) := Lib.hid fun Y Z => (Below.refl _ _).alloc (by simp) _
  have HNEW : Hid (∀ Y : Obj, ((w.alloc Y).alloc (.cells K0 98)).heap[w.heap.size + 1]? = some (.cells K0.toList.toArray 98 (0, 0))) := Lib.hid fun Y => heap_alloc2_new _ _ _
  have H4 : Hid (∀ Y Z : Obj, 0 < (xs.map (Value.int .i64)).length → (some (⟨w.heap.size + 1, 1, none⟩ : Addr)) = some ⟨w.heap.size + 1, 1, none⟩ ∧ ∃ ad, a = some ad ∧ ∀ j v, (xs.map (Value.int .i64))[j]? = some v → ((w.alloc Y).alloc Z).cell? (ad.add j) = some v) := Lib.hid fun Y Z hp => ⟨rfl, (HC.out _ (HBEL.out Y Z)).2 hp⟩
  have H5 : Hid (1 + (xs.map (Value.int .i64)).length ≤ K0.toList.length) := Lib.hid (by have h1 := H0.out; have h2 := HL.out; simp only [List.length_map, Array.length_toList]; omega)
  have H6 : Hid (∀ u ∈ xs.map (Value.int .i64), u.oneCell' = true) := Lib.hid (by intro u hu; obtain ⟨z, _, rfl⟩ := List.mem_map.1 hu; rfl)
  obtain ⟨K, hK⟩ : ∃ K, wideK xs = K := ⟨_, rfl⟩
  have HSP2 : Hid (splice K0.toList 1 (xs.map (Value.int .i64)) = K.toList) := Lib.hid (by rw [HSP.out, ← hK]; rfl)
  rw [hK] at HSZ HONE
  have HK := Lib.hid hK
  clear hK
  go_wp2_with (first
    | (refine wpList_buildTo rfl 98 _ rfl _ rfl K0 (Eq.trans (b := Try.prog.built 98 [(0, .int .i64 (xs.length : Int))]) (by kernel_rfl) HB.out) ?_)
    | (refine stKWg _ rfl _ _ rfl (w.heap.size + 1) (World.size_alloc ..).symm rfl K0 rfl H0.out H1.out ?_)
    | (refine wpList_copy_splice rfl _ _ 45 45 rfl 2 Try.underlying45 (by kernel_rfl) _ _ 20 20 xs.length cap rfl rfl (w.heap.size + 1) 1 K0.toList 98 (HNEW.out _) (xs.map (Value.int .i64)) HCN.out (H4.out _ _) H5.out H6.out (w.heap.size + 1) _ (HBE1.out _ _) (Nat.le_refl _) ?_; intro w3 hg3 hb3; have AFT := wide_after w w3 K0.toList _ K HSP2 hg3 hb3; have HN := AFT.1; have HO := AFT.2.1; have HB3 := AFT.2.2; clear hg3 hb3 AFT)
    | (refine ldKW rfl _ rfl (w.heap.size + 1) 0 rfl K HN.out HSZ.out ?_)
    | (refine wpList_store_row rfl 98 _ _ rfl w.heap.size K rfl rfl 98 _ HO.out (by rw [sizeW, HSZ.out]) (by rw [HSZ.out]; rfl) HONE.out ?_))
  refine bodyPost_ret (results_cell_row rfl _ _ w.heap.size 98 K (0, 0) _ rfl (setRow_heap _ _ _ _ _ _ HO.out) Try.underlying98 rfl (by rw [sizeW, HSZ.out])) rfl ?_
  exact ⟨by rw [HK.out], below_setRow HB3.out (Nat.le_refl _) _⟩
end Go.Proofs.Ytachdmklkkakbaa
end
section
namespace Go.Proofs.Ytachdmklkkakbaa
open Go.RowKit
set_option maxRecDepth 100000
set_option linter.unusedVariables false

/-- The first m of the lists. -/
def rowsL (X : Nat → List Int) (m : Nat) : List (List Int) := (List.range m).map X
theorem rowsL_succ (X : Nat → List Int) (m : Nat) : rowsL X (m + 1) = rowsL X m ++ [X m] := by simp [rowsL, List.range_succ]
theorem rowsL_len (X : Nat → List Int) (m : Nat) : (rowsL X m).length = m := by simp [rowsL]
theorem mem_rowsL {X : Nat → List Int} {m : Nat} {x : List Int} (h : x ∈ rowsL X m) : ∃ i, i < m ∧ x = X i := by
  obtain ⟨i, hi, e⟩ := List.mem_map.1 h
  exact ⟨i, List.mem_range.1 hi, e.symm⟩

/-- A row of numbers is put behind a family: what the walk wants. -/
theorem fam_put {w w1 w3 : World} {B n : Nat} {S V3 v : Value} {VS : Nat → Value} {L : List (List Int)} {x : List Int} (hF : FamL w B S VS L) (hS : Sep L.length VS) (hB : B ≤ w.heap.size)
    (hv : w1.ownsRow w.heap.size 2 1 v n (x.map (Value.int .i64))) (hn : n = x.length) (hb : Below w.heap.size w w1) (o : Obj)
    (hV3 : w3.ownsRow B 45 1 V3 (L.length + 1) ((List.range L.length).map VS ++ [v])) (hg : (w1.alloc o).grownBy w3 S.ownBlock) :
    FamL w3 B V3 (ext VS L.length v) (L ++ [x]) ∧ Sep (L ++ [x]).length (ext VS L.length v) ∧ Below B w w3 := by
  have hsz := hb.size
  have hF1 : FamL w1 B S VS L := hF.below hb
  have K3 : KeepI none w1 w3 := (KeepI.below ((Below.refl _ w1).alloc (Nat.le_refl _) _) none).trans (KeepI.row (hF1.out.alloc o) hg none)
  have N3 := K3.own (own_base hv hB) (Classical.em _)
  refine ⟨FamL.push hF1 (fun _ _ => Classical.em _) K3 hV3 N3 hn, ?_, ?_⟩
  · rw [List.length_append]
    exact Sep.ext hS (fun i hi => apart_new (hF.inn i hi) (fun k hk => (hv.lt k hk).1))
  · exact (hb.mono hB).trans (((Below.refl _ w1).alloc (by omega) o).grown hg (by simp; omega) (fun k hk => (hF1.out.lt k hk).1))
end Go.Proofs.Ytachdmklkkakbaa
end
