/-
  Joined: KWide, KKeysOf, KTermP.
-/
import Derived.Test.YtnmilkehggjpfaaZBMil29
import Derived.Test.YtnmilkehggjpfaaZBMil04
import Derived.Deep.MidRow
import Derived.Laws.Tables
import Derived.Laws.CopyOwn
import Derived.Great.BuildSlice
import Derived.Test.YtnmilkehggjpfaaZBMil28
import Derived.Test.YtnmilkehggjpfaaZBMil30
import Derived.Test.YtnmilkehggjpfaaZBMil03
import Derived.ChangeKeysEq
section
namespace Go.Proofs.Ytnmilkehggjpfaa
open Go.RowKit Go.Maps
set_option linter.unusedVariables false
set_option maxRecDepth 100000

/-- The cells of a wide term: its length, its numbers, zeros. -/
def wdI (n : Int) (xs : List Int) : List Int := n :: (xs ++ List.replicate (20 - xs.length) 0)
def wdA (n : Int) (xs : List Int) : Array Value := ((wdI n xs).map (Value.int .i64)).toArray
theorem wdI_len (n : Int) (xs : List Int) (h : xs.length ≤ 20) : (wdI n xs).length = 21 := by simp [wdI]; omega
theorem wdA_size (n : Int) (xs : List Int) (h : xs.length ≤ 20) : (wdA n xs).size = 21 := by simp [wdA, wdI_len n xs h]
theorem wdA_zero : wdA 0 [] = #[Value.int .i64 0, Value.int .i64 0, Value.int .i64 0, Value.int .i64 0, Value.int .i64 0, Value.int .i64 0, Value.int .i64 0, Value.int .i64 0, Value.int .i64 0, Value.int .i64 0, Value.int .i64 0, Value.int .i64 0, Value.int .i64 0, Value.int .i64 0, Value.int .i64 0, Value.int .i64 0, Value.int .i64 0, Value.int .i64 0, Value.int .i64 0, Value.int .i64 0, Value.int .i64 0] := by rfl
theorem wd_build (n : Int) : Try.prog.built 161 [(0, .int .i64 n)] = some (wdA n []) := by kernel_rfl
theorem wd_splice (n : Int) (xs : List Int) (h : xs.length ≤ 20) : splice (wdA n []).toList 1 (xs.map (Value.int .i64)) = (wdA n xs).toList := by
  have e : (wdA n []).toList = .int .i64 n :: List.replicate 20 (.int .i64 0) := by simp [wdA, wdI]
  rw [e]
  have h20 : List.replicate 20 (Value.int .i64 0) = List.replicate xs.length (Value.int .i64 0) ++ List.replicate (20 - xs.length) (Value.int .i64 0) := by
    rw [List.replicate_append_replicate]; congr 1; omega
  rw [h20]
  simp only [splice, wdA, wdI, List.toList_toArray, List.take_succ_cons, List.take_zero, List.map_cons, List.map_append, List.map_replicate, List.length_map]
  rw [Nat.add_comm 1, List.drop_succ_cons, List.drop_left' (List.length_replicate)]
  rfl

def wideK (xs : List Int) : Array Value := wdA xs.length xs
theorem wideK_ok (xs : List Int) (h : xs.length ≤ 20) (hw : ∀ z ∈ xs, (Lit.int .i64 z).wf = true) : KOKW (wideK xs) := keyW_mk _ (wdI_len _ _ h) (fun z hz => by
  rcases List.mem_cons.1 hz with rfl | hz
  · have e1 : (-9223372036854775808 : Int) ≤ (xs.length : Int) := by omega
    have e2 : (xs.length : Int) ≤ (9223372036854775807 : Int) := by omega
    exact (Bool.and_eq_true _ _).mpr ⟨decide_eq_true e1, decide_eq_true e2⟩
  · rcases List.mem_append.1 hz with hz | hz
    · exact hw z hz
    · rw [(List.mem_replicate.1 hz).2]; rfl)

/-- A key is stored into the variable that was made last, its block said apart. -/
theorem stKWg {ops : Array Oper} {rest : List Oper} {op : Oper} {a : Act} {Q : Exit → Act → World → Prop} (w : World) (hgd : op.guard = none) (x y : Operand) (ho : op.op = .store 161 x y)
    (g : Nat) (hg : g = w.heap.size) (hx : a.eval x = .pointer (some ⟨g, 0, none⟩)) (k : Array Value) (hy : a.eval y = .agg k) (hs : k.size = 21) (h1 : k.all (·.oneCell') = true)
    (h : wpList Try.prog ops Q rest (a.put op.dst undef) (w.alloc (.cells k 161))) : wpList Try.prog ops Q (op :: rest) a (w.alloc (.cells #[Value.int .i64 0, Value.int .i64 0, Value.int .i64 0, Value.int .i64 0, Value.int .i64 0, Value.int .i64 0, Value.int .i64 0, Value.int .i64 0, Value.int .i64 0, Value.int .i64 0, Value.int .i64 0, Value.int .i64 0, Value.int .i64 0, Value.int .i64 0, Value.int .i64 0, Value.int .i64 0, Value.int .i64 0, Value.int .i64 0, Value.int .i64 0, Value.int .i64 0, Value.int .i64 0] 161)) := by
  subst hg
  exact stKW w hgd x y ho hx k hy hs h1 h

/-- Behind the copy. -/
theorem wide_after (w w3 : World) (cur cs : List Value) (K : Array Value) (hs : Hid (splice cur 1 cs = K.toList)) (hg : Hid (w3.heap[w.heap.size + 1]? = some (.cells (splice cur 1 cs).toArray 161 (0, 0))))
    (hb : Below (w.heap.size + 1) (w.alloc (.cells #[Value.int .i64 0, Value.int .i64 0, Value.int .i64 0, Value.int .i64 0, Value.int .i64 0, Value.int .i64 0, Value.int .i64 0, Value.int .i64 0, Value.int .i64 0, Value.int .i64 0, Value.int .i64 0, Value.int .i64 0, Value.int .i64 0, Value.int .i64 0, Value.int .i64 0, Value.int .i64 0, Value.int .i64 0, Value.int .i64 0, Value.int .i64 0, Value.int .i64 0, Value.int .i64 0] 161)) w3) :
    Hid (w3.rangeAt (w.heap.size + 1) 0 K.toList) ∧ Hid (w3.heap[w.heap.size]? = some (.cells #[Value.int .i64 0, Value.int .i64 0, Value.int .i64 0, Value.int .i64 0, Value.int .i64 0, Value.int .i64 0, Value.int .i64 0, Value.int .i64 0, Value.int .i64 0, Value.int .i64 0, Value.int .i64 0, Value.int .i64 0, Value.int .i64 0, Value.int .i64 0, Value.int .i64 0, Value.int .i64 0, Value.int .i64 0, Value.int .i64 0, Value.int .i64 0, Value.int .i64 0, Value.int .i64 0] 161 (0, 0))) ∧ Hid (Below w.heap.size w w3) := by
  refine ⟨Lib.hid ?_, Lib.hid ((hb.block _ (Nat.lt_succ_self _)).trans (heap_alloc_new w _)), Lib.hid (((Below.refl _ w).alloc (Nat.le_refl _) _).trans (hb.mono (Nat.le_succ _)))⟩
  intro j v hv
  have h1 := hg.out
  rw [hs.out] at h1
  rw [Nat.zero_add, cell_of_row _ (w.heap.size + 1) j _ 161 (0, 0) h1]
  simpa using hv

set_option maxHeartbeats 2000000 in
theorem widen_any (v : Value) (xs : List Int) (w : World) (h : RdL w v xs) (h20 : xs.length ≤ 20) (hwf : ∀ z ∈ xs, (Lit.int .i64 z).wf = true) :
    Calls Try.prog 169 #[v] w fun e w' => e = .returned (.agg (wideK xs)) ∧ Below w.heap.size w w' := by
  have HK := Lib.hid (wideK_ok xs h20 hwf)
  have HSZ : Hid ((wideK xs).size = 21) := Lib.hid HK.out.size
  have HONE : Hid ((wideK xs).all (·.oneCell') = true) := Lib.hid HK.out.one
  have H0 : Hid ((wdA xs.length []).size = 21) := Lib.hid (wdA_size _ _ (by simp))
  have H1 : Hid ((wdA xs.length []).all (·.oneCell') = true) := Lib.hid (by simp [wdA, wdI, Value.oneCell'])
  have HSP := Lib.hid (wd_splice xs.length xs h20)
  have HB := Lib.hid (wd_build xs.length)
  have HL := Lib.hid h20
  obtain ⟨a, cap, rfl, hm, ha⟩ := h
  unfold maxLen at hm
  have HA := Lib.hid ha
  clear ha hwf h20 HK
  go_enter Try.func169, Try.ntmps169
  obtain ⟨Z, hZ⟩ : ∃ Z, wdA 0 [] = Z := ⟨_, rfl⟩
  obtain ⟨K0, hK0⟩ : ∃ K0, wdA xs.length [] = K0 := ⟨_, rfl⟩
  rw [hK0] at H0 H1 HSP HB
  have HCN : Hid ((xs.map (Value.int .i64)).length = Nat.min xs.length 20) := Lib.hid (by rw [List.length_map]; have := HL.out; exact (Nat.min_eq_left this).symm)
  have HC : Hid (∀ w2 : World, Below w.heap.size w w2 → (xs.map (Value.int .i64)).length = Nat.min xs.length 20 ∧ (0 < (xs.map (Value.int .i64)).length → ∃ ad, a = some ad ∧ ∀ j v, (xs.map (Value.int .i64))[j]? = some v → w2.cell? (ad.add j) = some v)) := by
    refine Lib.hid fun w2 hb => ⟨?_, fun hp => ?_⟩
    · rw [List.length_map]; have := HL.out; exact (Nat.min_eq_left this).symm
    · rw [List.length_map] at hp
      obtain ⟨b, off, rfl, hc⟩ := HA.out.resolve_left (by omega)
      refine ⟨_, rfl, fun j v hv => ?_⟩
      rw [Addr.add_mid]
      rw [List.getElem?_map] at hv
      cases hx : xs[j]? with
      | none => rw [hx] at hv; cases hv
      | some x =>
        rw [hx] at hv
        have hj : j < xs.length := (List.getElem?_eq_some_iff.1 hx).1
        have h1 := hc j hj
        simp only [hx, Option.getD_some] at h1
        have hbl := World.block_lt_of_cell? w _ h1
        rw [← Option.some.inj hv]
        exact (hb.cell (p := ⟨b, off + j, none⟩) hbl).trans h1
  have HBEL : Hid (∀ Y Z : Obj, Below w.heap.size w ((w.alloc Y).alloc Z)) := Lib.hid fun Y Z => ((Below.refl _ w).alloc (Nat.le_refl _) _).alloc (by simp) _
  have HBE1 : Hid (∀ Y Z : Obj, Below (w.heap.size + 1) (w.alloc Y) ((w.alloc Y).alloc Z)) := Lib.hid fun Y Z => (Below.refl _ _).alloc (by simp) _
  have HNEW : Hid (∀ Y : Obj, ((w.alloc Y).alloc (.cells K0 161)).heap[w.heap.size + 1]? = some (.cells K0.toList.toArray 161 (0, 0))) := Lib.hid fun Y => heap_alloc2_new _ _ _
  have H4 : Hid (∀ Y Z : Obj, 0 < (xs.map (Value.int .i64)).length → (some (⟨w.heap.size + 1, 1, none⟩ : Addr)) = some ⟨w.heap.size + 1, 1, none⟩ ∧ ∃ ad, a = some ad ∧ ∀ j v, (xs.map (Value.int .i64))[j]? = some v → ((w.alloc Y).alloc Z).cell? (ad.add j) = some v) := Lib.hid fun Y Z hp => ⟨rfl, (HC.out _ (HBEL.out Y Z)).2 hp⟩
  have H5 : Hid (1 + (xs.map (Value.int .i64)).length ≤ K0.toList.length) := Lib.hid (by have h1 := H0.out; have h2 := HL.out; simp only [List.length_map, Array.length_toList]; omega)
  have H6 : Hid (∀ u ∈ xs.map (Value.int .i64), u.oneCell' = true) := Lib.hid (by intro u hu; obtain ⟨z, _, rfl⟩ := List.mem_map.1 hu; rfl)
  obtain ⟨K, hK⟩ : ∃ K, wideK xs = K := ⟨_, rfl⟩
  have HSP2 : Hid (splice K0.toList 1 (xs.map (Value.int .i64)) = K.toList) := Lib.hid (by rw [HSP.out, ← hK]; rfl)
  rw [hK] at HSZ HONE
  have HK := Lib.hid hK
  clear hK
  go_wp2_with (first
    | (refine wpList_buildTo rfl 161 _ rfl _ rfl K0 (Eq.trans (b := Try.prog.built 161 [(0, .int .i64 (xs.length : Int))]) (by kernel_rfl) HB.out) ?_)
    | (refine stKWg _ rfl _ _ rfl (w.heap.size + 1) (World.size_alloc ..).symm rfl K0 rfl H0.out H1.out ?_)
    | (refine wpList_copy_splice rfl _ _ 65 65 rfl 2 Try.underlying65 (by kernel_rfl) _ _ 20 20 xs.length cap rfl rfl (w.heap.size + 1) 1 K0.toList 161 (HNEW.out _) (xs.map (Value.int .i64)) HCN.out (H4.out _ _) H5.out H6.out (w.heap.size + 1) _ (HBE1.out _ _) (Nat.le_refl _) ?_; intro w3 hg3 hb3; have AFT := wide_after w w3 K0.toList _ K HSP2 hg3 hb3; have HN := AFT.1; have HO := AFT.2.1; have HB3 := AFT.2.2; clear hg3 hb3 AFT)
    | (refine ldKW rfl _ rfl (w.heap.size + 1) 0 rfl K HN.out HSZ.out ?_)
    | (refine wpList_store_row rfl 161 _ _ rfl w.heap.size K rfl rfl 161 _ HO.out (by rw [sizeW, HSZ.out]) (by rw [HSZ.out]; rfl) HONE.out ?_))
  refine bodyPost_ret (results_cell_row rfl _ _ w.heap.size 161 K (0, 0) _ rfl (setRow_heap _ _ _ _ _ _ HO.out) Try.underlying161 rfl (by rw [sizeW, HSZ.out])) rfl ?_
  exact ⟨by rw [HK.out], below_setRow HB3.out (Nat.le_refl _) _⟩
end Go.Proofs.Ytnmilkehggjpfaa
end
section
namespace Go.Proofs.Ytnmilkehggjpfaa
open Go.RowKit Go.Maps
set_option linter.unusedVariables false
set_option maxRecDepth 100000

theorem bsKP {ops : Array Oper} {rest : List Oper} {o : Oper} {a : Act} {Q : Exit → Act → World → Prop} (w : World) (hgd : o.guard = none) (x : Operand) (ho : o.op = .buildSlice 151 1 #[(0, x)])
    (k : Array Value) (hx : a.eval x = .agg k) (hk : KOKP k) (h : wpList Try.prog ops Q rest (a.put o.dst (.slice (some ⟨w.heap.size, 0, none⟩) 1 1)) (w.alloc (.cells k 157))) : wpList Try.prog ops Q (o :: rest) a w := by
  refine wpList_plain hgd fun K' hK' => ?_
  have hr := bsRunP w k hk
  unfold Oper.wp execOp
  simp only [ho, List.map_toArray, List.map_cons, List.map_nil, hx, hr, Sem.run_bind, Sem.run_pure, Result.andThen_ok]
  exact hK' _ _ h
theorem bsKW {ops : Array Oper} {rest : List Oper} {o : Oper} {a : Act} {Q : Exit → Act → World → Prop} (w : World) (hgd : o.guard = none) (x : Operand) (ho : o.op = .buildSlice 152 1 #[(0, x)])
    (k : Array Value) (hx : a.eval x = .agg k) (hk : KOKW k) (h : wpList Try.prog ops Q rest (a.put o.dst (.slice (some ⟨w.heap.size, 0, none⟩) 1 1)) (w.alloc (.cells k 161))) : wpList Try.prog ops Q (o :: rest) a w := by
  refine wpList_plain hgd fun K' hK' => ?_
  have hr := bsRunW w k hk
  unfold Oper.wp execOp
  simp only [ho, List.map_toArray, List.map_cons, List.map_nil, hx, hr, Sem.run_bind, Sem.run_pure, Result.andThen_ok]
  exact hK' _ _ h

/-- The keys of lists, of both kinds. -/
def pkL (l : List (List Int)) : List (Array Value) := (l.filter (fun x => decide (fits x))).map packK
def wdL (l : List (List Int)) : List (Array Value) := (l.filter (fun x => !decide (fits x))).map wideK
theorem pkL_yes (l : List (List Int)) (x : List Int) (h : fits x) : pkL (l ++ [x]) = pkL l ++ [packK x] := by simp [pkL, h]
theorem pkL_no (l : List (List Int)) (x : List Int) (h : ¬ fits x) : pkL (l ++ [x]) = pkL l := by simp [pkL, h]
theorem wdL_yes (l : List (List Int)) (x : List Int) (h : fits x) : wdL (l ++ [x]) = wdL l := by simp [wdL, h]
theorem wdL_no (l : List (List Int)) (x : List Int) (h : ¬ fits x) : wdL (l ++ [x]) = wdL l ++ [wideK x] := by simp [wdL, h]
theorem pkL_len (l : List (List Int)) : (pkL l).length ≤ l.length := by rw [pkL, List.length_map]; exact List.length_filter_le _ _
theorem wdL_len (l : List (List Int)) : (wdL l).length ≤ l.length := by rw [wdL, List.length_map]; exact List.length_filter_le _ _
theorem ownP_snoc {w : World} {B : Nat} {v : Value} {ks : List (Array Value)} {k : Array Value} (h : w.ownsRow B 157 8 v (ks.length + 1) (ks.flatMap Array.toList ++ k.toList)) : OwnP w B v (ks ++ [k]) := by
  unfold OwnP
  rw [List.length_append, List.length_singleton, List.flatMap_append]
  simpa using h
theorem ownW_snoc {w : World} {B : Nat} {v : Value} {ks : List (Array Value)} {k : Array Value} (h : w.ownsRow B 161 21 v (ks.length + 1) (ks.flatMap Array.toList ++ k.toList)) : OwnW w B v (ks ++ [k]) := by
  unfold OwnW
  rw [List.length_append, List.length_singleton, List.flatMap_append]
  simpa using h

set_option maxHeartbeats 2000000 in
theorem keysOf_any (V : Value) (m : Nat) (X : Nat → List Int) (w : World) (h : RdSS w V m X) (hm : m ≤ 20000) (h20 : ∀ i, i < m → (X i).length ≤ 20) (hwf : ∀ i, i < m → ∀ z ∈ X i, (Lit.int .i64 z).wf = true) :
    Calls Try.prog 140 #[V] w fun e w' => ∃ u v, e = .returned (.tuple #[u, v]) ∧ OwnP w' w.heap.size u (pkL (rowsL X m)) ∧ OwnW w' w.heap.size v (wdL (rowsL X m)) ∧ Below w.heap.size w w' := by
  obtain ⟨i0, hi, hz0, hz1, hz2⟩ := info_parts infoEP
  obtain ⟨i1, hj1, hy0, hy1, hy2⟩ := info_parts infoEW
  obtain ⟨⟨a, cap, rfl⟩, hsm, VS, hc, hr⟩ := h
  by_cases h0 : m = 0
  · subst h0
    clear hc hr h20 hwf
    go_enter Try.func140, Try.ntmps140
    go_wp2
    refine wp_loop_rounds 1 ?_
    rw [rounds_succ]
    go_wp2
    go_ret2
    exact ⟨_, _, rfl, World.ownsRow_nil _ _ _ _, World.ownsRow_nil _ _ _ _, Below.refl _ _⟩
  · obtain ⟨b, off, ⟨cap', e⟩, hc'⟩ := hc.resolve_left h0
    cases e
    have HC := Lib.hid hc'
    have HR := Lib.hid hr
    have H20 := Lib.hid h20
    have HWF := Lib.hid hwf
    have hlt0 : ∀ i, i < m → b < w.heap.size := fun i hi => World.block_lt_of_cell? w ⟨b, off + i, none⟩ (hc' i hi)
    have hbl := hlt0 0 (by omega)
    clear hc hc' hr h20 hwf hlt0 h0
    go_enter Try.func140, Try.ntmps140
    go_wp2
    go_loopw [4, 5, 7, 10] (fun p q _ c wr => ∃ j : Nat, j ≤ m ∧ c = .int .i64 j ∧ Hid (OwnP wr w.heap.size p (pkL (rowsL X j))) ∧ Hid (OwnW wr w.heap.size q (wdL (rowsL X j))) ∧ Hid (Below w.heap.size w wr)) (fun _ _ _ c _ => m - (intOf c).toNat)
    case atStart => exact ⟨0, Nat.zero_le _, rfl, Lib.hid (World.ownsRow_nil _ _ _ _), Lib.hid (World.ownsRow_nil _ _ _ _), Lib.hid (Below.refl _ _)⟩
    case round =>
      obtain ⟨j, hj, rfl, hp, hq, hb⟩ := hrel
      by_cases hlt : j < m
      · have hlt' : (j : Int) < (m : Int) := by omega
        have c1 : wr.cell? ⟨b, off + j, none⟩ = some (VS j) := (hb.out.cell (p := ⟨b, off + j, none⟩) hbl).trans (HC.out j hlt)
        have r1 : RdL wr (VS j) (X j) := (HR.out j hlt).below hb.out
        have hl1 : (pkL (rowsL X j)).length ≤ 20000 := by have := pkL_len (rowsL X j); rw [rowsL_len] at this; omega
        have hl2 : (wdL (rowsL X j)).length ≤ 20000 := by have := wdL_len (rowsL X j); rw [rowsL_len] at this; omega
        have hsz := hb.out.size
        by_cases hf : fits (X j)
        · have FI := Lib.hid (fits_yes (VS j) (X j) wr r1 hf)
          have PK := Lib.hid (packTerm_any (VS j) (X j) wr r1 hf)
          have HK := Lib.hid (packK_ok (X j) hf)
          have NP : Hid (pkL (rowsL X (j + 1)) = pkL (rowsL X j) ++ [packK (X j)]) := Lib.hid (by rw [rowsL_succ, pkL_yes _ _ hf])
          have NW : Hid (wdL (rowsL X (j + 1)) = wdL (rowsL X j)) := Lib.hid (by rw [rowsL_succ, wdL_yes _ _ hf])
          generalize VS j = vj at c1 FI PK
          generalize packK (X j) = K at PK HK NP
          clear r1 hf
          go_wp2_with fail
          refine FI.out.mono ?_
          rintro e w' ⟨rfl, rfl⟩
          go_wp2_with fail
          refine PK.out.mono ?_
          rintro e w2 ⟨rfl, hb2⟩
          have hsz2 := hb2.size
          have P2 := Lib.hid (own_below hp.out hb2)
          have Q2 := Lib.hid (own_below hq.out hb2)
          have B2 := Lib.hid (hb.out.trans (hb2.mono hsz))
          have PA := Lib.hid (P2.out.alloc (.cells K 157))
          have QA := Lib.hid (Q2.out.alloc (.cells K 157))
          clear hb2 hp hq
          go_wp2_with (first
            | (refine bsKP w2 rfl _ rfl K rfl HK.out ?_)
            | (at_builtin; refine wpList_append_own _ rfl _ _ 151 rfl w.heap.size 157 i0 (.agg #[Value.int .u8 0, Value.int .u8 0, Value.int .u8 0, Value.int .u8 0, Value.int .u8 0, Value.int .u8 0, Value.int .u8 0, Value.int .u8 0]) 8 8 Try.underlying151 hi hz0 hz1 hz2 rfl (by decide) _ _ _ rfl PA.out ⟨w2.heap.size, 0, none⟩ 1 1 K.toList rfl ?c1 ?c2 ?c3 ?c4 ?c5 ?c6 ?_))
          case c1 => rw [Array.length_toList, HK.out.size]
          case c2 => intro j u hu; rw [Addr.add_mid]; exact (loadNewP w2 K HK.out.size) j u hu
          case c3 => exact fun u hu => (Array.all_eq_true_iff_forall_mem.1 HK.out.one) u (by simpa using hu)
          case c4 => unfold maxLen; omega
          case c5 => omega
          case c6 => simp; omega
          intro v' w1' hown' hgrow _
          have HP' : Hid (OwnP w1' w.heap.size v' (pkL (rowsL X (j + 1)))) := Lib.hid (by rw [NP.out]; exact ownP_snoc hown')
          have HQ' : Hid (OwnW w1' w.heap.size u5 (wdL (rowsL X (j + 1)))) := Lib.hid (by rw [NW.out]; exact QA.out.kept hgrow (own_types QA.out PA.out (by decide)))
          have HB' : Hid (Below w.heap.size w w1') := Lib.hid ((B2.out.alloc B2.out.size _).grown hgrow (by simp; omega) (fun q hq => (PA.out.lt q hq).1))
          clear hgrow hown'
          go_wp2
          go_roundw
          case rel => exact ⟨j + 1, by omega, by go_num, HP', HQ', HB'⟩
          case measure => simp [intOf]; omega
        · have FI := Lib.hid (fits_no (VS j) (X j) wr r1 hf)
          have PK := Lib.hid (widen_any (VS j) (X j) wr r1 (H20.out j hlt) (HWF.out j hlt))
          have HK := Lib.hid (wideK_ok (X j) (H20.out j hlt) (HWF.out j hlt))
          have NP : Hid (pkL (rowsL X (j + 1)) = pkL (rowsL X j)) := Lib.hid (by rw [rowsL_succ, pkL_no _ _ hf])
          have NW : Hid (wdL (rowsL X (j + 1)) = wdL (rowsL X j) ++ [wideK (X j)]) := Lib.hid (by rw [rowsL_succ, wdL_no _ _ hf])
          generalize VS j = vj at c1 FI PK
          generalize wideK (X j) = K at PK HK NW
          clear r1 hf
          go_wp2_with fail
          refine FI.out.mono ?_
          rintro e w' ⟨rfl, rfl⟩
          go_wp2_with fail
          refine PK.out.mono ?_
          rintro e w2 ⟨rfl, hb2⟩
          have hsz2 := hb2.size
          have P2 := Lib.hid (own_below hp.out hb2)
          have Q2 := Lib.hid (own_below hq.out hb2)
          have B2 := Lib.hid (hb.out.trans (hb2.mono hsz))
          have PA := Lib.hid (P2.out.alloc (.cells K 161))
          have QA := Lib.hid (Q2.out.alloc (.cells K 161))
          clear hb2 hp hq
          go_wp2_with (first
            | (refine bsKW w2 rfl _ rfl K rfl HK.out ?_)
            | (at_builtin; refine wpList_append_own _ rfl _ _ 152 rfl w.heap.size 161 i1 (.agg #[Value.int .i64 0, Value.int .i64 0, Value.int .i64 0, Value.int .i64 0, Value.int .i64 0, Value.int .i64 0, Value.int .i64 0, Value.int .i64 0, Value.int .i64 0, Value.int .i64 0, Value.int .i64 0, Value.int .i64 0, Value.int .i64 0, Value.int .i64 0, Value.int .i64 0, Value.int .i64 0, Value.int .i64 0, Value.int .i64 0, Value.int .i64 0, Value.int .i64 0, Value.int .i64 0]) 21 168 Try.underlying152 hj1 hy0 hy1 hy2 rfl (by decide) _ _ _ rfl QA.out ⟨w2.heap.size, 0, none⟩ 1 1 K.toList rfl ?c1 ?c2 ?c3 ?c4 ?c5 ?c6 ?_))
          case c1 => rw [Array.length_toList, HK.out.size]
          case c2 => intro j u hu; rw [Addr.add_mid]; exact (loadNewW w2 K HK.out.size) j u hu
          case c3 => exact fun u hu => (Array.all_eq_true_iff_forall_mem.1 HK.out.one) u (by simpa using hu)
          case c4 => unfold maxLen; omega
          case c5 => omega
          case c6 => simp; omega
          intro v' w1' hown' hgrow _
          have HQ' : Hid (OwnW w1' w.heap.size v' (wdL (rowsL X (j + 1)))) := Lib.hid (by rw [NW.out]; exact ownW_snoc hown')
          have HP' : Hid (OwnP w1' w.heap.size u4 (pkL (rowsL X (j + 1)))) := Lib.hid (by rw [NP.out]; exact PA.out.kept hgrow (own_types PA.out QA.out (by decide)))
          have HB' : Hid (Below w.heap.size w w1') := Lib.hid ((B2.out.alloc B2.out.size _).grown hgrow (by simp; omega) (fun q hq => (QA.out.lt q hq).1))
          clear hgrow hown'
          go_wp2
          go_roundw
          case rel => exact ⟨j + 1, by omega, by go_num, HP', HQ', HB'⟩
          case measure => simp [intOf]; omega
      · obtain rfl : j = m := by omega
        have HP := hp
        have HQ := hq
        clear hp hq
        go_wp2
        go_ret2
        exact ⟨_, _, rfl, HP.out, HQ.out, hb.out⟩
end Go.Proofs.Ytnmilkehggjpfaa
end
section
namespace Go.Proofs.Ytnmilkehggjpfaa
open Go.RowKit Go.Maps
set_option linter.unusedVariables false
set_option maxRecDepth 100000

theorem idxP (w : World) (k : Array Value) (j : Nat) (hj : j < 8) (q : IntKind) (z : Int) (h : k[j]? = some (.int q z)) : (Instr.index 157 (.agg k) (.int .i64 (j : Int))).run Try.prog w = .ok (.int q z) w := by
  have h0 : (j : Int) < 8 := by omega
  have hp := run_part_plain (P := Try.prog) (e := 5) (by kernel_rfl) (w := w) h
  have hs : (Go.sizeOf 5).run Try.prog w = .ok 1 w := by kernel_rfl
  simp [Instr.index, run_underlying Try.underlying157, asIntOf, hs, hp]
  intro h8
  omega

theorem packK_at (xs : List Int) (hf : fits xs) (j : Nat) (hj : j < 8) : (packK xs)[j]? = some (.int .u8 (if j < xs.length then xs[j]?.getD 0 + 1 else 0)) := by
  simp [packK, pkA, pkI, hj]

set_option maxHeartbeats 1000000 in
theorem termP_any (xs : List Int) (w : World) (hf : fits xs) :
    Calls Try.prog 142 #[.agg (packK xs)] w fun e w' => ∃ v, e = .returned v ∧ w'.ownsRow w.heap.size 2 1 v xs.length (xs.map (Value.int .i64)) ∧ Below w.heap.size w w' := by
  obtain ⟨i0, hi, hz0, hz1, hz2⟩ := info_parts Try.info2
  have HI : Hid (∀ j : Nat, j < 8 → ∀ w : World, (Instr.index 157 (.agg (packK xs)) (.int .i64 (j : Int))).run Try.prog w = .ok (.int .u8 (if j < xs.length then xs[j]?.getD 0 + 1 else 0)) w) := Lib.hid fun j hj w => idxP w _ j hj _ _ (packK_at xs hf j hj)
  have HSZ : Hid ((packK xs).size = 8) := Lib.hid (packK_ok xs hf).size
  have HONE : Hid ((packK xs).all (·.oneCell') = true) := Lib.hid (packK_ok xs hf).one
  obtain ⟨h8, hfit⟩ := hf
  have HF := Lib.hid hfit
  clear hfit
  obtain ⟨K, hK⟩ : ∃ K, packK xs = K := ⟨_, rfl⟩
  rw [hK] at HSZ HONE HI ⊢
  clear hK
  have HN := Lib.hid (loadNewP w K HSZ.out)
  go_enter Try.func142, Try.ntmps142
  go_wp2_with (refine ldKP rfl _ rfl w.heap.size 0 rfl K HN.out HSZ.out ?_)
  go_loopw [3, 5, 7] (fun v _ c wr => ∃ k : Nat, k ≤ xs.length ∧ c = .int .i64 k ∧ Hid (wr.ownsRow w.heap.size 2 1 v k ((xs.take k).map (Value.int .i64))) ∧ Hid (Below w.heap.size w wr)) (fun _ _ c _ => 8 - (intOf c).toNat)
  case atStart => exact ⟨0, Nat.zero_le _, rfl, Lib.hid (World.ownsRow_nil _ _ _ _), Lib.hid ((Below.refl _ w).alloc (Nat.le_refl _) _)⟩
  case round =>
    obtain ⟨k, hk, rfl, hown, hbel⟩ := hrel
    by_cases hk8 : k < 8
    · have hk8' : (k : Int) < 8 := by omega
      have hix := HI.out k hk8
      by_cases h1 : k < xs.length
      · rw [if_pos h1] at hix
        obtain ⟨h2, h3⟩ := HF.out k h1
        have HT : Hid ((xs.take (k + 1)).map (Value.int .i64) = (xs.take k).map (Value.int .i64) ++ [.int .i64 (xs[k]?.getD 0)]) := Lib.hid (by
          rw [List.take_add_one, List.getElem?_eq_getElem h1, List.map_append]; rfl)
        generalize xs[k]?.getD 0 = x at hix h2 h3 HT
        have w1 : IntKind.i64.wrap (x + 1) = x + 1 := by rw [IntKind.wrap_i64]; omega
        have w2 : IntKind.i64.wrap x = x := by rw [IntKind.wrap_i64]; omega
        have hne : (x + 1 == 0) = false := by rw [beq_eq_false_iff_ne]; omega
        have hsz := hbel.out.size
        clear h2 h3
        go_wp2_with (at_builtin; refine wpList_append_own _ rfl _ _ 65 rfl w.heap.size 2 i0 (.int .i64 0) 1 8 Try.underlying65 hi hz0 hz1 hz2 rfl (by decide) _ _ _ rfl (hown.out.alloc _) ⟨wr.heap.size, 0, none⟩ 1 1 [.int .i64 x] rfl rfl ?c1 ?c2 ?c3 ?c4 ?c5 ?_)
        case c1 =>
          intro j u hj
          match j, hj with
          | 0, hj => simp at hj; subst hj; simp [Addr.add]
        case c2 => intro u hu; simp at hu; subst hu; rfl
        case c3 => unfold maxLen; omega
        case c4 => omega
        case c5 => simp; omega
        intro v' w1' hown' hgrow _
        have HO : Hid (w1'.ownsRow w.heap.size 2 1 v' (k + 1) ((xs.take (k + 1)).map (Value.int .i64))) := Lib.hid (by rw [HT.out, List.map_take]; exact hown')
        have HB : Hid (Below w.heap.size w w1') := Lib.hid ((hbel.out.alloc hsz _).grown hgrow (by simp; omega) (fun q hq => (hown.out.lt q hq).1))
        clear hgrow hown' hbel hown
        go_wp2
        go_roundw
        case rel => exact ⟨k + 1, by omega, by go_num, HO, HB⟩
        case measure => simp [intOf]; omega
      · rw [if_neg h1] at hix
        obtain rfl : k = xs.length := by omega
        go_wp2
        go_ret
        refine ⟨_, rfl, ?_, hbel.out⟩
        have := hown.out
        rw [List.take_length] at this
        exact this
    · have hk8' : ¬ (k : Int) < 8 := by omega
      obtain rfl : k = xs.length := by omega
      go_wp2
      go_ret
      refine ⟨_, rfl, ?_, hbel.out⟩
      have := hown.out
      rw [List.take_length] at this
      exact this
end Go.Proofs.Ytnmilkehggjpfaa
end
