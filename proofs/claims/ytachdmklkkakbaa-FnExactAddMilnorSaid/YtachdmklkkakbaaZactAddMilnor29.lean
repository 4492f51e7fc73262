/-
  Joined: KKeysOf.
-/
import Derived.Test.YtachdmklkkakbaaZactAddMilnor22
import Derived.Test.YtachdmklkkakbaaZactAddMilnor26
import Derived.Test.YtachdmklkkakbaaZactAddMilnor27
import Derived.Test.YtachdmklkkakbaaZactAddMilnor28
section
namespace Go.Proofs.Ytachdmklkkakbaa
open Go.RowKit Go.Maps
set_option linter.unusedVariables false
set_option maxRecDepth 100000

theorem bsKP {ops : Array Oper} {rest : List Oper} {o : Oper} {a : Act} {Q : Exit → Act → World → Prop} (w : World) (hgd : o.guard = none) (x : Operand) (ho : o.op = .buildSlice 87 1 #[(0, x)])
    (k : Array Value) (hx : a.eval x = .agg k) (hk : KOKP k) (h : wpList Try.prog ops Q rest (a.put o.dst (.slice (some ⟨w.heap.size, 0, none⟩) 1 1)) (w.alloc (.cells k 93))) : wpList Try.prog ops Q (o :: rest) a w := by
  refine wpList_plain hgd fun K' hK' => ?_
  have hr := bsRunP w k hk
  unfold Oper.wp execOp
  simp only [ho, List.map_toArray, List.map_cons, List.map_nil, hx, hr, Sem.run_bind, Sem.run_pure, Result.andThen_ok]
  exact hK' _ _ h
theorem bsKW {ops : Array Oper} {rest : List Oper} {o : Oper} {a : Act} {Q : Exit → Act → World → Prop} (w : World) (hgd : o.guard = none) (x : Operand) (ho : o.op = .buildSlice 88 1 #[(0, x)])
    (k : Array Value) (hx : a.eval x = .agg k) (hk : KOKW k) (h : wpList Try.prog ops Q rest (a.put o.dst (.slice (some ⟨w.heap.size, 0, none⟩) 1 1)) (w.alloc (.cells k 98))) : wpList Try.prog ops Q (o :: rest) a w := by
  refine wpList_plain hgd fun K' hK' => ?_
  have hr := bsRunW w k hk
  unfold Oper.wp execOp
  simp only [ho, List.map_toArray, List.map_cons, List.map_nil, hx, hr, Sem.run_bind, Sem.run_pure, Result.andThen_ok]
  exact hK' _ _ h

/-- The keys of lists, of both kinds. -/
def pkL (l : List (List Int)) : List (Array Value) := (l.filter (fun x => decide (fits x))).map packK
def wdL (l : List (List Int)) : List (Array Value) := (l.filter (fun x => !decide (fits x))).map wideK
theorem pkL_yes (l : List (List Int)) (x : List Int) (h : fits x) : pkL (l ++ [x]) = pkL l ++ [packK x] := by simp [pkL, h]
theorem pkL_no (l : List (List Int)) (x : List Int) (h : ¬ fits x) : pkL (l ++ [x]) = pkL l := by simp [pkL, h]
theorem wdL_yes (l : List (List Int)) (x : List Int) (h : fits x) : wdL (l ++ [x]) = wdL l := by simp [wdL, h]
theorem wdL_no (l : List (List Int)) (x : List Int) (h : ¬ fits x) : wdL (l ++ [x]) = wdL l ++ [wideK x] := by simp [wdL, h]
theorem pkL_len (l : List (List Int)) : (pkL l).length ≤ l.length := by rw [pkL, List.length_map]; exact List.length_filter_le _ _
theorem wdL_len (l : List (List Int)) : (wdL l).length ≤ l.length := by rw [wdL, List.length_map]; exact List.length_filter_le _ _
theorem ownP_snoc {w : World} {B : Nat} {v : Value} {ks : List (Array Value)} {k : Array Value} (h : w.ownsRow B 93 8 v (ks.length + 1) (ks.flatMap Array.toList ++ k.toList)) : OwnP w B v (ks ++ [k]) := by
  unfold OwnP
  rw [List.length_append, List.length_singleton, List.flatMap_append]
  simpa using h
theorem ownW_snoc {w : World} {B : Nat} {v : Value} {ks : List (Array Value)} {k : Array Value} (h : w.ownsRow B 98 21 v (ks.length + 1) (ks.flatMap Array.toList ++ k.toList)) : OwnW w B v (ks ++ [k]) := by
  unfold OwnW
  rw [List.length_append, List.length_singleton, List.flatMap_append]
  simpa using h

set_option maxHeartbeats 2000000 in
theorem keysOf_any (V : Value) (m : Nat) (X : Nat → List Int) (w : World) (h : RdSS w V m X) (hm : m ≤ 20000) (h20 : ∀ i, i < m → (X i).length ≤ 20) (hwf : ∀ i, i < m → ∀ z ∈ X i, (Lit.int .i64 z).wf = true) :
    Calls Try.prog 85 #[V] w fun e w' => ∃ u v, e = .returned (.tuple #[u, v]) ∧ OwnP w' w.heap.size u (pkL (rowsL X m)) ∧ OwnW w' w.heap.size v (wdL (rowsL X m)) ∧ Below w.heap.size w w' := by
  obtain ⟨i0, hi, hz0, hz1, hz2⟩ := info_parts infoEP
  obtain ⟨i1, hj1, hy0, hy1, hy2⟩ := info_parts infoEW
  obtain ⟨⟨a, cap, rfl⟩, hsm, VS, hc, hr⟩ := h
  by_cases h0 : m = 0
  · subst h0
    clear hc hr h20 hwf
    go_enter Try.func85, Try.ntmps85
    go_wp2
    refine wp_loop_rounds 1 ?_
    rw [rounds_succ]
    go_wp2
    go_ret2
    exact ⟨_, _, rfl, World.ownsRow_nil _ _ _ _, World.ownsRow_nil _ _ _ _, Below.refl _ _⟩
  · obtain ⟨b, off, ⟨cap', e⟩, hc'⟩ := hc.resolve_left h0
    cases e
    have HC := Lib.hid hc'
    have HR := Lib.hid hr
    have H20 := Lib.hid h20
    have HWF := Lib.hid hwf
    have hlt0 : ∀ i, i < m → b < w.heap.size := fun i hi => World.block_lt_of_cell? w ⟨b, off + i, none⟩ (hc' i hi)
    have hbl := hlt0 0 (by omega)
    clear hc hc' hr h20 hwf hlt0 h0
    go_enter Try.func85, Try.ntmps85
    go_wp2
    go_loopw [4, 5, 7, 10] (fun p q _ c wr => ∃ j : Nat, j ≤ m ∧ c = .int .i64 j ∧ Hid (OwnP wr w.heap.size p (pkL (rowsL X j))) ∧ Hid (OwnW wr w.heap.size q (wdL (rowsL X j))) ∧ Hid (Below w.heap.size w wr)) (fun _ _ _ c _ => m - (intOf c).toNat)
    case atStart => exact ⟨0, Nat.zero_le _, rfl, Lib.hid (World.ownsRow_nil _ _ _ _), Lib.hid (World.ownsRow_nil _ _ _ _), Lib.hid (Below.refl _ _)⟩
    case round =>
      obtain ⟨j, hj, rfl, hp, hq, hb⟩ := hrel
      by_cases hlt : j < m
      · have hlt' : (j : Int) < (m : Int) := by omega
        have c1 : wr.cell? ⟨b, off + j, none⟩ = some (VS j) := (hb.out.cell (p := ⟨b, off + j, none⟩) hbl).trans (HC.out j hlt)
        have r1 : RdL wr (VS j) (X j) := (HR.out j hlt).below hb.out
        have hl1 : (pkL (rowsL X j)).length ≤ 20000 := by have := pkL_len (rowsL X j); rw [rowsL_len] at this; omega
        have hl2 : (wdL (rowsL X j)).length ≤ 20000 := by have := wdL_len (rowsL X j); rw [rowsL_len] at this; omega
        have hsz := hb.out.size
        by_cases hf : fits (X j)
        · have FI := Lib.hid (fits_yes (VS j) (X j) wr r1 hf)
          have PK := Lib.hid (packTerm_any (VS j) (X j) wr r1 hf)
          have HK := Lib.hid (packK_ok (X j) hf)
          have NP : Hid (pkL (rowsL X (j + 1)) = pkL (rowsL X j) ++ [packK (X j)]) := Lib.hid (by rw [rowsL_succ, pkL_yes _ _ hf])
          have NW : Hid (wdL (rowsL X (j + 1)) = wdL (rowsL X j)) := Lib.hid (by rw [rowsL_succ, wdL_yes _ _ hf])
          generalize VS j = vj at c1 FI PK
          generalize packK (X j) = K at PK HK NP
          clear r1 hf
          go_wp2_with fail
          refine FI.out.mono ?_
          rintro e w' ⟨rfl, rfl⟩
          go_wp2_with fail
          refine PK.out.mono ?_
          rintro e w2 ⟨rfl, hb2⟩
          have hsz2 := hb2.size
          have P2 := Lib.hid (own_below hp.out hb2)
          have Q2 := Lib.hid (own_below hq.out hb2)
          have B2 := Lib.hid (hb.out.trans (hb2.mono hsz))
          have PA := Lib.hid (P2.out.alloc (.cells K 93))
          have QA := Lib.hid (Q2.out.alloc (.cells K 93))
          clear hb2 hp hq
          go_wp2_with (first
            | (refine bsKP w2 rfl _ rfl K rfl HK.out ?_)
            | (at_builtin; refine wpList_append_own _ rfl _ _ 87 rfl w.heap.size 93 i0 (.agg #[Value.int .u8 0, Value.int .u8 0, Value.int .u8 0, Value.int .u8 0, Value.int .u8 0, Value.int .u8 0, Value.int .u8 0, Value.int .u8 0]) 8 8 Try.underlying87 hi hz0 hz1 hz2 rfl (by decide) _ _ _ rfl PA.out ⟨w2.heap.size, 0, none⟩ 1 1 K.toList rfl ?c1 ?c2 ?c3 ?c4 ?c5 ?c6 ?_))
          case c1 => rw [Array.length_toList, HK.out.size]
          case c2 => intro j u hu; rw [Addr.add_mid]; exact (loadNewP w2 K HK.out.size) j u hu
          case c3 => exact fun u hu => (Array.all_eq_true_iff_forall_mem.1 HK.out.one) u (by simpa using hu)
          case c4 => unfold maxLen; omega
          case c5 => omega
          case c6 => simp; omega
          intro v' w1' hown' hgrow _
          have HP' : Hid (OwnP w1' w.heap.size v' (pkL (rowsL X (j + 1)))) := Lib.hid (by rw [NP.out]; exact ownP_snoc hown')
          have HQ' : Hid (OwnW w1' w.heap.size u5 (wdL (rowsL X (j + 1)))) := Lib.hid (by rw [NW.out]; exact QA.out.kept hgrow (own_types QA.out PA.out (by decide)))
          have HB' : Hid (Below w.heap.size w w1') := Lib.hid ((B2.out.alloc B2.out.size _).grown hgrow (by simp; omega) (fun q hq => (PA.out.lt q hq).1))
          clear hgrow hown'
          go_wp2
          go_roundw
          case rel => exact ⟨j + 1, by omega, by go_num, HP', HQ', HB'⟩
          case measure => simp [intOf]; omega
        · have FI := Lib.hid (fits_no (VS j) (X j) wr r1 hf)
          have PK := Lib.hid (widen_any (VS j) (X j) wr r1 (H20.out j hlt) (HWF.out j hlt))
          have HK := Lib.hid (wideK_ok (X j) (H20.out j hlt) (HWF.out j hlt))
          have NP : Hid (pkL (rowsL X (j + 1)) = pkL (rowsL X j)) := Lib.hid (by rw [rowsL_succ, pkL_no _ _ hf])
          have NW : Hid (wdL (rowsL X (j + 1)) = wdL (rowsL X j) ++ [wideK (X j)]) := Lib.hid (by rw [rowsL_succ, wdL_no _ _ hf])
          generalize VS j = vj at c1 FI PK
          generalize wideK (X j) = K at PK HK NW
          clear r1 hf
          go_wp2_with fail
          refine FI.out.mono ?_
          rintro e w' ⟨rfl, rfl⟩
          go_wp2_with fail
          refine PK.out.mono ?_
          rintro e w2 ⟨rfl, hb2⟩
          have hsz2 := hb2.size
          have P2 := Lib.hid (own_below hp.out hb2)
          have Q2 := Lib.hid (own_below hq.out hb2)
          have B2 := Lib.hid (hb.out.trans (hb2.mono hsz))
          have PA := Lib.hid (P2.out.alloc (.cells K 98))
          have QA := Lib.hid (Q2.out.alloc (.cells K 98))
          clear hb2 hp hq
          go_wp2_with (first
            | (refine bsKW w2 rfl _ rfl K rfl HK.out ?_)
            | (at_builtin; refine wpList_append_own _ rfl _ _ 88 rfl w.heap.size 98 i1 (.agg #[Value.int .i64 0, Value.int .i64 0, Value.int .i64 0, Value.int .i64 0, Value.int .i64 0, Value.int .i64 0, Value.int .i64 0, Value.int .i64 0, Value.int .i64 0, Value.int .i64 0, Value.int .i64 0, Value.int .i64 0, Value.int .i64 0, Value.int .i64 0, Value.int .i64 0, Value.int .i64 0, Value.int .i64 0, Value.int .i64 0, Value.int .i64 0, Value.int .i64 0, Value.int .i64 0]) 21 168 Try.underlying88 hj1 hy0 hy1 hy2 rfl (by decide) _ _ _ rfl QA.out ⟨w2.heap.size, 0, none⟩ 1 1 K.toList rfl ?c1 ?c2 ?c3 ?c4 ?c5 ?c6 ?_))
          case c1 => rw [Array.length_toList, HK.out.size]
          case c2 => intro j u hu; rw [Addr.add_mid]; exact (loadNewW w2 K HK.out.size) j u hu
          case c3 => exact fun u hu => (Array.all_eq_true_iff_forall_mem.1 HK.out.one) u (by simpa using hu)
          case c4 => unfold maxLen; omega
          case c5 => omega
          case c6 => simp; omega
          intro v' w1' hown' hgrow _
          have HQ' : Hid (OwnW w1' w.heap.size v' (wdL (rowsL X (j + 1)))) := Lib.hid (by rw [NW.out]; exact ownW_snoc hown')
          have HP' : Hid (OwnP w1' w.heap.size u4 (pkL (rowsL X (j + 1)))) := Lib.hid (by rw [NP.out]; exact PA.out.kept hgrow (own_types PA.out QA.out (by decide)))
          have HB' : Hid (Below w.heap.size w w1') := Lib.hid ((B2.out.alloc B2.out.size _).grown hgrow (by simp; omega) (fun q hq => (QA.out.lt q hq).1))
          clear hgrow hown'
          go_wp2
          go_roundw
          case rel => exact ⟨j + 1, by omega, by go_num, HP', HQ', HB'⟩
          case measure => simp [intOf]; omega
      · obtain rfl : j = m := by omega
        have HP := hp
        have HQ := hq
        clear hp hq
        go_wp2
        go_ret2
        exact ⟨_, _, rfl, HP.out, HQ.out, hb.out⟩
end Go.Proofs.Ytachdmklkkakbaa
end
