/-
  Joined: KAppP.
-/
import Derived.Test.YtachdmklkkakbaaZactAddMilnor21
import Derived.Maps.AppendAt
import Derived.Shelf.AbstractIn
section
namespace Go.Proofs.Ytachdmklkkakbaa
open Go.RowKit Go.Maps Go.Shelf
attribute [local go_sem] Oper.semAt_some
set_option linter.unusedVariables false
set_option maxRecDepth 100000

theorem infoEP : (Try.prog.info? 93).map (fun i => (i.zero, i.size, i.bytes)) = some (some (.agg #[Value.int .u8 0, Value.int .u8 0, Value.int .u8 0, Value.int .u8 0, Value.int .u8 0, Value.int .u8 0, Value.int .u8 0, Value.int .u8 0]), 8, 8) := by kernel_rfl

/-- The cells of the keys that have come. -/
def flatP (ss : List KTP) : List Value := ss.flatMap fun x => x.1.toList
theorem flatP_snoc (ss : List KTP) (x : KTP) : flatP (ss ++ [x]) = flatP ss ++ x.1.toList := by simp [flatP]

theorem rangeOfP {w : World} {b : Nat} {k : Array Value} {t : TypeId} (h : w.heap[b]? = some (.cells k t (0, 0))) : w.rangeAt b 0 k.toList := by
  intro j v hv
  rw [Nat.zero_add, cell_of_row _ b j k t (0, 0) h]
  simpa using hv

theorem bsRunP (w : World) (k : Array Value) (hk : KOKP k) : (Instr.buildSlice 87 1 #[(0, .agg k)]).run Try.prog w = .ok (.slice (some ⟨w.heap.size, 0, none⟩) 1 1) (w.alloc (.cells k 93)) := by
  obtain ⟨z0, z1, z2, z3, z4, z5, z6, z7, rfl⟩ := hk.lit
  first
    | kernel_rfl
    | (simp [Instr.buildSlice]; done)
theorem bsKIP {F : Fence} {n : Nat} {ops : Array Oper} {rest : List Oper} {o : Oper} {a : Act} {Q : Exit → Act → World → Prop} (w : World) (hgd : o.guard = none) (x : Operand) (ho : o.op = .buildSlice 87 1 #[(0, x)])
    (k : Array Value) (hx : a.eval x = .agg k) (hk : KOKP k) (h : wpListIn F n Try.prog ops Q rest (a.put o.dst (.slice (some ⟨w.heap.size, 0, none⟩) 1 1)) (w.alloc (.cells k 93))) : wpListIn F n Try.prog ops Q (o :: rest) a w := by
  refine wpListIn_plain hgd fun K' hK' => ?_
  unfold Oper.wpIn
  refine ⟨?_, ?_⟩
  · simp [Oper.about, ho]
  · rw [Oper.semAt_plain F _ _ (by rw [ho]; intro c hc'; cases hc')]
    have hr := bsRunP w k hk
    unfold execOp
    simp only [ho, List.map_toArray, List.map_cons, List.map_nil, hx, hr, Sem.run_bind, Sem.run_pure, Result.andThen_ok]
    exact hK' _ _ h

set_option maxHeartbeats 1000000 in
theorem appSeqP (F : Fence) (n : Nat) (hA : F.fn 116) (hF : F.fn 117) (hro : F.round = none) (hn : 3 ≤ n) (Bm b nn : Nat) (D0 : DataW Unit) (w : World) (hBm : Bm < w.heap.size)
    (hm : w.cell? ⟨Bm, 0, none⟩ = some (.map (some b))) (hown : w.ownsMap Try.prog 93 (plainElem Try.prog 4) b nn D0) (hnn : nn ≤ 1000000000) :
    CallsIn F n Try.prog 116 #[.slice none 0 0, .func (.func 117) #[] #[.pointer (some ⟨Bm, 0, none⟩)]] w fun e w' =>
      ∃ (u : Value) (ss : List KTP), e = .returned u ∧ (ss.Nodup ∧ ∀ (k : KTP) l, keyOf Try.prog 93 (.agg k.1) = some l → (k ∈ ss ↔ has D0 l = true)) ∧ w'.ownsRow w.heap.size 93 8 u ss.length (flatP ss) ∧ Below w.heap.size w w' := by
  have h1 : 1 ≤ n := by omega
  have hsz := hown.size_le
  obtain ⟨i0, hi, hz0, hz1, hz2⟩ := info_parts infoEP
  refine callsIn_of_wp_marks Try.func116 rfl hA ?_ hro
  simp only [Try.ntmps116, List.size_toArray, List.length_cons, List.length_nil, Nat.reduceAdd, Nat.reduceSub, Array.replicate_succ, Array.replicate_zero, List.push_toArray, List.append_toArray, List.nil_append, List.cons_append]
  gi_wp2
  have hb0 : Below w.heap.size w (w.alloc (.cells #[.slice none 0 0] 87)) := (Below.refl _ w).alloc (Nat.le_refl _) _
  refine wpIn_rangeFunc_ownH hro h1 (gf := 117) (lb := #[.pointer (some ⟨Bm, 0, none⟩)]) rfl hF (enters_of Try.func117 (by kernel_rfl) rfl)
    (keysStopsP F (n - 1) hF hro (by omega) Bm b nn D0 w hBm hm hown) walksK_t walksK_b hb0 (fun _ => rfl)
    (fun pre W => (∃ v, Boxed W w.heap.size 87 v ∧ W.ownsRow w.heap.size 93 8 v pre.length (flatP pre) ∧ True) ∧ Below w.heap.size w W)
    (fun _ _ _ => False)
    (OwnFrom.and (Own.from (holdsRow_own w.heap.size w.heap.size 87 93 8 (fun pre : List KTP => pre.length) flatP (fun _ _ => True)) _) (ownFrom_below (Nat.le_refl _) (by simp)))
    (fun _ _ _ _ _ hs _ _ => hs)
    ⟨⟨_, Boxed.new w _ _, World.ownsRow_nil _ _ _ _, trivial⟩, hb0⟩
    (fun x a' W => ∃ Bx, W.heap[Bx]? = some (.cells x.1 93 (0, 0)) ∧ a' = { tmps := #[.slice none 0 0, .func (.func 117) #[] #[.pointer (some ⟨Bm, 0, none⟩)], .pointer (some ⟨w.heap.size, 0, none⟩), undef, .slice none 0 0, .pointer (some ⟨Bx, 0, none⟩), .func (.func 117) #[] #[.pointer (some ⟨Bm, 0, none⟩)], .agg x.1, undef, undef, undef, undef, undef], defers := [] })
    (fun x a' s A B row hs hg hr => by
      obtain ⟨Bx, h2, h3⟩ := hs
      refine ⟨Bx, (hg.block Bx (Array.getElem?_eq_some_iff.1 h2).1 (fun e => ?_)).trans h2, h3⟩
      obtain ⟨_, o, ho, hc⟩ := hr Bx e.symm
      rw [h2] at ho
      cases ho
      cases hc) ?assign ?body ?done ?stop
  case assign =>
    rintro l pre ⟨k, hk⟩ W K ⟨⟨v, hv, hrow, _⟩, hB⟩ hK
    have HSZ := Lib.hid hk.size
    have HONE := Lib.hid hk.one
    gi_wp2_with (refine stKIP W rfl _ _ rfl rfl k rfl HSZ.out HONE.out ?_)
    exact hK _ _ ((KeepsOthers.alloc _ _).from _) (KeepsWalks.alloc _ _) ⟨⟨v, hv.alloc _, hrow.alloc _, trivial⟩, hB.alloc hB.size _⟩ ⟨W.heap.size, heap_alloc_new W _, rfl⟩
  case body =>
    rintro l pre ⟨k, hk⟩ a' W hl ⟨r, hr⟩ ⟨⟨v, hv, hrow, _⟩, hB⟩ ⟨Bx, hx, rfl⟩ hlt
    have HSZ := Lib.hid hk.size
    have HONE := Lib.hid hk.one
    have HX := Lib.hid (rangeOfP hx)
    have hc := hv.cell
    have hlen : pre.length < 1000000000 := by omega
    gi_wp2_with (first
      | (refine ldKIP rfl _ rfl Bx 0 rfl k HX.out HSZ.out ?_)
      | (refine bsKIP W rfl _ rfl k rfl hk ?_)
      | (gi_at_builtin; refine wpListIn_append_own _ rfl _ _ 87 rfl w.heap.size 93 i0 (.agg #[Value.int .u8 0, Value.int .u8 0, Value.int .u8 0, Value.int .u8 0, Value.int .u8 0, Value.int .u8 0, Value.int .u8 0, Value.int .u8 0]) 8 8 Try.underlying87 hi hz0 hz1 hz2 rfl (by decide) _ _ _ rfl (hrow.alloc _) ⟨W.heap.size, 0, none⟩ 1 1 k.toList rfl (by rw [Array.length_toList, HSZ.out]) (fun j u hu => by have h := (loadNewP W k HSZ.out) j u hu; rw [Addr.add_mid]; exact h) (fun u hu => (Array.all_eq_true_iff_forall_mem.1 HONE.out) u (by simpa using hu)) (by unfold maxLen; omega) (by omega) (by have := hB.size; simp; omega) ?_))
    intro v' w1 hown' hgrow _
    obtain ⟨g', cap', rfl⟩ := ownsRow_succ hown'
    obtain ⟨hv1, hv2, hr2, hk2, hb2⟩ := hv.appended (by decide) hrow hB.size (Nat.le_refl _) hown' hgrow
    have hc1 := hv1.cell
    have hf1 := hv1.frozen
    have HR2 := Lib.hid hr2
    have HB2 := Lib.hid (hB.trans hb2)
    have HK2 := Lib.hid hk2
    have HV2 := Lib.hid hv2
    clear hr2 hb2 hk2 hv2 hgrow hown' hc
    gi_wp2
    refine ⟨HK2.out.from _, HK2.out.walks, ⟨_, HV2.out, ?_, trivial⟩, HB2.out⟩
    rw [flatP_snoc, List.length_append, List.length_singleton]
    exact HR2.out
  case done =>
    rintro D ys W hD hS ⟨⟨v, hv, hrow, _⟩, hB⟩ hK
    have hc := hv.cell
    gi_wp2
    refine ⟨by simp, .inl ⟨_, _, rfl, run_takeDeferred hK, ?_⟩⟩
    refine ⟨_, results_tmp rfl _ _ _, _, ys, rfl, hS, ownsRow_putObj hrow _ hK rfl, ?_⟩
    have hg : W.grownBy (W.putObj D (.deferred none)) (some D) := grownBy_putObj' _ _ _
    exact hB.grown hg hB.size (fun k e => by cases e; simp at hD; omega)
  case stop =>
    rintro D c pre W _ _ h _
    exact h.elim

theorem collsP (F : Fence) (n : Nat) (h8 : F.fn 106) (hA : F.fn 116) (hF : F.fn 117) (hro : F.round = none) (hn : 4 ≤ n) (Bm b nn : Nat) (D0 : DataW Unit) (w : World) (hBm : Bm < w.heap.size)
    (hm : w.cell? ⟨Bm, 0, none⟩ = some (.map (some b))) (hown : w.ownsMap Try.prog 93 (plainElem Try.prog 4) b nn D0) (hnn : nn ≤ 1000000000) :
    CallsIn F n Try.prog 106 #[.func (.func 117) #[] #[.pointer (some ⟨Bm, 0, none⟩)]] w fun e w' =>
      ∃ (u : Value) (ss : List KTP), e = .returned u ∧ (ss.Nodup ∧ ∀ (k : KTP) l, keyOf Try.prog 93 (.agg k.1) = some l → (k ∈ ss ↔ has D0 l = true)) ∧ w'.ownsRow w.heap.size 93 8 u ss.length (flatP ss) ∧ Below w.heap.size w w' := by
  have h1 : 1 ≤ n := by omega
  have A := Lib.hid (appSeqP F (n - 1) hA hF hro (by omega) Bm b nn D0 w hBm hm hown hnn)
  have e11 : ∀ args w, (callFunc 116 args).run Try.prog w = .ok (.enter 116 args) w := enters_of Try.func116 (by kernel_rfl) rfl
  clear hm hown
  refine callsIn_of_wp Try.func106 rfl h8 ?_ hro
  simp only [Try.ntmps106, List.size_toArray, List.length_cons, List.length_nil, Nat.reduceAdd, Nat.reduceSub, Array.replicate_succ, Array.replicate_zero, List.push_toArray, List.append_toArray, List.nil_append, List.cons_append]
  gi_wp2_with (gi_at_fn 116; refine A.out.mono ?_; rintro e w' ⟨u, ss, rfl, hS, hrow, hb⟩)
  go_ret
  exact ⟨u, ss, rfl, hS, hrow, hb⟩

theorem colP : ColAllP := by
  intro w Bm m n D hm hown hn
  refine (callsIn_wide (n := 4)).1 ((collsP Fence.wide 4 trivial trivial trivial rfl (by omega) Bm m n D w (World.block_lt_of_cell? w _ hm) hm hown hn).mono ?_)
  rintro e w' ⟨u, ss, rfl, ⟨hnd, hmem⟩, hrow, hb⟩
  refine ⟨u, ss.map (·.1), rfl, ?_, hb, ?_, fun k => ?_⟩
  · unfold OwnP
    rw [List.length_map, List.flatMap_map]
    exact hrow
  · exact List.pairwise_map.2 (hnd.imp fun hne e => hne (Subtype.ext e))
  · constructor
    · intro hk
      obtain ⟨x, hx, rfl⟩ := List.mem_map.1 hk
      obtain ⟨l, hl⟩ := x.2.key
      exact ⟨l, hl, (hmem x l hl).1 hx⟩
    · rintro ⟨l, hl, hh⟩
      obtain ⟨k', e, hk'⟩ := keyP_inv hl
      cases e
      exact List.mem_map.2 ⟨⟨k, hk'⟩, (hmem ⟨k, hk'⟩ l hl).2 hh, rfl⟩
end Go.Proofs.Ytachdmklkkakbaa
end
