/-
  Joined: NSame, KAppP, KSumW.
-/
import Derived.Test.YtnmilkehggjpfaaZBMil27
import Derived.Deep.RegionWith
import Derived.Test.YtnmilkehggjpfaaZBMil23
import Derived.Maps.AppendAt
import Derived.Shelf.AbstractIn
import Derived.Test.YtnmilkehggjpfaaZBMil04
import Derived.BigRegion
section
namespace Go.Proofs.Ytnmilkehggjpfaa.Ml
open Go.RowKit
set_option linter.unusedVariables false
set_option maxRecDepth 100000

/-- The result's struct is written. -/
theorem finS {w w5 : World} {g gR : Nat} {V x : Value} {VS : Nat → Value} {L : List (List Int)} (hF : FamL w5 g V VS L) (hBe : Below w.heap.size w w5) (h0 : w.heap.size ≤ gR) (h1 : gR < g) (BR : Box1 w5 gR 45 x) :
    Box1 (w5.setCell ⟨gR, 0, none⟩ V) gR 45 V ∧ FamL (w5.setCell ⟨gR, 0, none⟩ V) w.heap.size V VS L ∧ Below w.heap.size w (w5.setCell ⟨gR, 0, none⟩ V) :=
  ⟨BR.set V, (Fam.same hF fun q hq hlt => heap_setCell_other _ _ _ _ (by simp; omega)).base (by omega), hBe.setCell (p := ⟨gR, 0, none⟩) h0 V⟩

/-- The three structs of such a function: its arguments and its result. -/
structure Tri (w0 : World) (va vb : Value) (w : World) : Prop where
  bel : Below w0.heap.size w0 w
  bA : Box1 w w0.heap.size 45 va
  bB : Box1 w (w0.heap.size + 1) 45 vb
  bR : Box1 w (w0.heap.size + 1 + 1) 45 (.slice none 0 0)
theorem Tri.up {w0 w w' : World} {va vb : Value} (h : Tri w0 va vb w) (k : Below w.heap.size w w') : Tri w0 va vb w' := ⟨h.bel.step1 k, h.bA.up k, h.bB.up k, h.bR.up k⟩
theorem Tri.drewN {w0 w : World} {va vb : Value} (h : Tri w0 va vb w) (q : Nat) : Tri w0 va vb (w.drewN q) := ⟨below_drewN h.bel q, h.bA, h.bB, h.bR⟩
theorem Tri.size {w0 w : World} {va vb : Value} (h : Tri w0 va vb w) : w0.heap.size + 3 ≤ w.heap.size := by have := h.bR.lt; omega
theorem Tri.start (w : World) (va vb : Value) : Tri w va vb (((w.alloc (.cells #[va] 45)).alloc (.cells #[vb] 45)).alloc (.cells #[.slice none 0 0] 45)) := by
  refine ⟨(((Below.refl w.heap.size w).alloc (Nat.le_refl _) _).alloc (by simp) _).alloc (by simp; omega) _, ((Box1.new w _ _).alloc _).alloc _, ?_, ?_⟩
  · have := (Box1.new (w.alloc (.cells #[va] 45)) 45 vb).alloc (.cells #[.slice none 0 0] 45)
    simpa using this
  · have := Box1.new ((w.alloc (.cells #[va] 45)).alloc (.cells #[vb] 45)) 45 (.slice none 0 0)
    simpa using this
/-- Two boxed arguments. -/
structure Two (w0 : World) (va vb : Value) (w : World) : Prop where
  bel : Below w0.heap.size w0 w
  bA : Box1 w w0.heap.size 45 va
  bB : Box1 w (w0.heap.size + 1) 45 vb
theorem Two.start (w : World) (va vb : Value) : Two w va vb ((w.alloc (.cells #[va] 45)).alloc (.cells #[vb] 45)) := by
  refine ⟨((Below.refl w.heap.size w).alloc (Nat.le_refl _) _).alloc (by simp) _, (Box1.new w _ _).alloc _, ?_⟩
  have := Box1.new (w.alloc (.cells #[va] 45)) 45 vb
  simpa using this

theorem isE_wf {xs : List Int} (h : isE xs) : ∀ z ∈ xs, (Lit.int .i64 z).wf = true := by
  intro z hz
  obtain ⟨i, hi, e⟩ := List.getElem_of_mem hz
  have h1 := h.2.2 i hi
  unfold gOf at h1
  rw [List.getElem?_eq_getElem hi] at h1
  simp only [Option.getD_some] at h1
  rw [e] at h1
  exact (Bool.and_eq_true _ _).mpr ⟨decide_eq_true (by omega : (-9223372036854775808 : Int) ≤ z), decide_eq_true (by omega : z ≤ (9223372036854775807 : Int))⟩

/-- A struct of lists as a result. -/
def ResT (L : List (List Int)) (w : World) (e : Ending) (w' : World) : Prop :=
  ∃ V VS, e = .returned (.agg #[V]) ∧ FamL w' w.heap.size V VS L ∧ Sep L.length VS ∧ Below w.heap.size w w'

theorem plus_any (aa ab : Option Addr) (m n capa capb : Nat) (w : World) (L : List (List Int)) (S : Hid (∀ wx, Below w.heap.size w wx → Calls Try.prog 120 #[.slice aa m capa, .slice ab n capb] wx fun e w' => ∃ V VS, e = .returned V ∧ FamL w' wx.heap.size V VS L ∧ Sep L.length VS ∧ Below wx.heap.size wx w')) :
    Calls Try.prog 93 #[.agg #[.slice aa m capa], .agg #[.slice ab n capb]] w (ResT L w) := by
  have t2 := Try.underlying45
  obtain ⟨w1, hw1⟩ : ∃ w1, w1 = (((w.alloc (.cells #[.slice aa m capa] 45)).alloc (.cells #[.slice ab n capb] 45)).alloc (.cells #[.slice none 0 0] 45)) := ⟨_, rfl⟩
  have T1 : Hid (Tri w (.slice aa m capa) (.slice ab n capb) w1) := Lib.hid (by rw [hw1]; exact Tri.start _ _ _)
  go_enter Try.func93, Try.ntmps93
  go_wp2_with fail
  rw [← hw1]
  clear hw1
  have hsz := T1.out.size
  have d0 := T1.out.bA.c
  have d1 := T1.out.bB.c
  go_wp2_with fail
  refine (S.out w1 T1.out.bel).mono ?_
  rintro e w5 ⟨V, VS, rfl, hF, hS, hb5⟩
  obtain ⟨av, cv, rfl, _, _⟩ := hF.head
  have HF := Lib.hid hF
  have HS := Lib.hid hS
  have T5 := Lib.hid (T1.out.up hb5)
  clear hF hS hb5 d0 d1
  have dR := T5.out.bR.c
  have fR := T5.out.bR.fr 0
  have FIN := finS (w := w) HF.out T5.out.bel (by omega) (by omega) T5.out.bR
  go_wp2_with fail
  refine bodyPost_ret (results_cell_row rfl _ _ (w.heap.size + 1 + 1) 45 _ (0, 0) _ rfl FIN.1 t2 rfl (by kernel_rfl)) rfl ?_
  exact ⟨_, _, rfl, FIN.2.1, HS.out, FIN.2.2⟩
end Go.Proofs.Ytnmilkehggjpfaa.Ml
end
section
namespace Go.Proofs.Ytnmilkehggjpfaa
open Go.RowKit Go.Maps Go.Shelf
attribute [local go_sem] Oper.semAt_some
set_option linter.unusedVariables false
set_option maxRecDepth 100000

theorem infoEP : (Try.prog.info? 157).map (fun i => (i.zero, i.size, i.bytes)) = some (some (.agg #[Value.int .u8 0, Value.int .u8 0, Value.int .u8 0, Value.int .u8 0, Value.int .u8 0, Value.int .u8 0, Value.int .u8 0, Value.int .u8 0]), 8, 8) := by kernel_rfl

/-- The cells of the keys that have come. -/
def flatP (ss : List KTP) : List Value := ss.flatMap fun x => x.1.toList
theorem flatP_snoc (ss : List KTP) (x : KTP) : flatP (ss ++ [x]) = flatP ss ++ x.1.toList := by simp [flatP]

theorem rangeOfP {w : World} {b : Nat} {k : Array Value} {t : TypeId} (h : w.heap[b]? = some (.cells k t (0, 0))) : w.rangeAt b 0 k.toList := by
  intro j v hv
  rw [Nat.zero_add, cell_of_row _ b j k t (0, 0) h]
  simpa using hv

theorem bsRunP (w : World) (k : Array Value) (hk : KOKP k) : (Instr.buildSlice 151 1 #[(0, .agg k)]).run Try.prog w = .ok (.slice (some ⟨w.heap.size, 0, none⟩) 1 1) (w.alloc (.cells k 157)) := by
  obtain ⟨z0, z1, z2, z3, z4, z5, z6, z7, rfl⟩ := hk.lit
  first
    | kernel_rfl
    | (simp [Instr.buildSlice]; done)
theorem bsKIP {F : Fence} {n : Nat} {ops : Array Oper} {rest : List Oper} {o : Oper} {a : Act} {Q : Exit → Act → World → Prop} (w : World) (hgd : o.guard = none) (x : Operand) (ho : o.op = .buildSlice 151 1 #[(0, x)])
    (k : Array Value) (hx : a.eval x = .agg k) (hk : KOKP k) (h : wpListIn F n Try.prog ops Q rest (a.put o.dst (.slice (some ⟨w.heap.size, 0, none⟩) 1 1)) (w.alloc (.cells k 157))) : wpListIn F n Try.prog ops Q (o :: rest) a w := by
  refine wpListIn_plain hgd fun K' hK' => ?_
  unfold Oper.wpIn
  refine ⟨?_, ?_⟩
  · simp [Oper.about, ho]
  · rw [Oper.semAt_plain F _ _ (by rw [ho]; intro c hc'; cases hc')]
    have hr := bsRunP w k hk
    unfold execOp
    simp only [ho, List.map_toArray, List.map_cons, List.map_nil, hx, hr, Sem.run_bind, Sem.run_pure, Result.andThen_ok]
    exact hK' _ _ h

set_option maxHeartbeats 1000000 in
theorem appSeqP (F : Fence) (n : Nat) (hA : F.fn 190) (hF : F.fn 191) (hro : F.round = none) (hn : 3 ≤ n) (Bm b nn : Nat) (D0 : DataW Unit) (w : World) (hBm : Bm < w.heap.size)
    (hm : w.cell? ⟨Bm, 0, none⟩ = some (.map (some b))) (hown : w.ownsMap Try.prog 157 (plainElem Try.prog 4) b nn D0) (hnn : nn ≤ 1000000000) :
    CallsIn F n Try.prog 190 #[.slice none 0 0, .func (.func 191) #[] #[.pointer (some ⟨Bm, 0, none⟩)]] w fun e w' =>
      ∃ (u : Value) (ss : List KTP), e = .returned u ∧ (ss.Nodup ∧ ∀ (k : KTP) l, keyOf Try.prog 157 (.agg k.1) = some l → (k ∈ ss ↔ has D0 l = true)) ∧ w'.ownsRow w.heap.size 157 8 u ss.length (flatP ss) ∧ Below w.heap.size w w' := by
  have h1 : 1 ≤ n := by omega
  have hsz := hown.size_le
  obtain ⟨i0, hi, hz0, hz1, hz2⟩ := info_parts infoEP
  refine callsIn_of_wp_marks Try.func190 rfl hA ?_ hro
  simp only [Try.ntmps190, List.size_toArray, List.length_cons, List.length_nil, Nat.reduceAdd, Nat.reduceSub, Array.replicate_succ, Array.replicate_zero, List.push_toArray, List.append_toArray, List.nil_append, List.cons_append]
  gi_wp2
  have hb0 : Below w.heap.size w (w.alloc (.cells #[.slice none 0 0] 151)) := (Below.refl _ w).alloc (Nat.le_refl _) _
  refine wpIn_rangeFunc_ownH hro h1 (gf := 191) (lb := #[.pointer (some ⟨Bm, 0, none⟩)]) rfl hF (enters_of Try.func191 (by kernel_rfl) rfl)
    (keysStopsP F (n - 1) hF hro (by omega) Bm b nn D0 w hBm hm hown) walksK_t walksK_b hb0 (fun _ => rfl)
    (fun pre W => (∃ v, Boxed W w.heap.size 151 v ∧ W.ownsRow w.heap.size 157 8 v pre.length (flatP pre) ∧ True) ∧ Below w.heap.size w W)
    (fun _ _ _ => False)
    (OwnFrom.and (Own.from (holdsRow_own w.heap.size w.heap.size 151 157 8 (fun pre : List KTP => pre.length) flatP (fun _ _ => True)) _) (ownFrom_below (Nat.le_refl _) (by simp)))
    (fun _ _ _ _ _ hs _ _ => hs)
    ⟨⟨_, Boxed.new w _ _, World.ownsRow_nil _ _ _ _, trivial⟩, hb0⟩
    (fun x a' W => ∃ Bx, W.heap[Bx]? = some (.cells x.1 157 (0, 0)) ∧ a' = { tmps := #[.slice none 0 0, .func (.func 191) #[] #[.pointer (some ⟨Bm, 0, none⟩)], .pointer (some ⟨w.heap.size, 0, none⟩), undef, .slice none 0 0, .pointer (some ⟨Bx, 0, none⟩), .func (.func 191) #[] #[.pointer (some ⟨Bm, 0, none⟩)], .agg x.1, undef, undef, undef, undef, undef], defers := [] })
    (fun x a' s A B row hs hg hr => by
      obtain ⟨Bx, h2, h3⟩ := hs
      refine ⟨Bx, (hg.block Bx (Array.getElem?_eq_some_iff.1 h2).1 (fun e => ?_)).trans h2, h3⟩
      obtain ⟨_, o, ho, hc⟩ := hr Bx e.symm
      rw [h2] at ho
      cases ho
      cases hc) ?assign ?body ?done ?stop
  case assign =>
    rintro l pre ⟨k, hk⟩ W K ⟨⟨v, hv, hrow, _⟩, hB⟩ hK
    have HSZ := Lib.hid hk.size
    have HONE := Lib.hid hk.one
    gi_wp2_with (refine stKIP W rfl _ _ rfl rfl k rfl HSZ.out HONE.out ?_)
    exact hK _ _ ((KeepsOthers.alloc _ _).from _) (KeepsWalks.alloc _ _) ⟨⟨v, hv.alloc _, hrow.alloc _, trivial⟩, hB.alloc hB.size _⟩ ⟨W.heap.size, heap_alloc_new W _, rfl⟩
  case body =>
    rintro l pre ⟨k, hk⟩ a' W hl ⟨r, hr⟩ ⟨⟨v, hv, hrow, _⟩, hB⟩ ⟨Bx, hx, rfl⟩ hlt
    have HSZ := Lib.hid hk.size
    have HONE := Lib.hid hk.one
    have HX := Lib.hid (rangeOfP hx)
    have hc := hv.cell
    have hlen : pre.length < 1000000000 := by omega
    gi_wp2_with (first
      | (refine ldKIP rfl _ rfl Bx 0 rfl k HX.out HSZ.out ?_)
      | (refine bsKIP W rfl _ rfl k rfl hk ?_)
      | (gi_at_builtin; refine wpListIn_append_own _ rfl _ _ 151 rfl w.heap.size 157 i0 (.agg #[Value.int .u8 0, Value.int .u8 0, Value.int .u8 0, Value.int .u8 0, Value.int .u8 0, Value.int .u8 0, Value.int .u8 0, Value.int .u8 0]) 8 8 Try.underlying151 hi hz0 hz1 hz2 rfl (by decide) _ _ _ rfl (hrow.alloc _) ⟨W.heap.size, 0, none⟩ 1 1 k.toList rfl (by rw [Array.length_toList, HSZ.out]) (fun j u hu => by have h := (loadNewP W k HSZ.out) j u hu; rw [Addr.add_mid]; exact h) (fun u hu => (Array.all_eq_true_iff_forall_mem.1 HONE.out) u (by simpa using hu)) (by unfold maxLen; omega) (by omega) (by have := hB.size; simp; omega) ?_))
    intro v' w1 hown' hgrow _
    obtain ⟨g', cap', rfl⟩ := ownsRow_succ hown'
    obtain ⟨hv1, hv2, hr2, hk2, hb2⟩ := hv.appended (by decide) hrow hB.size (Nat.le_refl _) hown' hgrow
    have hc1 := hv1.cell
    have hf1 := hv1.frozen
    have HR2 := Lib.hid hr2
    have HB2 := Lib.hid (hB.trans hb2)
    have HK2 := Lib.hid hk2
    have HV2 := Lib.hid hv2
    clear hr2 hb2 hk2 hv2 hgrow hown' hc
    gi_wp2
    refine ⟨HK2.out.from _, HK2.out.walks, ⟨_, HV2.out, ?_, trivial⟩, HB2.out⟩
    rw [flatP_snoc, List.length_append, List.length_singleton]
    exact HR2.out
  case done =>
    rintro D ys W hD hS ⟨⟨v, hv, hrow, _⟩, hB⟩ hK
    have hc := hv.cell
    gi_wp2
    refine ⟨by simp, .inl ⟨_, _, rfl, run_takeDeferred hK, ?_⟩⟩
    refine ⟨_, results_tmp rfl _ _ _, _, ys, rfl, hS, ownsRow_putObj hrow _ hK rfl, ?_⟩
    have hg : W.grownBy (W.putObj D (.deferred none)) (some D) := grownBy_putObj' _ _ _
    exact hB.grown hg hB.size (fun k e => by cases e; simp at hD; omega)
  case stop =>
    rintro D c pre W _ _ h _
    exact h.elim

theorem collsP (F : Fence) (n : Nat) (h8 : F.fn 170) (hA : F.fn 190) (hF : F.fn 191) (hro : F.round = none) (hn : 4 ≤ n) (Bm b nn : Nat) (D0 : DataW Unit) (w : World) (hBm : Bm < w.heap.size)
    (hm : w.cell? ⟨Bm, 0, none⟩ = some (.map (some b))) (hown : w.ownsMap Try.prog 157 (plainElem Try.prog 4) b nn D0) (hnn : nn ≤ 1000000000) :
    CallsIn F n Try.prog 170 #[.func (.func 191) #[] #[.pointer (some ⟨Bm, 0, none⟩)]] w fun e w' =>
      ∃ (u : Value) (ss : List KTP), e = .returned u ∧ (ss.Nodup ∧ ∀ (k : KTP) l, keyOf Try.prog 157 (.agg k.1) = some l → (k ∈ ss ↔ has D0 l = true)) ∧ w'.ownsRow w.heap.size 157 8 u ss.length (flatP ss) ∧ Below w.heap.size w w' := by
  have h1 : 1 ≤ n := by omega
  have A := Lib.hid (appSeqP F (n - 1) hA hF hro (by omega) Bm b nn D0 w hBm hm hown hnn)
  have e11 : ∀ args w, (callFunc 190 args).run Try.prog w = .ok (.enter 190 args) w := enters_of Try.func190 (by kernel_rfl) rfl
  clear hm hown
  refine callsIn_of_wp Try.func170 rfl h8 ?_ hro
  simp only [Try.ntmps170, List.size_toArray, List.length_cons, List.length_nil, Nat.reduceAdd, Nat.reduceSub, Array.replicate_succ, Array.replicate_zero, List.push_toArray, List.append_toArray, List.nil_append, List.cons_append]
  gi_wp2_with (gi_at_fn 190; refine A.out.mono ?_; rintro e w' ⟨u, ss, rfl, hS, hrow, hb⟩)
  go_ret
  exact ⟨u, ss, rfl, hS, hrow, hb⟩

theorem colP : ColAllP := by
  intro w Bm m n D hm hown hn
  refine (callsIn_wide (n := 4)).1 ((collsP Fence.wide 4 trivial trivial trivial rfl (by omega) Bm m n D w (World.block_lt_of_cell? w _ hm) hm hown hn).mono ?_)
  rintro e w' ⟨u, ss, rfl, ⟨hnd, hmem⟩, hrow, hb⟩
  refine ⟨u, ss.map (·.1), rfl, ?_, hb, ?_, fun k => ?_⟩
  · unfold OwnP
    rw [List.length_map, List.flatMap_map]
    exact hrow
  · exact List.pairwise_map.2 (hnd.imp fun hne e => hne (Subtype.ext e))
  · constructor
    · intro hk
      obtain ⟨x, hx, rfl⟩ := List.mem_map.1 hk
      obtain ⟨l, hl⟩ := x.2.key
      exact ⟨l, hl, (hmem x l hl).1 hx⟩
    · rintro ⟨l, hl, hh⟩
      obtain ⟨k', e, hk'⟩ := keyP_inv hl
      cases e
      exact List.mem_map.2 ⟨⟨k, hk'⟩, (hmem ⟨k, hk'⟩ l hl).2 hh, rfl⟩
end Go.Proofs.Ytnmilkehggjpfaa
end
section
namespace Go.Proofs.Ytnmilkehggjpfaa
open Go.RowKit Go.Maps
set_option linter.unusedVariables false
set_option maxRecDepth 100000

theorem keyedW : Keyed Try.prog 161 := Keyed.of_law (deep_law_laid laidP (m := 3) (by omega) (of_decide_eq_true (by kernel_rfl)) (by kernel_rfl) (by kernel_rfl))
theorem sizeW : (Try.prog.info? 161).map (·.size) = some 21 := by kernel_rfl

theorem listW {zs : List Int} (h : zs.length = 21) : ∃ z0 z1 z2 z3 z4 z5 z6 z7 z8 z9 z10 z11 z12 z13 z14 z15 z16 z17 z18 z19 z20, zs = [z0, z1, z2, z3, z4, z5, z6, z7, z8, z9, z10, z11, z12, z13, z14, z15, z16, z17, z18, z19, z20] := by
  match zs, h with
  | [z0, z1, z2, z3, z4, z5, z6, z7, z8, z9, z10, z11, z12, z13, z14, z15, z16, z17, z18, z19, z20], _ => exact ⟨z0, z1, z2, z3, z4, z5, z6, z7, z8, z9, z10, z11, z12, z13, z14, z15, z16, z17, z18, z19, z20, rfl⟩

/-- A key's cells. -/
structure KOKW (k : Array Value) : Prop where
  ints : ∃ zs : List Int, zs.length = 21 ∧ k = (zs.map (Value.int .i64)).toArray
  key : ∃ l, keyOf Try.prog 161 (.agg k) = some l
theorem KOKW.lit {k : Array Value} (h : KOKW k) : ∃ z0 z1 z2 z3 z4 z5 z6 z7 z8 z9 z10 z11 z12 z13 z14 z15 z16 z17 z18 z19 z20 : Int, k = #[Value.int .i64 z0, Value.int .i64 z1, Value.int .i64 z2, Value.int .i64 z3, Value.int .i64 z4, Value.int .i64 z5, Value.int .i64 z6, Value.int .i64 z7, Value.int .i64 z8, Value.int .i64 z9, Value.int .i64 z10, Value.int .i64 z11, Value.int .i64 z12, Value.int .i64 z13, Value.int .i64 z14, Value.int .i64 z15, Value.int .i64 z16, Value.int .i64 z17, Value.int .i64 z18, Value.int .i64 z19, Value.int .i64 z20] := by
  obtain ⟨zs, hz, e⟩ := h.ints
  obtain ⟨z0, z1, z2, z3, z4, z5, z6, z7, z8, z9, z10, z11, z12, z13, z14, z15, z16, z17, z18, z19, z20, rfl⟩ := listW hz
  exact ⟨z0, z1, z2, z3, z4, z5, z6, z7, z8, z9, z10, z11, z12, z13, z14, z15, z16, z17, z18, z19, z20, e⟩

/-- v reads as the keys ks. -/
def RdW (w : World) (v : Value) (ks : List (Array Value)) : Prop :=
  ∃ a cap, v = .slice a ks.length cap ∧ ks.length ≤ maxLen ∧ (ks.length = 0 ∨ ∃ b off, a = some ⟨b, off, none⟩ ∧ b < w.heap.size ∧ ∀ i, i < ks.length → w.rangeAt b (off + i * 21) (ks[i]?.getD #[]).toList)
theorem RdW.below {w w' : World} {v : Value} {ks : List (Array Value)} (h : RdW w v ks) (k : Below w.heap.size w w') : RdW w' v ks := by
  obtain ⟨a, cap, e, hm, hc⟩ := h
  refine ⟨a, cap, e, hm, ?_⟩
  rcases hc with h0 | ⟨b, off, e, hb, hc⟩
  · exact .inl h0
  · exact .inr ⟨b, off, e, Nat.lt_of_lt_of_le hb k.size, fun i hi j u hj => (k.cell (p := ⟨b, off + i * 21 + j, none⟩) hb).trans (hc i hi j u hj)⟩

theorem loadW (w : World) (b o : Nat) (k : Array Value) (h : w.rangeAt b o k.toList) (hs : k.size = 21) : (Instr.loadAt 161 (.pointer (some ⟨b, o, none⟩))).run Try.prog w = .ok (.agg k) w := by
  have := run_loadAt_mid w b o 161 k.toList _ h Try.underlying161 rfl (by rw [sizeW]; simp [hs])
  simpa using this
theorem KOKW.size {k : Array Value} (h : KOKW k) : k.size = 21 := by
  obtain ⟨zs, hz, rfl⟩ := h.ints
  simp [hz]
theorem KOKW.one {k : Array Value} (h : KOKW k) : k.all (·.oneCell') = true := by
  obtain ⟨zs, hz, rfl⟩ := h.ints
  simp [Value.oneCell']

theorem loadCW (w : World) (b o : Nat) (k : Array Value) (h : w.rangeAt b o k.toList) (hs : k.size = 21) : (loadCellsFrom ⟨b, o, none⟩ 0 21 #[]).run Try.prog w = .ok k w := by
  have := run_loadCells_list (P := Try.prog) w ⟨b, o, none⟩ k.toList (fun j v hv => by rw [Addr.add_mid]; exact h j v hv)
  simpa [loadCells, hs] using this
theorem loadNewW (w : World) (k : Array Value) (hs : k.size = 21) : (w.alloc (.cells k 161)).rangeAt w.heap.size 0 k.toList := by
  intro j v hv
  rw [Nat.zero_add, cell_of_row _ w.heap.size j k 161 (0, 0) (heap_alloc_new w _)]
  simpa using hv

/-- A key is loaded whole. -/
theorem ldKW {ops : Array Oper} {rest : List Oper} {op : Oper} {a : Act} {w : World} {Q : Exit → Act → World → Prop} (hgd : op.guard = none) (x : Operand) (ho : op.op = .load 161 x)
    (b o : Nat) (hx : a.eval x = .pointer (some ⟨b, o, none⟩)) (k : Array Value) (hc : w.rangeAt b o k.toList) (hs : k.size = 21) (h : wpList Try.prog ops Q rest (a.put op.dst (.agg k)) w) : wpList Try.prog ops Q (op :: rest) a w :=
  wpList_load_mid hgd 161 x ho b o hx k.toList _ hc Try.underlying161 rfl (by rw [sizeW]; simp [hs]) (by simpa using h)
/-- A key is stored into the variable that was made last. -/
theorem stKW {ops : Array Oper} {rest : List Oper} {op : Oper} {a : Act} {Q : Exit → Act → World → Prop} (w : World) (hgd : op.guard = none) (x y : Operand) (ho : op.op = .store 161 x y)
    (hx : a.eval x = .pointer (some ⟨w.heap.size, 0, none⟩)) (k : Array Value) (hy : a.eval y = .agg k) (hs : k.size = 21) (h1 : k.all (·.oneCell') = true)
    (h : wpList Try.prog ops Q rest (a.put op.dst undef) (w.alloc (.cells k 161))) : wpList Try.prog ops Q (op :: rest) a (w.alloc (.cells #[Value.int .i64 0, Value.int .i64 0, Value.int .i64 0, Value.int .i64 0, Value.int .i64 0, Value.int .i64 0, Value.int .i64 0, Value.int .i64 0, Value.int .i64 0, Value.int .i64 0, Value.int .i64 0, Value.int .i64 0, Value.int .i64 0, Value.int .i64 0, Value.int .i64 0, Value.int .i64 0, Value.int .i64 0, Value.int .i64 0, Value.int .i64 0, Value.int .i64 0, Value.int .i64 0] 161)) := by
  refine wpList_plain hgd fun K' hK' => ?_
  unfold Oper.wp execOp
  simp only [ho, hx, hy, run_storeAt_new (P := Try.prog) w 161 #[Value.int .i64 0, Value.int .i64 0, Value.int .i64 0, Value.int .i64 0, Value.int .i64 0, Value.int .i64 0, Value.int .i64 0, Value.int .i64 0, Value.int .i64 0, Value.int .i64 0, Value.int .i64 0, Value.int .i64 0, Value.int .i64 0, Value.int .i64 0, Value.int .i64 0, Value.int .i64 0, Value.int .i64 0, Value.int .i64 0, Value.int .i64 0, Value.int .i64 0, Value.int .i64 0] k (by rw [sizeW, hs]) (by rw [hs]; rfl) h1, Sem.run_bind, Sem.run_pure, Result.andThen_ok]
  exact hK' _ _ h

/-- The state between two rounds. -/
structure StW (w : World) (va vb : Value) (p : List (Array Value)) (wr : World) : Prop where
  map : ∃ (D : DataW Unit) (n : Nat), wr.ownsMap Try.prog 161 (plainElem Try.prog 4) w.heap.size n D ∧ n ≤ p.length ∧ MapIs 161 D p
  bel : Below w.heap.size w wr
  two : wr.heap[w.heap.size + 1]? = some (.cells #[va, vb] 152 (0, 0))
  big : w.heap.size + 2 ≤ wr.heap.size
end Go.Proofs.Ytnmilkehggjpfaa
end
