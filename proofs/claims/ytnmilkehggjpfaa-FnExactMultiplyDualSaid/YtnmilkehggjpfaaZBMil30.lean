/-
  Joined: KAppW, KFit, KPack.
-/
import Derived.Test.YtnmilkehggjpfaaZBMil29
import Derived.Maps.AppendAt
import Derived.Shelf.AbstractIn
import Derived.Test.YtnmilkehggjpfaaZBMil23
import Derived.Test.YtnmilkehggjpfaaZBMil04
import Derived.Deep.MidRow
import Derived.Laws.Tables
import Derived.Laws.CopyOwn
section
namespace Go.Proofs.Ytnmilkehggjpfaa
open Go.RowKit Go.Maps Go.Shelf
attribute [local go_sem] Oper.semAt_some
set_option linter.unusedVariables false
set_option maxRecDepth 100000

theorem infoEW : (Try.prog.info? 161).map (fun i => (i.zero, i.size, i.bytes)) = some (some (.agg #[Value.int .i64 0, Value.int .i64 0, Value.int .i64 0, Value.int .i64 0, Value.int .i64 0, Value.int .i64 0, Value.int .i64 0, Value.int .i64 0, Value.int .i64 0, Value.int .i64 0, Value.int .i64 0, Value.int .i64 0, Value.int .i64 0, Value.int .i64 0, Value.int .i64 0, Value.int .i64 0, Value.int .i64 0, Value.int .i64 0, Value.int .i64 0, Value.int .i64 0, Value.int .i64 0]), 21, 168) := by kernel_rfl

/-- The cells of the keys that have come. -/
def flatW (ss : List KTW) : List Value := ss.flatMap fun x => x.1.toList
theorem flatW_snoc (ss : List KTW) (x : KTW) : flatW (ss ++ [x]) = flatW ss ++ x.1.toList := by simp [flatW]

theorem rangeOfW {w : World} {b : Nat} {k : Array Value} {t : TypeId} (h : w.heap[b]? = some (.cells k t (0, 0))) : w.rangeAt b 0 k.toList := by
  intro j v hv
  rw [Nat.zero_add, cell_of_row _ b j k t (0, 0) h]
  simpa using hv

theorem bsRunW (w : World) (k : Array Value) (hk : KOKW k) : (Instr.buildSlice 152 1 #[(0, .agg k)]).run Try.prog w = .ok (.slice (some ⟨w.heap.size, 0, none⟩) 1 1) (w.alloc (.cells k 161)) := by
  obtain ⟨z0, z1, z2, z3, z4, z5, z6, z7, z8, z9, z10, z11, z12, z13, z14, z15, z16, z17, z18, z19, z20, rfl⟩ := hk.lit
  first
    | kernel_rfl
    | (simp [Instr.buildSlice]; done)
theorem bsKIW {F : Fence} {n : Nat} {ops : Array Oper} {rest : List Oper} {o : Oper} {a : Act} {Q : Exit → Act → World → Prop} (w : World) (hgd : o.guard = none) (x : Operand) (ho : o.op = .buildSlice 152 1 #[(0, x)])
    (k : Array Value) (hx : a.eval x = .agg k) (hk : KOKW k) (h : wpListIn F n Try.prog ops Q rest (a.put o.dst (.slice (some ⟨w.heap.size, 0, none⟩) 1 1)) (w.alloc (.cells k 161))) : wpListIn F n Try.prog ops Q (o :: rest) a w := by
  refine wpListIn_plain hgd fun K' hK' => ?_
  unfold Oper.wpIn
  refine ⟨?_, ?_⟩
  · simp [Oper.about, ho]
  · rw [Oper.semAt_plain F _ _ (by rw [ho]; intro c hc'; cases hc')]
    have hr := bsRunW w k hk
    unfold execOp
    simp only [ho, List.map_toArray, List.map_cons, List.map_nil, hx, hr, Sem.run_bind, Sem.run_pure, Result.andThen_ok]
    exact hK' _ _ h

set_option maxHeartbeats 1000000 in
theorem appSeqW (F : Fence) (n : Nat) (hA : F.fn 192) (hF : F.fn 193) (hro : F.round = none) (hn : 3 ≤ n) (Bm b nn : Nat) (D0 : DataW Unit) (w : World) (hBm : Bm < w.heap.size)
    (hm : w.cell? ⟨Bm, 0, none⟩ = some (.map (some b))) (hown : w.ownsMap Try.prog 161 (plainElem Try.prog 4) b nn D0) (hnn : nn ≤ 1000000000) :
    CallsIn F n Try.prog 192 #[.slice none 0 0, .func (.func 193) #[] #[.pointer (some ⟨Bm, 0, none⟩)]] w fun e w' =>
      ∃ (u : Value) (ss : List KTW), e = .returned u ∧ (ss.Nodup ∧ ∀ (k : KTW) l, keyOf Try.prog 161 (.agg k.1) = some l → (k ∈ ss ↔ has D0 l = true)) ∧ w'.ownsRow w.heap.size 161 21 u ss.length (flatW ss) ∧ Below w.heap.size w w' := by
  have h1 : 1 ≤ n := by omega
  have hsz := hown.size_le
  obtain ⟨i0, hi, hz0, hz1, hz2⟩ := info_parts infoEW
  refine callsIn_of_wp_marks Try.func192 rfl hA ?_ hro
  simp only [Try.ntmps192, List.size_toArray, List.length_cons, List.length_nil, Nat.reduceAdd, Nat.reduceSub, Array.replicate_succ, Array.replicate_zero, List.push_toArray, List.append_toArray, List.nil_append, List.cons_append]
  gi_wp2
  have hb0 : Below w.heap.size w (w.alloc (.cells #[.slice none 0 0] 152)) := (Below.refl _ w).alloc (Nat.le_refl _) _
  refine wpIn_rangeFunc_ownH hro h1 (gf := 193) (lb := #[.pointer (some ⟨Bm, 0, none⟩)]) rfl hF (enters_of Try.func193 (by kernel_rfl) rfl)
    (keysStopsW F (n - 1) hF hro (by omega) Bm b nn D0 w hBm hm hown) walksK_t walksK_b hb0 (fun _ => rfl)
    (fun pre W => (∃ v, Boxed W w.heap.size 152 v ∧ W.ownsRow w.heap.size 161 21 v pre.length (flatW pre) ∧ True) ∧ Below w.heap.size w W)
    (fun _ _ _ => False)
    (OwnFrom.and (Own.from (holdsRow_own w.heap.size w.heap.size 152 161 21 (fun pre : List KTW => pre.length) flatW (fun _ _ => True)) _) (ownFrom_below (Nat.le_refl _) (by simp)))
    (fun _ _ _ _ _ hs _ _ => hs)
    ⟨⟨_, Boxed.new w _ _, World.ownsRow_nil _ _ _ _, trivial⟩, hb0⟩
    (fun x a' W => ∃ Bx, W.heap[Bx]? = some (.cells x.1 161 (0, 0)) ∧ a' = { tmps := #[.slice none 0 0, .func (.func 193) #[] #[.pointer (some ⟨Bm, 0, none⟩)], .pointer (some ⟨w.heap.size, 0, none⟩), undef, .slice none 0 0, .pointer (some ⟨Bx, 0, none⟩), .func (.func 193) #[] #[.pointer (some ⟨Bm, 0, none⟩)], .agg x.1, undef, undef, undef, undef, undef], defers := [] })
    (fun x a' s A B row hs hg hr => by
      obtain ⟨Bx, h2, h3⟩ := hs
      refine ⟨Bx, (hg.block Bx (Array.getElem?_eq_some_iff.1 h2).1 (fun e => ?_)).trans h2, h3⟩
      obtain ⟨_, o, ho, hc⟩ := hr Bx e.symm
      rw [h2] at ho
      cases ho
      cases hc) ?assign ?body ?done ?stop
  case assign =>
    rintro l pre ⟨k, hk⟩ W K ⟨⟨v, hv, hrow, _⟩, hB⟩ hK
    have HSZ := Lib.hid hk.size
    have HONE := Lib.hid hk.one
    gi_wp2_with (refine stKIW W rfl _ _ rfl rfl k rfl HSZ.out HONE.out ?_)
    exact hK _ _ ((KeepsOthers.alloc _ _).from _) (KeepsWalks.alloc _ _) ⟨⟨v, hv.alloc _, hrow.alloc _, trivial⟩, hB.alloc hB.size _⟩ ⟨W.heap.size, heap_alloc_new W _, rfl⟩
  case body =>
    rintro l pre ⟨k, hk⟩ a' W hl ⟨r, hr⟩ ⟨⟨v, hv, hrow, _⟩, hB⟩ ⟨Bx, hx, rfl⟩ hlt
    have HSZ := Lib.hid hk.size
    have HONE := Lib.hid hk.one
    have HX := Lib.hid (rangeOfW hx)
    have hc := hv.cell
    have hlen : pre.length < 1000000000 := by omega
    gi_wp2_with (first
      | (refine ldKIW rfl _ rfl Bx 0 rfl k HX.out HSZ.out ?_)
      | (refine bsKIW W rfl _ rfl k rfl hk ?_)
      | (gi_at_builtin; refine wpListIn_append_own _ rfl _ _ 152 rfl w.heap.size 161 i0 (.agg #[Value.int .i64 0, Value.int .i64 0, Value.int .i64 0, Value.int .i64 0, Value.int .i64 0, Value.int .i64 0, Value.int .i64 0, Value.int .i64 0, Value.int .i64 0, Value.int .i64 0, Value.int .i64 0, Value.int .i64 0, Value.int .i64 0, Value.int .i64 0, Value.int .i64 0, Value.int .i64 0, Value.int .i64 0, Value.int .i64 0, Value.int .i64 0, Value.int .i64 0, Value.int .i64 0]) 21 168 Try.underlying152 hi hz0 hz1 hz2 rfl (by decide) _ _ _ rfl (hrow.alloc _) ⟨W.heap.size, 0, none⟩ 1 1 k.toList rfl (by rw [Array.length_toList, HSZ.out]) (fun j u hu => by have h := (loadNewW W k HSZ.out) j u hu; rw [Addr.add_mid]; exact h) (fun u hu => (Array.all_eq_true_iff_forall_mem.1 HONE.out) u (by simpa using hu)) (by unfold maxLen; omega) (by omega) (by have := hB.size; simp; omega) ?_))
    intro v' w1 hown' hgrow _
    obtain ⟨g', cap', rfl⟩ := ownsRow_succ hown'
    obtain ⟨hv1, hv2, hr2, hk2, hb2⟩ := hv.appended (by decide) hrow hB.size (Nat.le_refl _) hown' hgrow
    have hc1 := hv1.cell
    have hf1 := hv1.frozen
    have HR2 := Lib.hid hr2
    have HB2 := Lib.hid (hB.trans hb2)
    have HK2 := Lib.hid hk2
    have HV2 := Lib.hid hv2
    clear hr2 hb2 hk2 hv2 hgrow hown' hc
    gi_wp2
    refine ⟨HK2.out.from _, HK2.out.walks, ⟨_, HV2.out, ?_, trivial⟩, HB2.out⟩
    rw [flatW_snoc, List.length_append, List.length_singleton]
    exact HR2.out
  case done =>
    rintro D ys W hD hS ⟨⟨v, hv, hrow, _⟩, hB⟩ hK
    have hc := hv.cell
    gi_wp2
    refine ⟨by simp, .inl ⟨_, _, rfl, run_takeDeferred hK, ?_⟩⟩
    refine ⟨_, results_tmp rfl _ _ _, _, ys, rfl, hS, ownsRow_putObj hrow _ hK rfl, ?_⟩
    have hg : W.grownBy (W.putObj D (.deferred none)) (some D) := grownBy_putObj' _ _ _
    exact hB.grown hg hB.size (fun k e => by cases e; simp at hD; omega)
  case stop =>
    rintro D c pre W _ _ h _
    exact h.elim

theorem collsW (F : Fence) (n : Nat) (h8 : F.fn 172) (hA : F.fn 192) (hF : F.fn 193) (hro : F.round = none) (hn : 4 ≤ n) (Bm b nn : Nat) (D0 : DataW Unit) (w : World) (hBm : Bm < w.heap.size)
    (hm : w.cell? ⟨Bm, 0, none⟩ = some (.map (some b))) (hown : w.ownsMap Try.prog 161 (plainElem Try.prog 4) b nn D0) (hnn : nn ≤ 1000000000) :
    CallsIn F n Try.prog 172 #[.func (.func 193) #[] #[.pointer (some ⟨Bm, 0, none⟩)]] w fun e w' =>
      ∃ (u : Value) (ss : List KTW), e = .returned u ∧ (ss.Nodup ∧ ∀ (k : KTW) l, keyOf Try.prog 161 (.agg k.1) = some l → (k ∈ ss ↔ has D0 l = true)) ∧ w'.ownsRow w.heap.size 161 21 u ss.length (flatW ss) ∧ Below w.heap.size w w' := by
  have h1 : 1 ≤ n := by omega
  have A := Lib.hid (appSeqW F (n - 1) hA hF hro (by omega) Bm b nn D0 w hBm hm hown hnn)
  have e11 : ∀ args w, (callFunc 192 args).run Try.prog w = .ok (.enter 192 args) w := enters_of Try.func192 (by kernel_rfl) rfl
  clear hm hown
  refine callsIn_of_wp Try.func172 rfl h8 ?_ hro
  simp only [Try.ntmps172, List.size_toArray, List.length_cons, List.length_nil, Nat.reduceAdd, Nat.reduceSub, Array.replicate_succ, Array.replicate_zero, List.push_toArray, List.append_toArray, List.nil_append, List.cons_append]
  gi_wp2_with (gi_at_fn 192; refine A.out.mono ?_; rintro e w' ⟨u, ss, rfl, hS, hrow, hb⟩)
  go_ret
  exact ⟨u, ss, rfl, hS, hrow, hb⟩

theorem colW : ColAllW := by
  intro w Bm m n D hm hown hn
  refine (callsIn_wide (n := 4)).1 ((collsW Fence.wide 4 trivial trivial trivial rfl (by omega) Bm m n D w (World.block_lt_of_cell? w _ hm) hm hown hn).mono ?_)
  rintro e w' ⟨u, ss, rfl, ⟨hnd, hmem⟩, hrow, hb⟩
  refine ⟨u, ss.map (·.1), rfl, ?_, hb, ?_, fun k => ?_⟩
  · unfold OwnW
    rw [List.length_map, List.flatMap_map]
    exact hrow
  · exact List.pairwise_map.2 (hnd.imp fun hne e => hne (Subtype.ext e))
  · constructor
    · intro hk
      obtain ⟨x, hx, rfl⟩ := List.mem_map.1 hk
      obtain ⟨l, hl⟩ := x.2.key
      exact ⟨l, hl, (hmem x l hl).1 hx⟩
    · rintro ⟨l, hl, hh⟩
      obtain ⟨k', e, hk'⟩ := keyW_inv hl
      cases e
      exact List.mem_map.2 ⟨⟨k, hk'⟩, (hmem ⟨k, hk'⟩ l hl).2 hh, rfl⟩
end Go.Proofs.Ytnmilkehggjpfaa
end
section
namespace Go.Proofs.Ytnmilkehggjpfaa
open Go.RowKit Go.Maps
set_option linter.unusedVariables false
set_option maxRecDepth 100000

/-- A term that fits into eight bytes. -/
def fits (xs : List Int) : Prop := xs.length ≤ 8 ∧ ∀ i, i < xs.length → 0 ≤ xs[i]?.getD 0 ∧ xs[i]?.getD 0 ≤ 254
instance (xs : List Int) : Decidable (fits xs) := by unfold fits; infer_instance

theorem fits_yes (v : Value) (xs : List Int) (w : World) (h : RdL w v xs) (hf : fits xs) :
    Calls Try.prog 167 #[v] w fun e w' => e = .returned (.bool true) ∧ w' = w := by
  obtain ⟨a, cap, rfl, hm, ha⟩ := h
  obtain ⟨h8, hf⟩ := hf
  unfold maxLen at hm
  have h8' : ¬ (8 : Int) < (xs.length : Int) := by omega
  have HF := Lib.hid hf
  have HA : Hid (∀ i, i < xs.length → ∃ b off, a = some ⟨b, off, none⟩ ∧ w.cell? ⟨b, off + i, none⟩ = some (.int .i64 (xs[i]?.getD 0))) := by
    refine Lib.hid fun i hi => ?_
    obtain ⟨b, off, e, hc⟩ := ha.resolve_left (by omega)
    exact ⟨b, off, e, hc i hi⟩
  clear hf ha
  go_enter Try.func167, Try.ntmps167
  go_wp2
  go_loop [2, 4, 10] (fun _ _ c => ∃ k : Nat, k ≤ xs.length ∧ c = .int .i64 k) (fun _ _ c => xs.length - (intOf c).toNat)
  case atStart => exact ⟨0, Nat.zero_le _, rfl⟩
  case round =>
    obtain ⟨k, hk, rfl⟩ := hrel
    by_cases h1 : k < xs.length
    · have h1' : (k : Int) < (xs.length : Int) := by omega
      obtain ⟨b, off, rfl, hc⟩ := HA.out k h1
      obtain ⟨h2, h3⟩ := HF.out k h1
      have h2' : ¬ xs[k]?.getD 0 < 0 := by omega
      have h3' : ¬ 254 < xs[k]?.getD 0 := by omega
      generalize xs[k]?.getD 0 = x at hc h2' h3'
      clear h2 h3
      go_wp2
      go_round
      case rel => exact ⟨k + 1, by omega, by go_num⟩
      case measure => simp [intOf]; omega
    · have h1' : ¬ (k : Int) < (xs.length : Int) := by omega
      go_wp2
      go_ret
      exact ⟨rfl, rfl⟩

theorem fits_no (v : Value) (xs : List Int) (w : World) (h : RdL w v xs) (hf : ¬ fits xs) :
    Calls Try.prog 167 #[v] w fun e w' => e = .returned (.bool false) ∧ w' = w := by
  obtain ⟨a, cap, rfl, hm, ha⟩ := h
  unfold maxLen at hm
  by_cases h8 : xs.length ≤ 8
  · have h8' : ¬ (8 : Int) < (xs.length : Int) := by omega
    have hf : ¬ ∀ i, i < xs.length → 0 ≤ xs[i]?.getD 0 ∧ xs[i]?.getD 0 ≤ 254 := fun h => hf ⟨h8, h⟩
    have HF := Lib.hid hf
    have HA : Hid (∀ i, i < xs.length → ∃ b off, a = some ⟨b, off, none⟩ ∧ w.cell? ⟨b, off + i, none⟩ = some (.int .i64 (xs[i]?.getD 0))) := by
      refine Lib.hid fun i hi => ?_
      obtain ⟨b, off, e, hc⟩ := ha.resolve_left (by omega)
      exact ⟨b, off, e, hc i hi⟩
    clear hf ha
    go_enter Try.func167, Try.ntmps167
    go_wp2
    go_loop [2, 4, 10] (fun _ _ c => ∃ k : Nat, k ≤ xs.length ∧ c = .int .i64 k ∧ Hid (∀ i, i < k → 0 ≤ xs[i]?.getD 0 ∧ xs[i]?.getD 0 ≤ 254)) (fun _ _ c => xs.length - (intOf c).toNat)
    case atStart => exact ⟨0, Nat.zero_le _, rfl, Lib.hid fun i hi => absurd hi (Nat.not_lt_zero _)⟩
    case round =>
      obtain ⟨k, hk, rfl, hP⟩ := hrel
      by_cases h1 : k < xs.length
      · have h1' : (k : Int) < (xs.length : Int) := by omega
        obtain ⟨b, off, rfl, hc⟩ := HA.out k h1
        by_cases h2' : xs[k]?.getD 0 < 0
        · generalize xs[k]?.getD 0 = x at hc h2'
          go_wp2
          go_ret
          exact ⟨rfl, rfl⟩
        · by_cases h3' : 254 < xs[k]?.getD 0
          · generalize xs[k]?.getD 0 = x at hc h2' h3'
            go_wp2
            go_ret
            exact ⟨rfl, rfl⟩
          · have hP2 : Hid (∀ i, i < k + 1 → 0 ≤ xs[i]?.getD 0 ∧ xs[i]?.getD 0 ≤ 254) := Lib.hid fun i hi => by
              by_cases e : i = k
              · subst e; omega
              · exact hP.out i (by omega)
            generalize xs[k]?.getD 0 = x at hc h2' h3'
            go_wp2
            go_round
            case rel => exact ⟨k + 1, by omega, by go_num, hP2⟩
            case measure => simp [intOf]; omega
      · exact absurd (fun i hi => hP.out i (by omega)) HF.out
  · have h8' : (8 : Int) < (xs.length : Int) := by omega
    clear ha
    go_enter Try.func167, Try.ntmps167
    go_wp2
    go_ret
    exact ⟨rfl, rfl⟩

theorem fits_any (v : Value) (xs : List Int) (w : World) (h : RdL w v xs) :
    Calls Try.prog 167 #[v] w fun e w' => e = .returned (.bool (decide (fits xs))) ∧ w' = w := by
  by_cases hf : fits xs
  · rw [decide_eq_true hf]; exact fits_yes v xs w h hf
  · rw [decide_eq_false hf]; exact fits_no v xs w h hf

/-- The cells of a packed term: each number and one, then zeros. -/
def pkI (xs : List Int) (n : Nat) : List Int := (List.range 8).map fun j => if j < n then xs[j]?.getD 0 + 1 else 0
def pkA (xs : List Int) (n : Nat) : Array Value := ((pkI xs n).map (Value.int .u8)).toArray
theorem pkI_len (xs : List Int) (n : Nat) : (pkI xs n).length = 8 := by simp [pkI]
theorem pkA_size (xs : List Int) (n : Nat) : (pkA xs n).size = 8 := by simp [pkA, pkI]
theorem pkA_zero (xs : List Int) : pkA xs 0 = #[Value.int .u8 0, Value.int .u8 0, Value.int .u8 0, Value.int .u8 0, Value.int .u8 0, Value.int .u8 0, Value.int .u8 0, Value.int .u8 0] := by
  simp [pkA, pkI, List.range, List.range.loop]
theorem pkA_set (xs : List Int) (n : Nat) (hn : n < 8) : (pkA xs n).setIfInBounds n (.int .u8 (xs[n]?.getD 0 + 1)) = pkA xs (n + 1) := by
  apply Array.ext_getElem?
  intro j
  rw [Array.getElem?_setIfInBounds]
  by_cases hj : j < 8
  · by_cases e : n = j
    · subst e
      simp [pkA, pkI, hj]
    · have : (j < n + 1) ↔ (j < n) := by omega
      simp [pkA, pkI, hj, e, this]
  · have e : n ≠ j := by omega
    simp [pkA, pkI, e, hj]

def packK (xs : List Int) : Array Value := pkA xs xs.length
theorem packK_ok (xs : List Int) (hf : fits xs) : KOKP (packK xs) := keyP_mk _ (pkI_len _ _) (fun z hz => by
  obtain ⟨j, hj, rfl⟩ := List.mem_map.1 hz
  split
  · rename_i h
    obtain ⟨h1, h2⟩ := hf.2 j h
    have e1 : (0 : Int) ≤ xs[j]?.getD 0 + 1 := by omega
    have e2 : xs[j]?.getD 0 + 1 ≤ (255 : Int) := by omega
    exact (Bool.and_eq_true _ _).mpr ⟨decide_eq_true e1, decide_eq_true e2⟩
  · rfl)
end Go.Proofs.Ytnmilkehggjpfaa
end
section
namespace Go.Proofs.Ytnmilkehggjpfaa
open Go.RowKit Go.Maps
set_option linter.unusedVariables false
set_option maxRecDepth 100000

theorem wrap8 (z : Int) (h0 : 0 ≤ z) (h1 : z ≤ 255) : IntKind.u8.wrap z = z := by rw [IntKind.wrap_u8]; omega

theorem packTerm_any (v : Value) (xs : List Int) (w : World) (h : RdL w v xs) (hf : fits xs) :
    Calls Try.prog 168 #[v] w fun e w' => e = .returned (.agg (packK xs)) ∧ Below w.heap.size w w' := by
  have hsz := pkA_size xs xs.length
  have hone : (packK xs).all (·.oneCell') = true := (packK_ok xs hf).one
  obtain ⟨a, cap, rfl, hm, ha⟩ := h
  obtain ⟨h8, hf⟩ := hf
  unfold maxLen at hm
  have HF := Lib.hid hf
  have HSZ : Hid ((packK xs).size = 8) := Lib.hid hsz
  have HONE := Lib.hid hone
  have HA : Hid (∀ i, i < xs.length → ∃ b off, a = some ⟨b, off, none⟩ ∧ ((w.alloc (.cells #[Value.int .u8 0, Value.int .u8 0, Value.int .u8 0, Value.int .u8 0, Value.int .u8 0, Value.int .u8 0, Value.int .u8 0, Value.int .u8 0] 157)).alloc (.cells (pkA xs i) 157)).cell? ⟨b, off + i, none⟩ = some (.int .i64 (xs[i]?.getD 0))) := by
    refine Lib.hid fun i hi => ?_
    obtain ⟨b, off, e, hc⟩ := ha.resolve_left (by omega)
    refine ⟨b, off, e, ?_⟩
    have hb := World.block_lt_of_cell? w _ (hc i hi)
    exact ((((Below.refl _ w).alloc (Nat.le_refl _) _).alloc (by simp) _).cell (p := ⟨b, off + i, none⟩) hb).trans (hc i hi)
  clear hf ha hsz hone
  go_enter Try.func168, Try.ntmps168
  go_wp2
  go_loopw [4, 5, 8] (fun _ _ c wr => ∃ k : Nat, k ≤ xs.length ∧ c = .int .i64 k ∧ Hid (wr = (w.alloc (.cells #[Value.int .u8 0, Value.int .u8 0, Value.int .u8 0, Value.int .u8 0, Value.int .u8 0, Value.int .u8 0, Value.int .u8 0, Value.int .u8 0] 157)).alloc (.cells (pkA xs k) 157))) (fun _ _ c _ => xs.length - (intOf c).toNat)
  case atStart => exact ⟨0, Nat.zero_le _, rfl, Lib.hid (by rw [pkA_zero])⟩
  case round =>
    obtain ⟨k, hk, rfl, hw⟩ := hrel
    by_cases h1 : k < xs.length
    · have h1' : (k : Int) < (xs.length : Int) := by omega
      have hk8 : (k : Int) < 8 := by omega
      obtain ⟨b, off, rfl, hc⟩ := HA.out k h1
      obtain ⟨h2, h3⟩ := HF.out k h1
      have hset := Lib.hid (pkA_set xs k (by omega))
      have hsz := pkA_size xs k
      have e := hw.out
      clear hw
      have hcell : wr.cell? ⟨w.heap.size + 1, k, none⟩ = some ((pkA xs k)[k]?.getD undef) := by
        rw [e]
        have hh := heap_alloc2_new w (.cells #[Value.int .u8 0, Value.int .u8 0, Value.int .u8 0, Value.int .u8 0, Value.int .u8 0, Value.int .u8 0, Value.int .u8 0, Value.int .u8 0] 157) (.cells (pkA xs k) 157)
        rw [cell_of_row _ (w.heap.size + 1) k (pkA xs k) 157 (0, 0) hh]
        have : k < (pkA xs k).size := by omega
        simp [this]
      have hfro : wr.frozen? ⟨w.heap.size + 1, k, none⟩ = false := by
        rw [e]
        exact World.frozen?_alloc2_new _ _ _ _
      have hW : wr.setCell ⟨w.heap.size + 1, k, none⟩ (.int .u8 (xs[k]?.getD 0 + 1)) = (w.alloc (.cells #[Value.int .u8 0, Value.int .u8 0, Value.int .u8 0, Value.int .u8 0, Value.int .u8 0, Value.int .u8 0, Value.int .u8 0, Value.int .u8 0] 157)).alloc (.cells (pkA xs (k + 1)) 157) := by
        rw [e, ← hset.out]
        have := World.setCell_alloc_new (w := w.alloc (.cells #[Value.int .u8 0, Value.int .u8 0, Value.int .u8 0, Value.int .u8 0, Value.int .u8 0, Value.int .u8 0, Value.int .u8 0, Value.int .u8 0] 157)) (pkA xs k) 157 k (.int .u8 (xs[k]?.getD 0 + 1))
        simpa using this
      rw [← e] at hc
      have HW := Lib.hid hW
      clear hW e hset hsz
      have w1 : IntKind.i64.wrap (xs[k]?.getD 0 + 1) = xs[k]?.getD 0 + 1 := by rw [IntKind.wrap_i64]; omega
      have w2 : IntKind.u8.wrap (xs[k]?.getD 0 + 1) = xs[k]?.getD 0 + 1 := wrap8 _ (by omega) (by omega)
      generalize xs[k]?.getD 0 = x at hc HW w1 w2
      generalize (pkA xs k)[k]?.getD undef = old at hcell
      clear h2 h3
      go_wp2
      go_roundw
      case rel => exact ⟨k + 1, by omega, by go_num, Lib.hid HW.out⟩
      case measure => simp [intOf]; omega
    · have h1' : ¬ (k : Int) < (xs.length : Int) := by omega
      have e : k = xs.length := by omega
      subst e
      have hw1 := hw.out
      clear hw
      have hnew : wr.rangeAt (w.heap.size + 1) 0 (packK xs).toList := by
        rw [hw1]
        have := loadNewP (w.alloc (.cells #[Value.int .u8 0, Value.int .u8 0, Value.int .u8 0, Value.int .u8 0, Value.int .u8 0, Value.int .u8 0, Value.int .u8 0, Value.int .u8 0] 157)) (packK xs) HSZ.out
        simpa [packK] using this
      have hold : wr.heap[w.heap.size]? = some (.cells #[Value.int .u8 0, Value.int .u8 0, Value.int .u8 0, Value.int .u8 0, Value.int .u8 0, Value.int .u8 0, Value.int .u8 0, Value.int .u8 0] 157 (0, 0)) := by
        rw [hw1]; exact heap_alloc2_old _ _ _
      have hbel : Below w.heap.size w wr := by
        rw [hw1]; exact ((Below.refl _ w).alloc (Nat.le_refl _) _).alloc (by simp) _
      have HN := Lib.hid hnew
      have HO := Lib.hid hold
      have HB := Lib.hid hbel
      clear hw1 hnew hold hbel
      obtain ⟨K, hK⟩ : ∃ K, packK xs = K := ⟨_, rfl⟩
      rw [hK] at HSZ HONE HN
      have HK := Lib.hid hK
      clear hK
      go_wp2_with (first
        | (refine ldKP rfl _ rfl (w.heap.size + 1) 0 rfl K HN.out HSZ.out ?_)
        | (refine wpList_store_row rfl 157 _ _ rfl w.heap.size K rfl rfl 157 _ HO.out (by rw [sizeP, HSZ.out]) (by rw [HSZ.out]; rfl) HONE.out ?_))
      refine bodyPost_ret (results_cell_row rfl _ _ w.heap.size 157 K (0, 0) _ rfl (setRow_heap _ _ _ _ _ _ HO.out) Try.underlying157 rfl (by rw [sizeP, HSZ.out])) rfl ?_
      exact ⟨by rw [HK.out], below_setRow HB.out (Nat.le_refl _) _⟩
end Go.Proofs.Ytnmilkehggjpfaa
end
