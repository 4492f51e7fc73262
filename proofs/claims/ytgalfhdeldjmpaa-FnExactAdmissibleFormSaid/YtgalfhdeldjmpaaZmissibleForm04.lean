/-
  Joined: KAppP, WCmp.
-/
import Derived.Test.YtgalfhdeldjmpaaZmissibleForm03
import Derived.Maps.AppendAt
import Derived.Shelf.AbstractIn
import Derived.Test.YtgalfhdeldjmpaaZmissibleForm01
section
namespace Go.Proofs.Ytgalfhdeldjmpaa
open Go.RowKit Go.Maps Go.Shelf
attribute [local go_sem] Oper.semAt_some
set_option linter.unusedVariables false
set_option maxRecDepth 100000

theorem infoEP : (Try.prog.info? 64).map (fun i => (i.zero, i.size, i.bytes)) = some (some (.agg #[Value.int .u8 0, Value.int .u8 0, Value.int .u8 0, Value.int .u8 0, Value.int .u8 0, Value.int .u8 0, Value.int .u8 0, Value.int .u8 0]), 8, 8) := by kernel_rfl

/-- The cells of the keys that have come. -/
def flatP (ss : List KTP) : List Value := ss.flatMap fun x => x.1.toList
theorem flatP_snoc (ss : List KTP) (x : KTP) : flatP (ss ++ [x]) = flatP ss ++ x.1.toList := by simp [flatP]

theorem rangeOfP {w : World} {b : Nat} {k : Array Value} {t : TypeId} (h : w.heap[b]? = some (.cells k t (0, 0))) : w.rangeAt b 0 k.toList := by
  intro j v hv
  rw [Nat.zero_add, cell_of_row _ b j k t (0, 0) h]
  simpa using hv

theorem bsRunP (w : World) (k : Array Value) (hk : KOKP k) : (Instr.buildSlice 62 1 #[(0, .agg k)]).run Try.prog w = .ok (.slice (some ⟨w.heap.size, 0, none⟩) 1 1) (w.alloc (.cells k 64)) := by
  obtain ⟨z0, z1, z2, z3, z4, z5, z6, z7, rfl⟩ := hk.lit
  first
    | kernel_rfl
    | (simp [Instr.buildSlice]; done)
theorem bsKIP {F : Fence} {n : Nat} {ops : Array Oper} {rest : List Oper} {o : Oper} {a : Act} {Q : Exit → Act → World → Prop} (w : World) (hgd : o.guard = none) (x : Operand) (ho : o.op = .buildSlice 62 1 #[(0, x)])
    (k : Array Value) (hx : a.eval x = .agg k) (hk : KOKP k) (h : wpListIn F n Try.prog ops Q rest (a.put o.dst (.slice (some ⟨w.heap.size, 0, none⟩) 1 1)) (w.alloc (.cells k 64))) : wpListIn F n Try.prog ops Q (o :: rest) a w := by
  refine wpListIn_plain hgd fun K' hK' => ?_
  unfold Oper.wpIn
  refine ⟨?_, ?_⟩
  · simp [Oper.about, ho]
  · rw [Oper.semAt_plain F _ _ (by rw [ho]; intro c hc'; cases hc')]
    have hr := bsRunP w k hk
    unfold execOp
    simp only [ho, List.map_toArray, List.map_cons, List.map_nil, hx, hr, Sem.run_bind, Sem.run_pure, Result.andThen_ok]
    exact hK' _ _ h

set_option maxHeartbeats 1000000 in
theorem appSeqP (F : Fence) (n : Nat) (hA : F.fn 84) (hF : F.fn 85) (hro : F.round = none) (hn : 3 ≤ n) (Bm b nn : Nat) (D0 : DataW Unit) (w : World) (hBm : Bm < w.heap.size)
    (hm : w.cell? ⟨Bm, 0, none⟩ = some (.map (some b))) (hown : w.ownsMap Try.prog 64 (plainElem Try.prog 4) b nn D0) (hnn : nn ≤ 1000000000) :
    CallsIn F n Try.prog 84 #[.slice none 0 0, .func (.func 85) #[] #[.pointer (some ⟨Bm, 0, none⟩)]] w fun e w' =>
      ∃ (u : Value) (ss : List KTP), e = .returned u ∧ (ss.Nodup ∧ ∀ (k : KTP) l, keyOf Try.prog 64 (.agg k.1) = some l → (k ∈ ss ↔ has D0 l = true)) ∧ w'.ownsRow w.heap.size 64 8 u ss.length (flatP ss) ∧ Below w.heap.size w w' := by
  have h1 : 1 ≤ n := by omega
  have hsz := hown.size_le
  obtain ⟨i0, hi, hz0, hz1, hz2⟩ := info_parts infoEP
  refine callsIn_of_wp_marks Try.func84 rfl hA ?_ hro
  simp only [Try.ntmps84, List.size_toArray, List.length_cons, List.length_nil, Nat.reduceAdd, Nat.reduceSub, Array.replicate_succ, Array.replicate_zero, List.push_toArray, List.append_toArray, List.nil_append, List.cons_append]
  gi_wp2
  have hb0 : Below w.heap.size w (w.alloc (.cells #[.slice none 0 0] 62)) := (Below.refl _ w).alloc (Nat.le_refl _) _
  refine wpIn_rangeFunc_ownH hro h1 (gf := 85) (lb := #[.pointer (some ⟨Bm, 0, none⟩)]) rfl hF (enters_of Try.func85 (by kernel_rfl) rfl)
    (keysStopsP F (n - 1) hF hro (by omega) Bm b nn D0 w hBm hm hown) walksK_t walksK_b hb0 (fun _ => rfl)
    (fun pre W => (∃ v, Boxed W w.heap.size 62 v ∧ W.ownsRow w.heap.size 64 8 v pre.length (flatP pre) ∧ True) ∧ Below w.heap.size w W)
    (fun _ _ _ => False)
    (OwnFrom.and (Own.from (holdsRow_own w.heap.size w.heap.size 62 64 8 (fun pre : List KTP => pre.length) flatP (fun _ _ => True)) _) (ownFrom_below (Nat.le_refl _) (by simp)))
    (fun _ _ _ _ _ hs _ _ => hs)
    ⟨⟨_, Boxed.new w _ _, World.ownsRow_nil _ _ _ _, trivial⟩, hb0⟩
    (fun x a' W => ∃ Bx, W.heap[Bx]? = some (.cells x.1 64 (0, 0)) ∧ a' = { tmps := #[.slice none 0 0, .func (.func 85) #[] #[.pointer (some ⟨Bm, 0, none⟩)], .pointer (some ⟨w.heap.size, 0, none⟩), undef, .slice none 0 0, .pointer (some ⟨Bx, 0, none⟩), .func (.func 85) #[] #[.pointer (some ⟨Bm, 0, none⟩)], .agg x.1, undef, undef, undef, undef, undef], defers := [] })
    (fun x a' s A B row hs hg hr => by
      obtain ⟨Bx, h2, h3⟩ := hs
      refine ⟨Bx, (hg.block Bx (Array.getElem?_eq_some_iff.1 h2).1 (fun e => ?_)).trans h2, h3⟩
      obtain ⟨_, o, ho, hc⟩ := hr Bx e.symm
      rw [h2] at ho
      cases ho
      cases hc) ?assign ?body ?done ?stop
  case assign =>
    rintro l pre ⟨k, hk⟩ W K ⟨⟨v, hv, hrow, _⟩, hB⟩ hK
    have HSZ := Lib.hid hk.size
    have HONE := Lib.hid hk.one
    gi_wp2_with (refine stKIP W rfl _ _ rfl rfl k rfl HSZ.out HONE.out ?_)
    exact hK _ _ ((KeepsOthers.alloc _ _).from _) (KeepsWalks.alloc _ _) ⟨⟨v, hv.alloc _, hrow.alloc _, trivial⟩, hB.alloc hB.size _⟩ ⟨W.heap.size, heap_alloc_new W _, rfl⟩
  case body =>
    rintro l pre ⟨k, hk⟩ a' W hl ⟨r, hr⟩ ⟨⟨v, hv, hrow, _⟩, hB⟩ ⟨Bx, hx, rfl⟩ hlt
    have HSZ := Lib.hid hk.size
    have HONE := Lib.hid hk.one
    have HX := Lib.hid (rangeOfP hx)
    have hc := hv.cell
    have hlen : pre.length < 1000000000 := by omega
    gi_wp2_with (first
      | (refine ldKIP rfl _ rfl Bx 0 rfl k HX.out HSZ.out ?_)
      | (refine bsKIP W rfl _ rfl k rfl hk ?_)
      | (gi_at_builtin; refine wpListIn_append_own _ rfl _ _ 62 rfl w.heap.size 64 i0 (.agg #[Value.int .u8 0, Value.int .u8 0, Value.int .u8 0, Value.int .u8 0, Value.int .u8 0, Value.int .u8 0, Value.int .u8 0, Value.int .u8 0]) 8 8 Try.underlying62 hi hz0 hz1 hz2 rfl (by decide) _ _ _ rfl (hrow.alloc _) ⟨W.heap.size, 0, none⟩ 1 1 k.toList rfl (by rw [Array.length_toList, HSZ.out]) (fun j u hu => by have h := (loadNewP W k HSZ.out) j u hu; rw [Addr.add_mid]; exact h) (fun u hu => (Array.all_eq_true_iff_forall_mem.1 HONE.out) u (by simpa using hu)) (by unfold maxLen; omega) (by omega) (by have := hB.size; simp; omega) ?_))
    intro v' w1 hown' hgrow _
    obtain ⟨g', cap', rfl⟩ := ownsRow_succ hown'
    obtain ⟨hv1, hv2, hr2, hk2, hb2⟩ := hv.appended (by decide) hrow hB.size (Nat.le_refl _) hown' hgrow
    have hc1 := hv1.cell
    have hf1 := hv1.frozen
    have HR2 := Lib.hid hr2
    have HB2 := Lib.hid (hB.trans hb2)
    have HK2 := Lib.hid hk2
    have HV2 := Lib.hid hv2
    clear hr2 hb2 hk2 hv2 hgrow hown' hc
    gi_wp2
    refine ⟨HK2.out.from _, HK2.out.walks, ⟨_, HV2.out, ?_, trivial⟩, HB2.out⟩
    rw [flatP_snoc, List.length_append, List.length_singleton]
    exact HR2.out
  case done =>
    rintro D ys W hD hS ⟨⟨v, hv, hrow, _⟩, hB⟩ hK
    have hc := hv.cell
    gi_wp2
    refine ⟨by simp, .inl ⟨_, _, rfl, run_takeDeferred hK, ?_⟩⟩
    refine ⟨_, results_tmp rfl _ _ _, _, ys, rfl, hS, ownsRow_putObj hrow _ hK rfl, ?_⟩
    have hg : W.grownBy (W.putObj D (.deferred none)) (some D) := grownBy_putObj' _ _ _
    exact hB.grown hg hB.size (fun k e => by cases e; simp at hD; omega)
  case stop =>
    rintro D c pre W _ _ h _
    exact h.elim

theorem collsP (F : Fence) (n : Nat) (h8 : F.fn 69) (hA : F.fn 84) (hF : F.fn 85) (hro : F.round = none) (hn : 4 ≤ n) (Bm b nn : Nat) (D0 : DataW Unit) (w : World) (hBm : Bm < w.heap.size)
    (hm : w.cell? ⟨Bm, 0, none⟩ = some (.map (some b))) (hown : w.ownsMap Try.prog 64 (plainElem Try.prog 4) b nn D0) (hnn : nn ≤ 1000000000) :
    CallsIn F n Try.prog 69 #[.func (.func 85) #[] #[.pointer (some ⟨Bm, 0, none⟩)]] w fun e w' =>
      ∃ (u : Value) (ss : List KTP), e = .returned u ∧ (ss.Nodup ∧ ∀ (k : KTP) l, keyOf Try.prog 64 (.agg k.1) = some l → (k ∈ ss ↔ has D0 l = true)) ∧ w'.ownsRow w.heap.size 64 8 u ss.length (flatP ss) ∧ Below w.heap.size w w' := by
  have h1 : 1 ≤ n := by omega
  have A := Lib.hid (appSeqP F (n - 1) hA hF hro (by omega) Bm b nn D0 w hBm hm hown hnn)
  have e11 : ∀ args w, (callFunc 84 args).run Try.prog w = .ok (.enter 84 args) w := enters_of Try.func84 (by kernel_rfl) rfl
  clear hm hown
  refine callsIn_of_wp Try.func69 rfl h8 ?_ hro
  simp only [Try.ntmps69, List.size_toArray, List.length_cons, List.length_nil, Nat.reduceAdd, Nat.reduceSub, Array.replicate_succ, Array.replicate_zero, List.push_toArray, List.append_toArray, List.nil_append, List.cons_append]
  gi_wp2_with (gi_at_fn 84; refine A.out.mono ?_; rintro e w' ⟨u, ss, rfl, hS, hrow, hb⟩)
  go_ret
  exact ⟨u, ss, rfl, hS, hrow, hb⟩

theorem colP : ColAllP := by
  intro w Bm m n D hm hown hn
  refine (callsIn_wide (n := 4)).1 ((collsP Fence.wide 4 trivial trivial trivial rfl (by omega) Bm m n D w (World.block_lt_of_cell? w _ hm) hm hown hn).mono ?_)
  rintro e w' ⟨u, ss, rfl, ⟨hnd, hmem⟩, hrow, hb⟩
  refine ⟨u, ss.map (·.1), rfl, ?_, hb, ?_, fun k => ?_⟩
  · unfold OwnP
    rw [List.length_map, List.flatMap_map]
    exact hrow
  · exact List.pairwise_map.2 (hnd.imp fun hne e => hne (Subtype.ext e))
  · constructor
    · intro hk
      obtain ⟨x, hx, rfl⟩ := List.mem_map.1 hk
      obtain ⟨l, hl⟩ := x.2.key
      exact ⟨l, hl, (hmem x l hl).1 hx⟩
    · rintro ⟨l, hl, hh⟩
      obtain ⟨k', e, hk'⟩ := keyP_inv hl
      cases e
      exact List.mem_map.2 ⟨⟨k, hk'⟩, (hmem ⟨k, hk'⟩ l hl).2 hh, rfl⟩
end Go.Proofs.Ytgalfhdeldjmpaa
end
section
namespace Go.Proofs.Ytgalfhdeldjmpaa
open Go.RowKit
set_option maxRecDepth 100000
set_option linter.unusedVariables false

def lexLt : List Int → List Int → Bool
  | [], [] => false
  | [], _ :: _ => true
  | _ :: _, [] => false
  | a :: l, b :: l' => if a = b then lexLt l l' else decide (a < b)
/-- 1, 0 or -1: greater, equal, less. -/
def lexCmp : List Int → List Int → Int
  | [], [] => 0
  | [], _ :: _ => -1
  | _ :: _, [] => 1
  | a :: l, b :: l' => if a = b then lexCmp l l' else if a < b then -1 else 1

theorem lexCmp_lt : ∀ xs ys, lexCmp xs ys < 0 ↔ lexLt xs ys = true
  | [], [] => by simp [lexCmp, lexLt]
  | [], _ :: _ => by simp [lexCmp, lexLt]
  | _ :: _, [] => by simp [lexCmp, lexLt]
  | a :: l, b :: l' => by
    rw [lexCmp, lexLt]
    by_cases e : a = b
    · rw [if_pos e, if_pos e]; exact lexCmp_lt l l'
    · rw [if_neg e, if_neg e]
      by_cases h : a < b
      · rw [if_pos h]; simp [h]
      · rw [if_neg h]; simp [h]
theorem lexCmp_range : ∀ xs ys, -1 ≤ lexCmp xs ys ∧ lexCmp xs ys ≤ 1
  | [], [] => by simp [lexCmp]
  | [], _ :: _ => by simp [lexCmp]
  | _ :: _, [] => by simp [lexCmp]
  | a :: l, b :: l' => by
    rw [lexCmp]
    by_cases e : a = b
    · rw [if_pos e]; exact lexCmp_range l l'
    · rw [if_neg e]
      by_cases h : a < b
      · rw [if_pos h]; decide
      · rw [if_neg h]; decide

theorem drop_cons (xs : List Int) (k : Nat) (h : k < xs.length) : xs.drop k = (xs[k]?.getD 0) :: xs.drop (k + 1) := by
  rw [List.getElem?_eq_getElem h]
  exact List.drop_eq_getElem_cons h

theorem less_eq (xs ys : List Int) (k : Nat) (hx : k < xs.length) (hy : k < ys.length) (he : xs[k]?.getD 0 = ys[k]?.getD 0) : lexLt (xs.drop k) (ys.drop k) = lexLt (xs.drop (k + 1)) (ys.drop (k + 1)) := by
  rw [drop_cons xs k hx, drop_cons ys k hy, lexLt, if_pos he]
theorem less_ne (xs ys : List Int) (k : Nat) (hx : k < xs.length) (hy : k < ys.length) (he : xs[k]?.getD 0 ≠ ys[k]?.getD 0) : lexLt (xs.drop k) (ys.drop k) = decide (xs[k]?.getD 0 < ys[k]?.getD 0) := by
  rw [drop_cons xs k hx, drop_cons ys k hy, lexLt, if_neg he]
theorem less_end (xs ys : List Int) (k : Nat) (h : ¬ (k < xs.length ∧ k < ys.length)) (hx : k ≤ xs.length) (hy : k ≤ ys.length) : lexLt (xs.drop k) (ys.drop k) = decide (xs.length < ys.length) := by
  by_cases h1 : k < xs.length
  · have e : ys.drop k = [] := List.drop_eq_nil_of_le (by omega)
    rw [e, drop_cons xs k h1, lexLt]
    have : ¬ xs.length < ys.length := by omega
    simp [this]
  · have e : xs.drop k = [] := List.drop_eq_nil_of_le (by omega)
    rw [e]
    by_cases h2 : k < ys.length
    · rw [drop_cons ys k h2, lexLt]
      have : xs.length < ys.length := by omega
      simp [this]
    · have e2 : ys.drop k = [] := List.drop_eq_nil_of_le (by omega)
      rw [e2, lexLt]
      have : ¬ xs.length < ys.length := by omega
      simp [this]

/-- A slice that reads as a list. -/
abbrev RdL (w : World) (v : Value) (xs : List Int) : Prop := RdI w v xs.length (fun j => xs[j]?.getD 0)

theorem l01Less_any (va vb : Value) (xs ys : List Int) (w : World) (ha : RdL w va xs) (hb : RdL w vb ys) :
    Calls Try.prog 74 #[va, vb] w fun e w' => e = .returned (.bool (lexLt xs ys)) ∧ ∃ q, w' = w.drewN q := by
  obtain ⟨aa, capa, rfl, hma, ha⟩ := ha
  obtain ⟨ab, capb, rfl, hmb, hb⟩ := hb
  unfold maxLen at hma hmb
  have HEQ := Lib.hid (less_eq xs ys)
  have HNE := Lib.hid (less_ne xs ys)
  have HEN := Lib.hid (less_end xs ys)
  have HA : Hid (∀ i, i < xs.length → ∃ b off, aa = some ⟨b, off, none⟩ ∧ w.cell? ⟨b, off + i, none⟩ = some (.int .i64 (xs[i]?.getD 0))) := by
    refine Lib.hid fun i hi => ?_
    obtain ⟨b, off, e, hc⟩ := ha.resolve_left (by omega)
    exact ⟨b, off, e, hc i hi⟩
  have HB : Hid (∀ i, i < ys.length → ∃ b off, ab = some ⟨b, off, none⟩ ∧ w.cell? ⟨b, off + i, none⟩ = some (.int .i64 (ys[i]?.getD 0))) := by
    refine Lib.hid fun i hi => ?_
    obtain ⟨b, off, e, hc⟩ := hb.resolve_left (by omega)
    exact ⟨b, off, e, hc i hi⟩
  generalize hr : lexLt xs ys = r
  have HR := Lib.hid hr
  clear hr ha hb
  have HX : Hid (∀ k, (xs.drop k).length = xs.length - k) := Lib.hid (fun k => List.length_drop)
  go_enter Try.func74, Try.ntmps74
  go_wp2
  go_loopw [5] (fun c wr => ∃ k q : Nat, k ≤ xs.length ∧ k ≤ ys.length ∧ c = .int .i64 k ∧ Hid (lexLt (xs.drop k) (ys.drop k) = r) ∧ Hid (wr = w.drewN q)) (fun c _ => xs.length - (intOf c).toNat)
  case atStart => exact ⟨0, 0, Nat.zero_le _, Nat.zero_le _, rfl, Lib.hid (by rw [List.drop_zero, List.drop_zero]; exact HR.out), Lib.hid rfl⟩
  case round =>
    obtain ⟨k, q, hk1, hk2, rfl, hlx, hw⟩ := hrel
    by_cases hlt : k < xs.length ∧ k < ys.length
    · obtain ⟨h1, h2⟩ := hlt
      have h1' : (k : Int) < (xs.length : Int) := by omega
      have h2' : (k : Int) < (ys.length : Int) := by omega
      obtain ⟨ba, oa, ea, ca⟩ := HA.out k h1
      obtain ⟨bb, ob, eb, cb⟩ := HB.out k h2
      have c1 : wr.cell? ⟨ba, oa + k, none⟩ = some (.int .i64 (xs[k]?.getD 0)) := by rw [hw.out]; exact ca
      have c2 : wr.cell? ⟨bb, ob + k, none⟩ = some (.int .i64 (ys[k]?.getD 0)) := by rw [hw.out]; exact cb
      clear ca cb
      by_cases he : xs[k]?.getD 0 = ys[k]?.getD 0
      · have hnx := Lib.hid ((HEQ.out k h1 h2 he).symm.trans hlx.out)
        rw [he] at c1
        generalize ys[k]?.getD 0 = y at c1 c2
        clear he
        go_wp2
        go_quiet (fail)
        go_wp2
        go_roundw
        case rel => exact ⟨k + 1, q + nq, by omega, by omega, by go_num, hnx, Lib.hid (by rw [hw.out]; exact World.drewN_drewN ..)⟩
        case measure => simp [intOf]; omega
      · have hfin := Lib.hid ((HNE.out k h1 h2 he).symm.trans hlx.out)
        have hne : (xs[k]?.getD 0 != ys[k]?.getD 0) = true := by rw [bne_iff_ne]; exact he
        clear he
        generalize xs[k]?.getD 0 = x at c1 hne hfin
        generalize ys[k]?.getD 0 = y at c2 hne hfin
        go_wp2
        go_quiet (fail)
        go_wp2
        go_quiet (fail)
        go_wp2
        go_ret
        exact ⟨by rw [← hfin.out]; rfl, _, by rw [hw.out, World.drewN_drewN, World.drewN_drewN]⟩
    · have hfin := Lib.hid ((HEN.out k hlt hk1 hk2).symm.trans hlx.out)
      by_cases h1 : k < xs.length
      · have h2 : ¬ k < ys.length := fun e => hlt ⟨h1, e⟩
        have h1' : (k : Int) < (xs.length : Int) := by omega
        have h2' : ¬ (k : Int) < (ys.length : Int) := by omega
        clear hlt
        go_wp2
        go_ret
        exact ⟨by rw [← hfin.out]; rfl, q, hw.out⟩
      · have h1' : ¬ (k : Int) < (xs.length : Int) := by omega
        clear hlt
        go_wp2
        go_ret
        exact ⟨by rw [← hfin.out]; rfl, q, hw.out⟩

/-- cmp.Compare at two numbers. -/
def cmpI (x y : Int) : Int := if x = y then 0 else if x < y then -1 else 1
theorem cmpCompare_any (x y : Int) (w : World) :
    Calls Try.prog 73 #[.int .i64 x, .int .i64 y] w fun e w' => e = .returned (.int .i64 (cmpI x y)) ∧ w = w' := by
  by_cases h1 : x < y
  · have E := Lib.hid (show cmpI x y = -1 by unfold cmpI; rw [if_neg (by omega), if_pos h1])
    go_enter Try.func73, Try.ntmps73
    go_wp2
    go_ret
    exact ⟨by rw [E.out]; rfl, rfl⟩
  · by_cases h2 : y < x
    · have E := Lib.hid (show cmpI x y = 1 by unfold cmpI; rw [if_neg (by omega), if_neg h1])
      go_enter Try.func73, Try.ntmps73
      go_wp2
      go_ret
      exact ⟨by rw [E.out]; rfl, rfl⟩
    · have E := Lib.hid (show cmpI x y = 0 by unfold cmpI; rw [if_pos (by omega)])
      go_enter Try.func73, Try.ntmps73
      go_wp2
      go_ret
      exact ⟨by rw [E.out]; rfl, rfl⟩

theorem cmp_eq (xs ys : List Int) (k : Nat) (hx : k < xs.length) (hy : k < ys.length) (he : xs[k]?.getD 0 = ys[k]?.getD 0) : lexCmp (xs.drop k) (ys.drop k) = lexCmp (xs.drop (k + 1)) (ys.drop (k + 1)) := by
  rw [drop_cons xs k hx, drop_cons ys k hy, lexCmp, if_pos he]
theorem cmp_ne (xs ys : List Int) (k : Nat) (hx : k < xs.length) (hy : k < ys.length) (he : xs[k]?.getD 0 ≠ ys[k]?.getD 0) : lexCmp (xs.drop k) (ys.drop k) = cmpI (xs[k]?.getD 0) (ys[k]?.getD 0) := by
  rw [drop_cons xs k hx, drop_cons ys k hy, lexCmp, if_neg he]
  unfold cmpI
  rw [if_neg he]
theorem cmp_over (xs ys : List Int) (k : Nat) (hx : k < xs.length) (hy : ¬ k < ys.length) : lexCmp (xs.drop k) (ys.drop k) = 1 := by
  rw [drop_cons xs k hx, show ys.drop k = [] from List.drop_eq_nil_of_le (by omega), lexCmp]
theorem cmp_end (xs ys : List Int) (k : Nat) (hx : ¬ k < xs.length) (hk : k ≤ xs.length) (hy : k ≤ ys.length) : lexCmp (xs.drop k) (ys.drop k) = if xs.length < ys.length then -1 else 0 := by
  rw [show xs.drop k = [] from List.drop_eq_nil_of_le (by omega)]
  by_cases h2 : k < ys.length
  · rw [drop_cons ys k h2, lexCmp, if_pos (by omega)]
  · rw [show ys.drop k = [] from List.drop_eq_nil_of_le (by omega), lexCmp, if_neg (by omega)]

theorem slicesCompare_any (va vb : Value) (xs ys : List Int) (w : World) (ha : RdL w va xs) (hb : RdL w vb ys) :
    Calls Try.prog 46 #[va, vb] w fun e w' => e = .returned (.int .i64 (lexCmp xs ys)) ∧ w = w' := by
  obtain ⟨aa, capa, rfl, hma, ha⟩ := ha
  obtain ⟨ab, capb, rfl, hmb, hb⟩ := hb
  unfold maxLen at hma hmb
  have HEQ := Lib.hid (cmp_eq xs ys)
  have HNE := Lib.hid (cmp_ne xs ys)
  have HOV := Lib.hid (cmp_over xs ys)
  have HEN := Lib.hid (cmp_end xs ys)
  have HA : Hid (∀ i, i < xs.length → ∃ b off, aa = some ⟨b, off, none⟩ ∧ w.cell? ⟨b, off + i, none⟩ = some (.int .i64 (xs[i]?.getD 0))) := by
    refine Lib.hid fun i hi => ?_
    obtain ⟨b, off, e, hc⟩ := ha.resolve_left (by omega)
    exact ⟨b, off, e, hc i hi⟩
  have HB : Hid (∀ i, i < ys.length → ∃ b off, ab = some ⟨b, off, none⟩ ∧ w.cell? ⟨b, off + i, none⟩ = some (.int .i64 (ys[i]?.getD 0))) := by
    refine Lib.hid fun i hi => ?_
    obtain ⟨b, off, e, hc⟩ := hb.resolve_left (by omega)
    exact ⟨b, off, e, hc i hi⟩
  generalize hr : lexCmp xs ys = r
  have HR := Lib.hid hr
  clear hr ha hb
  go_enter Try.func46, Try.ntmps46
  go_wp2
  go_loop [5, 6, 7, 8, 11] (fun _ _ _ _ c => ∃ k : Nat, k ≤ xs.length ∧ k ≤ ys.length ∧ c = .int .i64 k ∧ Hid (lexCmp (xs.drop k) (ys.drop k) = r)) (fun _ _ _ _ c => xs.length - (intOf c).toNat)
  case atStart => exact ⟨0, Nat.zero_le _, Nat.zero_le _, rfl, Lib.hid (by rw [List.drop_zero, List.drop_zero]; exact HR.out)⟩
  case round =>
    obtain ⟨k, hk1, hk2, rfl, hlx⟩ := hrel
    by_cases h1 : k < xs.length
    · have h1' : (k : Int) < (xs.length : Int) := by omega
      obtain ⟨ba, oa, rfl, ca⟩ := HA.out k h1
      by_cases h2 : k < ys.length
      · have h2' : (k : Int) < (ys.length : Int) := by omega
        obtain ⟨bb, ob, rfl, cb⟩ := HB.out k h2
        by_cases he : xs[k]?.getD 0 = ys[k]?.getD 0
        · have hnx := Lib.hid ((HEQ.out k h1 h2 he).symm.trans hlx.out)
          have E : cmpI (xs[k]?.getD 0) (ys[k]?.getD 0) = 0 := by unfold cmpI; rw [if_pos he]
          have C := cmpCompare_any (xs[k]?.getD 0) (ys[k]?.getD 0) w
          rw [E] at C
          have C := Lib.hid C
          clear he E
          generalize xs[k]?.getD 0 = x at ca C
          generalize ys[k]?.getD 0 = y at cb C
          go_wp2_with (go_at_call 73; refine C.out.mono ?_; rintro e w' ⟨rfl, rfl⟩)
          go_round
          case rel => exact ⟨k + 1, by omega, by omega, by go_num, hnx⟩
          case measure => simp [intOf]; omega
        · have hfin := Lib.hid ((HNE.out k h1 h2 he).symm.trans hlx.out)
          have C := cmpCompare_any (xs[k]?.getD 0) (ys[k]?.getD 0) w
          have hne : (cmpI (xs[k]?.getD 0) (ys[k]?.getD 0) != 0) = true := by
            unfold cmpI
            rw [if_neg he]
            by_cases h : xs[k]?.getD 0 < ys[k]?.getD 0
            · rw [if_pos h]; rfl
            · rw [if_neg h]; rfl
          have C := Lib.hid C
          clear he
          generalize xs[k]?.getD 0 = x at ca C hne hfin
          generalize ys[k]?.getD 0 = y at cb C hne hfin
          generalize cmpI x y = z at C hne hfin
          go_wp2_with (go_at_call 73; refine C.out.mono ?_; rintro e w' ⟨rfl, rfl⟩)
          go_ret
          exact ⟨by rw [← hfin.out]; rfl, rfl⟩
      · have hfin := Lib.hid ((HOV.out k h1 h2).symm.trans hlx.out)
        have h2' : ¬ (k : Int) < (ys.length : Int) := by omega
        generalize xs[k]?.getD 0 = x at ca
        go_wp2
        go_ret
        exact ⟨by rw [← hfin.out]; rfl, rfl⟩
    · have hfin := Lib.hid ((HEN.out k h1 hk1 hk2).symm.trans hlx.out)
      have h1' : ¬ (k : Int) < (xs.length : Int) := by omega
      by_cases h3 : xs.length < ys.length
      · have h3' : (xs.length : Int) < (ys.length : Int) := by omega
        go_wp2
        go_ret
        exact ⟨by rw [← hfin.out, if_pos h3]; rfl, rfl⟩
      · have h3' : ¬ (xs.length : Int) < (ys.length : Int) := by omega
        go_wp2
        go_ret
        exact ⟨by rw [← hfin.out, if_neg h3]; rfl, rfl⟩
end Go.Proofs.Ytgalfhdeldjmpaa
end
