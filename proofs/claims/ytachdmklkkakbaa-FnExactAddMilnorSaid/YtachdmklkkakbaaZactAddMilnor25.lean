/-
  Joined: KKeyW, KKeysW.
-/
import Derived.Test.YtachdmklkkakbaaZactAddMilnor24
import Derived.Test.YtachdmklkkakbaaZactAddMilnor20
import Derived.RangeFuncNested
import Derived.RangeFuncBound
import Derived.RangeFuncBox
import Derived.RangeFuncStops
import Derived.Shelf.Abstract
import Derived.WalkKit
import Derived.OwnWalkIn
import Derived.TacticsInMore
import Derived.RegionIn
import Derived.LoopNIn
import Derived.LoopIn
import Derived.Sort.MapsRangeIn
import Derived.Maps.OwnIn
section
namespace Go.Proofs.Ytachdmklkkakbaa
open Go.RowKit Go.Maps
set_option linter.unusedVariables false
set_option maxRecDepth 100000

theorem litsW {d : Nat} {cs : List Value} {l : List Lit} (h : Try.prog.keyLits d 98 cs = some l) : cs.length = 21 ∧ Ints .i64 cs := by
  have hc : Try.prog.cellsOf 98 = 21 := by kernel_rfl
  have hc1 : Try.prog.cellsOf 3 = 1 := by kernel_rfl
  have hc2 : Try.prog.cellsOf 96 = 20 := by kernel_rfl
  cases d with
  | zero => simp [Program.keyLits] at h
  | succ d =>
    unfold Program.keyLits at h
    rw [Try.underlying98] at h
    simp only [hc] at h
    split at h
    · rename_i hl
      cases hm : (#[_, _] : Array Field).toList.mapM (fun f => Try.prog.keyLits d f.type ((cs.drop f.offset).take (Try.prog.cellsOf f.type))) with
      | none => rw [hm] at h; cases h
      | some ys =>
        obtain ⟨a0, h0⟩ := mapM_each hm _ (List.mem_cons_self)
        obtain ⟨a1, h1⟩ := mapM_each hm _ (List.mem_cons_of_mem _ List.mem_cons_self)
        simp only [hc1, List.drop_zero] at h0
        simp only [hc2] at h1
        obtain ⟨z, hz, hw⟩ := intLits Try.underlying3 h0
        obtain ⟨_, zs, hzs, hws⟩ := arrLits Try.underlying96 Try.underlying2 (by kernel_rfl) (by kernel_rfl) h1
        refine ⟨hl.1, z :: zs, ?_, fun y hy => ?_⟩
        · have e1 : (cs.drop 1).take 20 = cs.drop 1 := List.take_of_length_le (by rw [List.length_drop, hl.1]; decide)
          rw [e1] at hzs
          rw [← List.take_append_drop 1 cs, hz, hzs]
          rfl
        · rcases List.mem_cons.1 hy with rfl | hy
          · exact hw
          · exact hws y hy
    · cases h

theorem litsW_mk (d : Nat) {cs : List Value} (hl : cs.length = 21) (h : Ints .i64 cs) : ∃ l, Try.prog.keyLits (d + 3) 98 cs = some l := by
  have hc : Try.prog.cellsOf 98 = 21 := by kernel_rfl
  have hc1 : Try.prog.cellsOf 3 = 1 := by kernel_rfl
  have hc2 : Try.prog.cellsOf 96 = 20 := by kernel_rfl
  obtain ⟨zs, rfl, hw⟩ := h
  rw [List.length_map] at hl
  match zs, hl, hw with
  | z :: zs, hl, hw =>
    unfold Program.keyLits
    rw [Try.underlying98]
    simp only [hc]
    rw [if_pos ⟨by rw [List.length_map]; exact hl, by kernel_rfl⟩]
    obtain ⟨a0, h0⟩ := intLits_mk Try.underlying3 (d + 1) z (hw z List.mem_cons_self)
    obtain ⟨a1, h1⟩ := arrLits_mk Try.underlying96 Try.underlying2 (by kernel_rfl) (by kernel_rfl) d (cs := zs.map (Value.int .i64)) (by rw [List.length_map]; simpa using hl) ⟨zs, rfl, fun y hy => hw y (List.mem_cons_of_mem _ hy)⟩
    have e1 : (zs.map (Value.int .i64)).take 20 = zs.map (Value.int .i64) := List.take_of_length_le (by rw [List.length_map]; simp at hl; omega)
    refine ⟨(a0 ++ a1), ?_⟩
    simp [hc1, hc2, h0, h1, e1]

/-- Whatever reads as a key is one. -/
theorem keyW_inv {v : Value} {l : Lit} (h : keyOf Try.prog 98 v = some l) : ∃ k, v = .agg k ∧ KOKW k := by
  obtain ⟨xs, L, rfl, hL, _⟩ := keyOf_top (by kernel_rfl) h
  obtain ⟨h1, zs, h2, _⟩ := litsW hL
  refine ⟨xs, rfl, ⟨zs, ?_, ?_⟩, l, h⟩
  · rw [h2, List.length_map] at h1; exact h1
  · rw [← h2]

theorem keyW_mk (zs : List Int) (hl : zs.length = 21) (hw : ∀ z ∈ zs, (Lit.int .i64 z).wf = true) : KOKW (zs.map (Value.int .i64)).toArray := by
  refine ⟨⟨zs, hl, rfl⟩, ?_⟩
  obtain ⟨L, hL⟩ := litsW_mk (Try.prog.types.size - 2) (cs := zs.map (Value.int .i64)) (by rw [List.length_map]; exact hl) ⟨zs, rfl, hw⟩
  have hts : Try.prog.types.size - 2 + 3 = Try.prog.types.size + 1 := by kernel_rfl
  rw [hts] at hL
  have hk : Try.prog.keyType 98 = true := by kernel_rfl
  have hf : (Value.agg (zs.map (Value.int .i64)).toArray).formed Try.prog 98 = true := by
    have hc : Try.prog.cellsOf 98 = 21 := by kernel_rfl
    simp [Value.formed, Try.underlying98, hc, hl]
  refine ⟨.string (keyBytes L), ?_⟩
  unfold keyOf
  rw [Try.underlying98]
  simp only [hk, hf, Bool.and_self, if_true]
  have e : (Value.agg (zs.map (Value.int .i64)).toArray).cells.toList = zs.map (Value.int .i64) := by simp [Value.cells]
  rw [e, hL]
  rfl
end Go.Proofs.Ytachdmklkkakbaa
end
section
namespace Go.Proofs.Ytachdmklkkakbaa
open Go.RowKit Go.Maps Go.Shelf
set_option linter.unusedVariables false
set_option maxRecDepth 100000

theorem ldKIW {F : Fence} {n : Nat} {ops : Array Oper} {rest : List Oper} {o : Oper} {a : Act} {w : World} {Q : Exit → Act → World → Prop} (hgd : o.guard = none) (x : Operand) (ho : o.op = .load 98 x)
    (b p : Nat) (hx : a.eval x = .pointer (some ⟨b, p, none⟩)) (k : Array Value) (hc : w.rangeAt b p k.toList) (hs : k.size = 21) (h : wpListIn F n Try.prog ops Q rest (a.put o.dst (.agg k)) w) : wpListIn F n Try.prog ops Q (o :: rest) a w := by
  refine wpListIn_plain hgd fun K' hK' => ?_
  unfold Oper.wpIn
  refine ⟨?_, ?_⟩
  · simp [Oper.about, ho]
  · rw [Oper.semAt_plain F _ _ (by rw [ho]; intro c hc'; cases hc')]
    unfold execOp
    simp only [ho, hx, loadW w b p k hc hs, Sem.run_bind, Sem.run_pure, Result.andThen_ok]
    exact hK' _ _ h
theorem stKIW {F : Fence} {n : Nat} {ops : Array Oper} {rest : List Oper} {o : Oper} {a : Act} {Q : Exit → Act → World → Prop} (w : World) (hgd : o.guard = none) (x y : Operand) (ho : o.op = .store 98 x y)
    (hx : a.eval x = .pointer (some ⟨w.heap.size, 0, none⟩)) (k : Array Value) (hy : a.eval y = .agg k) (hs : k.size = 21) (h1 : k.all (·.oneCell') = true)
    (h : wpListIn F n Try.prog ops Q rest (a.put o.dst undef) (w.alloc (.cells k 98))) : wpListIn F n Try.prog ops Q (o :: rest) a (w.alloc (.cells #[Value.int .i64 0, Value.int .i64 0, Value.int .i64 0, Value.int .i64 0, Value.int .i64 0, Value.int .i64 0, Value.int .i64 0, Value.int .i64 0, Value.int .i64 0, Value.int .i64 0, Value.int .i64 0, Value.int .i64 0, Value.int .i64 0, Value.int .i64 0, Value.int .i64 0, Value.int .i64 0, Value.int .i64 0, Value.int .i64 0, Value.int .i64 0, Value.int .i64 0, Value.int .i64 0] 98)) := by
  refine wpListIn_plain hgd fun K' hK' => ?_
  unfold Oper.wpIn
  refine ⟨?_, ?_⟩
  · simp [Oper.about, ho]
  · rw [Oper.semAt_plain F _ _ (by rw [ho]; intro c hc'; cases hc')]
    unfold execOp
    simp only [ho, hx, hy, run_storeAt_new (P := Try.prog) w 98 #[Value.int .i64 0, Value.int .i64 0, Value.int .i64 0, Value.int .i64 0, Value.int .i64 0, Value.int .i64 0, Value.int .i64 0, Value.int .i64 0, Value.int .i64 0, Value.int .i64 0, Value.int .i64 0, Value.int .i64 0, Value.int .i64 0, Value.int .i64 0, Value.int .i64 0, Value.int .i64 0, Value.int .i64 0, Value.int .i64 0, Value.int .i64 0, Value.int .i64 0, Value.int .i64 0] k (by rw [sizeW, hs]) (by rw [hs]; rfl) h1, Sem.run_bind, Sem.run_pure, Result.andThen_ok]
    exact hK' _ _ h

/-- A key. -/
abbrev KTW := { k : Array Value // KOKW k }

/-- What has come of the keys. -/
def GotW (D0 : DataW Unit) (left : Lit → Bool) (ss : List KTW) : Prop := ss.Nodup ∧ ∀ (k : KTW) l, keyOf Try.prog 98 (.agg k.1) = some l → (k ∈ ss ↔ (has D0 l = true ∧ left l = false))
theorem GotW.start (D0 : DataW Unit) : GotW D0 (has D0) [] := ⟨List.nodup_nil, fun k l _ => by cases has D0 l <;> simp⟩
theorem GotW.step {D0 : DataW Unit} {left : Lit → Bool} {ss : List KTW} (h : GotW D0 left ss) {x : KTW} {kl : Lit} (hx : keyOf Try.prog 98 (.agg x.1) = some kl) {y : DataW Unit} (hlk : left kl = true) (hat : ∀ zd, D0.atKey kl zd = y) :
    GotW D0 (fun z => left z && !z.sameKey kl) (ss ++ [x]) := by
  have hhas : has D0 kl = true := has_true_of_atKey hat
  have hnew : x ∉ ss := fun hm => by have := ((h.2 x kl hx).1 hm).2; rw [hlk] at this; cases this
  refine ⟨List.nodup_append.2 ⟨h.1, by simp, fun a ha b hb => by simp at hb; subst hb; exact fun e => hnew (e ▸ ha)⟩, fun k l hk => ?_⟩
  by_cases e : k = x
  · subst e
    rw [hx] at hk
    cases hk
    simp [hhas, WideAt.sameKey_self (keyedW.key hx)]
  · have hne : l.sameKey kl = false := by
      cases hs : l.sameKey kl with
      | false => rfl
      | true =>
        have e1 := WideAt.sameKey_eq hs
        subst e1
        exact absurd (Subtype.ext (by have := keyedW.inj hk hx; simpa using this)) e
    simp [h.2 k l hk, e, hne]

set_option maxHeartbeats 1000000 in
theorem keysItW (F : Fence) (n : Nat) (hF : F.fn 119) (hro : F.round = none) (hn : 1 ≤ n) (l Bm b nn : Nat) (D0 : DataW Unit) (J Jx : List KTW → World → Prop)
    (hY : ∀ pre x W, J pre W → pre.length < Maps.size D0 → YieldAt F (n - 1) Try.prog l #[.agg x.1] W fun e W' => (e = .returned (.bool true) ∧ J (pre ++ [x]) W' ∧ KeepsWalks W W') ∨ (e = .returned (.bool false) ∧ Jx (pre ++ [x]) W'))
    (W : World) (hJ : AbidesFrom W.heap.size J) (hm : W.cell? ⟨Bm, 0, none⟩ = some (.map (some b))) (hown : W.ownsMap Try.prog 98 (plainElem Try.prog 4) b nn D0) (h0 : J [] W) :
    CallsIn F n Try.prog 119 #[.func (.yield l) #[] #[], .pointer (some ⟨Bm, 0, none⟩)] W fun e W' => (∃ v, e = .returned v) ∧
      ((∃ ss : List KTW, (ss.Nodup ∧ ∀ (k : KTW) l, keyOf Try.prog 98 (.agg k.1) = some l → (k ∈ ss ↔ has D0 l = true)) ∧ J ss W') ∨ (∃ pre : List KTW, True ∧ Jx pre W')) := by
  refine callsIn_of_wp Try.func119 rfl hF ?_ hro
  simp only [Try.ntmps119, List.size_toArray, List.length_cons, List.length_nil, Nat.reduceAdd, Nat.reduceSub, Array.replicate_succ, Array.replicate_zero, List.push_toArray, List.append_toArray, List.nil_append, List.cons_append]
  gi_wp2_with (first
    | (gi_at_range; refine wpListIn_range_own _ rfl _ 115 rfl 98 4 keyedW Try.underlying115 _ b nn _ rfl hown ?_; intro w0 hrg0 hg0 hs0)
    | gi_in)
  go_frame
  gi_loopw [3] (fun _ wr => ∃ (left : Lit → Bool) (cnt : Nat) (ss : List KTW), wr.ranges Try.prog 98 (plainElem Try.prog 4) b W.heap.size nn D0 left cnt ∧ ss.length + cnt ≤ Maps.size D0 ∧ GotW D0 left ss ∧ J ss wr)
    (fun _ wr => wr.rangeLeft b W.heap.size)
  case atStart =>
    exact ⟨_, _, [], hrg0, by simp, GotW.start D0, hJ [] W w0 none h0 hg0 (fun r e => by cases e)⟩
  case round =>
    obtain ⟨left, cnt, ss, hrg, hcs, hC, hJs⟩ := hrel
    gi_wp2_with (first
      | (gi_at_next; refine wpListIn_next_ranges _ rfl _ rfl 98 keyedW (plainElem Try.prog 4) (fun x : KTW => .agg x.1) id (fun key kl hk => by obtain ⟨k, e, hk'⟩ := keyW_inv hk; exact ⟨⟨k, hk'⟩, e⟩) (fun v _ _ => ⟨v, rfl⟩) b W.heap.size nn _ _ _ rfl hrg ?_ ?_)
      | gi_in)
    · intro hc0 hl0
      gi_wp2
      go_end0
      exact ⟨⟨_, rfl⟩, .inl ⟨ss, ⟨hC.1, fun k l hk => by rw [hC.2 k l hk, hl0]; simp⟩, hJs⟩⟩
    · intro k hk c kl yd yp w2 cnt2 hkey hlk hv hat hrg2 hlt hg2 hs2 hen
      have hC2 := hC.step (x := ⟨k, hk⟩) hkey hlk hat
      have hJ2 : J ss w2 := hJ ss wr w2 (some W.heap.size) hJs hg2 (fun r e => by cases e; exact ⟨Nat.le_refl _, hrg.iter_walk⟩)
      have hJ3 : J ss (w2.alloc (.cells k 98)) := hJ ss w2 _ none hJ2 (World.grownBy_alloc w2 _ none) (fun r e => by cases e)
      have hrg3 := hrg2.alloc (.cells k 98)
      obtain ⟨fn, tmps, assign, body, hy, hR⟩ := hY ss ⟨k, hk⟩ _ hJ3 (by omega)
      have HSZ := Lib.hid hk.size
      have HONE := Lib.hid hk.one
      have HNW := Lib.hid (loadNewW w2 k HSZ.out)
      clear hs2
      gi_wp2_with (first
        | (refine ldKIW rfl _ rfl w2.heap.size 0 rfl k HNW.out HSZ.out ?_)
        | (refine stKIW w2 rfl _ _ rfl rfl k rfl HSZ.out HONE.out ?_))
      refine hR.mono ?_
      rintro e W3 (⟨rfl, hJ3', hk3⟩ | ⟨rfl, hJx3⟩)
      · gi_wp2
        have hrg4 := hrg3.of_walks hk3
        go_roundw
        case rel => exact ⟨_, cnt2, ss ++ [⟨k, hk⟩], hrg4, by simp; omega, hC2, hJ3'⟩
        case measure => rw [hrg4.left_eq, hrg.left_eq]; exact hlt
      · gi_wp2
        refine bodyPost_ret (results_none rfl _ _ _) rfl ?_
        exact ⟨⟨_, rfl⟩, .inr ⟨ss ++ [⟨k, hk⟩], trivial, hJx3⟩⟩

/-- **maps.Keys(m) hands back a value that 'SeqStops'.** -/
theorem keysStopsW (F : Fence) (n : Nat) (hF : F.fn 119) (hro : F.round = none) (hn : 1 ≤ n) (Bm b nn : Nat) (D0 : DataW Unit) (w : World) (hBm : Bm < w.heap.size)
    (hm : w.cell? ⟨Bm, 0, none⟩ = some (.map (some b))) (hown : w.ownsMap Try.prog 98 (plainElem Try.prog 4) b nn D0) :
    SeqStopsK F n Try.prog 119 #[.pointer (some ⟨Bm, 0, none⟩)] (fun x : KTW => #[Value.agg x.1]) KeepsWalks (fun ss => ss.Nodup ∧ ∀ (k : KTW) l, keyOf Try.prog 98 (.agg k.1) = some l → (k ∈ ss ↔ has D0 l = true)) (fun _ => True) (Maps.size D0) w := fun l J Jx W hW hJ _ hY h0 => by
  have hown' : W.ownsMap Try.prog 98 (plainElem Try.prog 4) b nn D0 := by
    have hbl := hown.lt
    obtain ⟨es, clock, hb, Ft, hs, hD⟩ := hown
    exact ⟨es, clock, (hW.block b hbl).trans hb, Ft, hs, hD⟩
  exact keysItW F n hF hro hn l Bm b nn D0 J Jx hY W hJ ((hW.cell (p := ⟨Bm, 0, none⟩) hBm).trans hm) hown' h0
end Go.Proofs.Ytachdmklkkakbaa
end
