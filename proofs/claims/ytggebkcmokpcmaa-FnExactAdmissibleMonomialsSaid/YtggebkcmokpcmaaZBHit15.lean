/-
  Joined: YPow.
-/
import Derived.Test.YtggebkcmokpcmaaZBHit13
import Derived.Test.YtggebkcmokpcmaaZBHit14
import Derived.Maps.AppendAt
import Derived.Deep.MidRow
import Derived.Deep.WholeRow
import Derived.Laws.Tables
import Derived.Laws.CopyOwn
import Derived.BigRegion
import Derived.Deep.DeepCutAuto
import Derived.Lib.Hide
section
namespace Go.Proofs.Ytggebkcmokpcmaa
open Go.RowKit Go.Maps
set_option linter.unusedVariables false
set_option maxRecDepth 100000

theorem wrap_sm {x : Int} (h0 : -9223372036854775808 ≤ x) (h1 : x < 9223372036854775808) : wrap64 x = x := by unfold wrap64; omega
theorem sizeY : (Try.prog.info? 71).map (·.size) = some 4 := by kernel_rfl
/-- v reads as the keys ks. -/
def RdY (w : World) (v : Value) (ks : List (Array Value)) : Prop :=
  ∃ a cap, v = .slice a ks.length cap ∧ ks.length ≤ maxLen ∧ (ks.length = 0 ∨ ∃ b off, a = some ⟨b, off, none⟩ ∧ b < w.heap.size ∧ ∀ i, i < ks.length → w.rangeAt b (off + i * 4) (ks[i]?.getD #[]).toList)
theorem RdY.below {w w' : World} {v : Value} {ks : List (Array Value)} (h : RdY w v ks) (k : Below w.heap.size w w') : RdY w' v ks := by
  obtain ⟨a, cap, e, hm, hc⟩ := h
  refine ⟨a, cap, e, hm, ?_⟩
  rcases hc with h0 | ⟨b, off, e, hb, hc⟩
  · exact .inl h0
  · exact .inr ⟨b, off, e, Nat.lt_of_lt_of_le hb k.size, fun i hi j u hj => (k.cell (p := ⟨b, off + i * 4 + j, none⟩) hb).trans (hc i hi j u hj)⟩

theorem loadM (w : World) (b o : Nat) (k : Array Value) (h : w.rangeAt b o k.toList) (hs : k.size = 4) : (Instr.loadAt 71 (.pointer (some ⟨b, o, none⟩))).run Try.prog w = .ok (.agg k) w := by
  have := run_loadAt_mid w b o 71 k.toList _ h Try.underlying71 rfl (by rw [sizeY]; simp [hs])
  simpa using this
theorem loadNewM (w : World) (k : Array Value) (hs : k.size = 4) : (w.alloc (.cells k 71)).rangeAt w.heap.size 0 k.toList := by
  intro j v hv
  rw [Nat.zero_add, cell_of_row _ w.heap.size j k 71 (0, 0) (heap_alloc_new w _)]
  simpa using hv

/-- A key is loaded whole. -/
theorem ldKY {ops : Array Oper} {rest : List Oper} {op : Oper} {a : Act} {w : World} {Q : Exit → Act → World → Prop} (hgd : op.guard = none) (x : Operand) (ho : op.op = .load 71 x)
    (b o : Nat) (hx : a.eval x = .pointer (some ⟨b, o, none⟩)) (k : Array Value) (hc : w.rangeAt b o k.toList) (hs : k.size = 4) (h : wpList Try.prog ops Q rest (a.put op.dst (.agg k)) w) : wpList Try.prog ops Q (op :: rest) a w :=
  wpList_load_mid hgd 71 x ho b o hx k.toList _ hc Try.underlying71 rfl (by rw [sizeY]; simp [hs]) (by simpa using h)
/-- A key is stored into the variable that was made last. -/
theorem stKY {ops : Array Oper} {rest : List Oper} {op : Oper} {a : Act} {Q : Exit → Act → World → Prop} (w : World) (hgd : op.guard = none) (x y : Operand) (ho : op.op = .store 71 x y)
    (hx : a.eval x = .pointer (some ⟨w.heap.size, 0, none⟩)) (k : Array Value) (hy : a.eval y = .agg k) (hs : k.size = 4) (h1 : k.all (·.oneCell') = true)
    (h : wpList Try.prog ops Q rest (a.put op.dst undef) (w.alloc (.cells k 71))) : wpList Try.prog ops Q (op :: rest) a (w.alloc (.cells #[Value.int .i64 0, Value.int .i64 0, Value.int .i64 0, Value.int .i64 0] 71)) := by
  refine wpList_plain hgd fun K' hK' => ?_
  unfold Oper.wp execOp
  simp only [ho, hx, hy, run_storeAt_new (P := Try.prog) w 71 #[Value.int .i64 0, Value.int .i64 0, Value.int .i64 0, Value.int .i64 0] k (by rw [sizeY, hs]) (by rw [hs]; rfl) h1, Sem.run_bind, Sem.run_pure, Result.andThen_ok]
  exact hK' _ _ h

/-- A row of keys that a call owns. -/
def OwnY (w : World) (B : Nat) (v : Value) (ks : List (Array Value)) : Prop := w.ownsRow B 71 4 v ks.length (ks.flatMap Array.toList)

theorem infoEY : (Try.prog.info? 71).map (fun i => (i.zero, i.size, i.bytes)) = some (some (.agg #[Value.int .i64 0, Value.int .i64 0, Value.int .i64 0, Value.int .i64 0]), 4, 32) := by kernel_rfl
def pwK (zs : List Int) : Array Value := (zs.map (Value.int .i64)).toArray
def padY (xs : List Int) : List Int := xs ++ List.replicate (4 - xs.length) 0
theorem padY_len {xs : List Int} (h : xs.length ≤ 4) : (padY xs).length = 4 := by simp [padY]; omega
theorem padY_wf {xs : List Int} (h : ∀ z ∈ xs, (Lit.int .i64 z).wf = true) : ∀ z ∈ padY xs, (Lit.int .i64 z).wf = true := fun z hz => by
  rcases List.mem_append.1 hz with hz | hz
  · exact h z hz
  · rw [(List.mem_replicate.1 hz).2]; rfl
theorem pwK_size (zs : List Int) : (pwK zs).size = zs.length := by simp [pwK]
theorem pwK_toList (zs : List Int) : (pwK zs).toList = zs.map (Value.int .i64) := by simp [pwK]
theorem pwK_one (zs : List Int) : (pwK zs).all (·.oneCell') = true := by
  refine Array.all_eq_true_iff_forall_mem.2 fun v hv => ?_
  unfold pwK at hv
  rw [List.mem_toArray] at hv
  obtain ⟨z, _, rfl⟩ := List.mem_map.1 hv
  rfl
theorem pwK_at (zs : List Int) (j : Nat) (h : j < zs.length) : (pwK zs)[j]? = some (.int .i64 (zs[j]?.getD 0)) := by
  simp [pwK, h]
theorem pwK_upd (zs : List Int) (j : Nat) (x : Int) : (pwK zs).setIfInBounds j (.int .i64 x) = pwK (zs.set j x) := by
  unfold pwK
  rw [List.map_set, List.setIfInBounds_toArray]
theorem pwK_inj {xs ys : List Int} (h : pwK xs = pwK ys) : xs = ys := by
  have := congrArg Array.toList h
  rw [pwK_toList, pwK_toList] at this
  exact (List.map_inj_right (fun a b e => by injection e)).1 this

/-- The monomial zs lies in block b. -/
def PwAt (w : World) (b : Nat) (zs : List Int) : Prop := w.heap[b]? = some (.cells (pwK zs) 71 (0, 0))
section
variable {w w' : World} {b : Nat} {zs : List Int}
theorem PwAt.lt (h : PwAt w b zs) : b < w.heap.size := (Array.getElem?_eq_some_iff.1 h).1
theorem PwAt.cell (h : PwAt w b zs) (j : Nat) (hj : j < zs.length) : w.cell? ⟨b, j, none⟩ = some (.int .i64 (zs[j]?.getD 0)) := by
  rw [cell_of_row w b j _ _ _ h, pwK_at zs j hj]
theorem PwAt.fr (h : PwAt w b zs) (k : Nat) : w.frozen? ⟨b, k, none⟩ = false := by
  simp [World.frozen?, show w.heap[b]? = _ from h]
theorem PwAt.set (h : PwAt w b zs) (j : Nat) (x : Int) : PwAt (w.setCell ⟨b, j, none⟩ (.int .i64 x)) b (zs.set j x) := by
  have := heap_setCell_same w b j _ _ (.int .i64 x) h
  rw [pwK_upd] at this
  exact this
theorem PwAt.other (h : PwAt w b zs) (a : Addr) (v : Value) (hne : b ≠ a.block) : PwAt (w.setCell a v) b zs := (heap_setCell_other w a b v hne).trans h
theorem PwAt.up (h : PwAt w b zs) (k : Below w.heap.size w w') : PwAt w' b zs := (k.block _ h.lt).trans h
theorem PwAt.new (w : World) (zs : List Int) : PwAt (w.alloc (.cells (pwK zs) 71)) w.heap.size zs := heap_alloc_new w _
theorem PwAt.alloc (h : PwAt w b zs) (o : Obj) : PwAt (w.alloc o) b zs := (heap_alloc_old w o h.lt).trans h
theorem PwAt.range (h : PwAt w b zs) : w.rangeAt b 0 (pwK zs).toList := fun j v hv => by
  rw [Nat.zero_add, cell_of_row w b j _ _ _ h]
  simpa using hv
end
def zero4 : List Int := [0, 0, 0, 0]
theorem pwK_zero : pwK zero4 = #[Value.int .i64 0, Value.int .i64 0, Value.int .i64 0, Value.int .i64 0] := rfl

/-- A call that answers a monomial. -/
def SaysPw (zs : List Int) (w : World) (e : Ending) (w' : World) : Prop := e = .returned (.agg (pwK zs)) ∧ Below w.heap.size w w'

theorem pad_splice {xs : List Int} (h : xs.length ≤ 4) : splice (pwK zero4).toList 0 (xs.map (Value.int .i64)) = (pwK (padY xs)).toList := by
  rw [pwK_toList, pwK_toList]
  unfold splice padY
  rw [List.take_zero, List.nil_append, Nat.zero_add, List.length_map, List.map_append]
  congr 1
  match xs, h with
  | [], _ => rfl
  | [_], _ => rfl
  | [_, _], _ => rfl
  | [_, _, _], _ => rfl
  | [_, _, _, _], _ => rfl

set_option maxHeartbeats 2000000 in
theorem packPowers_any (v : Value) (xs : List Int) (w : World) (h : RdL w v xs) (h5 : xs.length ≤ 4) :
    Calls Try.prog 85 #[v] w (SaysPw (padY xs) w) := by
  have HSP := Lib.hid (pad_splice h5)
  have HL := Lib.hid h5
  obtain ⟨a, cap, rfl, hm, ha⟩ := h
  unfold maxLen at hm
  have HA := Lib.hid ha
  clear ha h5
  have HCN : Hid ((xs.map (Value.int .i64)).length = Nat.min xs.length 4) := Lib.hid (by rw [List.length_map]; have := HL.out; exact (Nat.min_eq_left this).symm)
  have HC : Hid (∀ w2 : World, Below w.heap.size w w2 → (0 < (xs.map (Value.int .i64)).length → ∃ ad, a = some ad ∧ ∀ j v, (xs.map (Value.int .i64))[j]? = some v → w2.cell? (ad.add j) = some v)) := by
    refine Lib.hid fun w2 hb hp => ?_
    rw [List.length_map] at hp
    obtain ⟨b, off, rfl, hc⟩ := HA.out.resolve_left (by omega)
    refine ⟨_, rfl, fun j v hv => ?_⟩
    rw [Addr.add_mid]
    rw [List.getElem?_map] at hv
    cases hx : xs[j]? with
    | none => rw [hx] at hv; cases hv
    | some x =>
      rw [hx] at hv
      have hj : j < xs.length := (List.getElem?_eq_some_iff.1 hx).1
      have h1 := hc j hj
      simp only [hx, Option.getD_some] at h1
      have hbl := World.block_lt_of_cell? w _ h1
      rw [← Option.some.inj hv]
      exact (hb.cell (p := ⟨b, off + j, none⟩) hbl).trans h1
  obtain ⟨w1, hw1⟩ : ∃ w1, w1 = ((w.alloc (.cells #[Value.int .i64 0, Value.int .i64 0, Value.int .i64 0, Value.int .i64 0] 71)).alloc (.cells #[Value.int .i64 0, Value.int .i64 0, Value.int .i64 0, Value.int .i64 0] 71)) := ⟨_, rfl⟩
  have B1 : Hid (Below w.heap.size w w1) := Lib.hid (by rw [hw1]; exact ((Below.refl _ w).alloc (Nat.le_refl _) _).alloc (by simp) _)
  have B2 : Hid (Below (w.heap.size + 1) w1 w1) := Lib.hid (Below.refl _ _)
  have M0 : Hid (PwAt w1 w.heap.size zero4) := Lib.hid (by rw [hw1]; exact (PwAt.new w zero4).alloc _)
  have M1 : Hid (PwAt w1 (w.heap.size + 1) zero4) := Lib.hid (by rw [hw1]; have := PwAt.new (w.alloc (.cells (pwK zero4) 71)) zero4; rw [World.size_alloc] at this; exact this)
  have HNEW : Hid (w1.heap[w.heap.size + 1]? = some (.cells (pwK zero4).toList.toArray 71 (0, 0))) := Lib.hid (by rw [Array.toArray_toList]; exact M1.out)
  have H4 : Hid (0 < (xs.map (Value.int .i64)).length → (some (⟨w.heap.size + 1, 0, none⟩ : Addr)) = some ⟨w.heap.size + 1, 0, none⟩ ∧ ∃ ad, a = some ad ∧ ∀ j v, (xs.map (Value.int .i64))[j]? = some v → w1.cell? (ad.add j) = some v) := Lib.hid fun hp => ⟨rfl, HC.out _ B1.out hp⟩
  have H5 : Hid (0 + (xs.map (Value.int .i64)).length ≤ (pwK zero4).toList.length) := Lib.hid (by have h2 := HL.out; rw [pwK_toList, List.length_map, List.length_map]; show 0 + xs.length ≤ 4; omega)
  have H6 : Hid (∀ u ∈ xs.map (Value.int .i64), u.oneCell' = true) := Lib.hid (by intro u hu; obtain ⟨z, _, rfl⟩ := List.mem_map.1 hu; rfl)
  have LP : Hid ((padY xs).length = 4) := Lib.hid (padY_len HL.out)
  go_enter Try.func85, Try.ntmps85
  go_upto_region 2 with fail
  rw [← hw1]
  clear hw1
  go_upto_region 3 with (refine wpList_copy_splice rfl _ _ 42 42 rfl 2 Try.underlying42 (by kernel_rfl) _ _ 4 4 xs.length cap rfl rfl (w.heap.size + 1) 0 (pwK zero4).toList 71 HNEW.out (xs.map (Value.int .i64)) HCN.out H4.out H5.out H6.out (w.heap.size + 1) _ B2.out (Nat.le_refl _) ?_; intro w3 hg3 hb3; rw [HSP.out, Array.toArray_toList] at hg3; have M3 : Hid (PwAt w3 (w.heap.size + 1) (padY xs)) := Lib.hid hg3; have N3 : Hid (PwAt w3 w.heap.size zero4) := Lib.hid ((hb3.block _ (Nat.lt_succ_self _)).trans M0.out); have B3 : Hid (Below w.heap.size w w3) := Lib.hid (B1.out.trans (hb3.mono (Nat.le_succ _))); clear hg3 hb3)
  generalize padY xs = zs at *
  have HR := Lib.hid M3.out.range
  have HO : Hid (w3.heap[w.heap.size]? = some (.cells (pwK zero4) 71 (0, 0))) := Lib.hid N3.out
  have SZ : Hid ((Try.prog.info? 71).map (·.size) = some (pwK zs).size) := Lib.hid (by rw [sizeY, pwK_size, LP.out])
  have SQ : Hid ((pwK zero4).size = (pwK zs).size) := Lib.hid (by rw [pwK_size zs, LP.out]; rfl)
  go_wp2_with (first
    | (refine ldKY rfl _ rfl (w.heap.size + 1) 0 rfl (pwK zs) HR.out (by rw [pwK_size, LP.out]) ?_)
    | (refine wpList_store_row rfl 71 _ _ rfl w.heap.size (pwK zs) rfl rfl 71 _ HO.out SZ.out SQ.out (pwK_one zs) ?_))
  refine bodyPost_ret (results_cell_row rfl _ _ w.heap.size 71 (pwK zs) (0, 0) _ rfl (setRow_heap _ _ _ _ _ _ HO.out) Try.underlying71 rfl SZ.out) rfl ?_
  exact ⟨rfl, below_setRow B3.out (Nat.le_refl _) _⟩
theorem bsRunY4 (w : World) (a b c d : Int) : (Instr.buildSlice 53 1 #[(0, .agg #[Value.int .i64 a, Value.int .i64 b, Value.int .i64 c, Value.int .i64 d])]).run Try.prog w = .ok (.slice (some ⟨w.heap.size, 0, none⟩) 1 1) (w.alloc (.cells #[Value.int .i64 a, Value.int .i64 b, Value.int .i64 c, Value.int .i64 d] 71)) := by
  first
    | kernel_rfl
    | (simp [Instr.buildSlice]; done)

theorem idxY (w : World) (k : Array Value) (j : Nat) (hj : j < 4) (q : IntKind) (z : Int) (h : k[j]? = some (.int q z)) : (Instr.index 71 (.agg k) (.int .i64 (j : Int))).run Try.prog w = .ok (.int q z) w := by
  have h0 : (j : Int) < 4 := by omega
  have hp := run_part_plain (P := Try.prog) (e := 2) (by kernel_rfl) (w := w) h
  have hs : (Go.sizeOf 2).run Try.prog w = .ok 1 w := by kernel_rfl
  simp [Instr.index, run_underlying Try.underlying71, asIntOf, hs, hp]
  intro h8
  omega

/-- The numbers of two lists of five added, the first k of them. -/
def addToY (xs ys : List Int) (k : Nat) : List Int := (List.range 4).map fun i => xs[i]?.getD 0 + (if i < k then ys[i]?.getD 0 else 0)
def addY (xs ys : List Int) : List Int := addToY xs ys 4
theorem addToY_len (xs ys : List Int) (k : Nat) : (addToY xs ys k).length = 4 := by simp [addToY]
theorem addToY_at (xs ys : List Int) (k j : Nat) (hj : j < 4) : (addToY xs ys k)[j]?.getD 0 = xs[j]?.getD 0 + (if j < k then ys[j]?.getD 0 else 0) := by
  unfold addToY
  rw [List.getElem?_map, List.getElem?_range hj]
  rfl
theorem list4_ext {xs ys : List Int} (hx : xs.length = 4) (hy : ys.length = 4) (h : ∀ j, j < 4 → xs[j]?.getD 0 = ys[j]?.getD 0) : xs = ys := by
  refine List.ext_getElem (by omega) fun i h1 h2 => ?_
  have := h i (by omega)
  rw [List.getElem?_eq_getElem h1, List.getElem?_eq_getElem h2] at this
  exact this
theorem addToY_zero {xs ys : List Int} (hx : xs.length = 4) : addToY xs ys 0 = xs := list4_ext (addToY_len _ _ _) hx fun j hj => by
  rw [addToY_at _ _ _ _ hj, if_neg (by omega), Int.add_zero]
theorem addToY_set (xs ys : List Int) (k : Nat) (hk : k < 4) : (addToY xs ys k).set k (xs[k]?.getD 0 + ys[k]?.getD 0) = addToY xs ys (k + 1) := list4_ext (by rw [List.length_set, addToY_len]) (addToY_len _ _ _) fun j hj => by
  rw [List.getElem?_set, addToY_len]
  by_cases e : k = j
  · subst e
    rw [if_pos rfl, if_pos hk, addToY_at _ _ _ _ hj, if_pos (by omega)]
    rfl
  · rw [if_neg e, addToY_at _ _ _ _ hj, addToY_at _ _ _ _ hj]
    by_cases c : j < k
    · rw [if_pos c, if_pos (by omega)]
    · rw [if_neg c, if_neg (by omega)]

/-- The three monomials of times. -/
structure Tri4 (w0 : World) (zs : List Int) (w : World) : Prop where
  bel : Below w0.heap.size w0 w
  a : PwAt w w0.heap.size zs
  r : PwAt w (w0.heap.size + 1 + 1) zero4

end Go.Proofs.Ytggebkcmokpcmaa
end
