/-
  Joined: EMon, EMonT.
-/
import Derived.Test.YtnmilkehggjpfaaZMultiplyDual02
import Derived.Test.YtnmilkehggjpfaaZBMil04
import Derived.Test.YtnmilkehggjpfaaZBMil21
import Derived.Test.YtnmilkehggjpfaaZBMil03
import Derived.Deep.MidRow
import Derived.Deep.WholeRow
import Derived.Laws.Tables
import Derived.Laws.CopyOwn
import Derived.ChangeKeysEq
import Derived.Test.YtnmilkehggjpfaaZBMil32
section
namespace Go.Proofs.Ytnmilkehggjpfaa
open Go.RowKit Go.Maps
set_option linter.unusedVariables false
set_option maxRecDepth 100000

def monK (zs : List Int) : Array Value := (zs.map (Value.int .i64)).toArray
def padL (xs : List Int) : List Int := xs ++ List.replicate (5 - xs.length) 0
theorem padL_len {xs : List Int} (h : xs.length ≤ 5) : (padL xs).length = 5 := by simp [padL]; omega
theorem padL_wf {xs : List Int} (h : ∀ z ∈ xs, (Lit.int .i64 z).wf = true) : ∀ z ∈ padL xs, (Lit.int .i64 z).wf = true := fun z hz => by
  rcases List.mem_append.1 hz with hz | hz
  · exact h z hz
  · rw [(List.mem_replicate.1 hz).2]; rfl
theorem monK_size (zs : List Int) : (monK zs).size = zs.length := by simp [monK]
theorem monK_toList (zs : List Int) : (monK zs).toList = zs.map (Value.int .i64) := by simp [monK]
theorem monK_one (zs : List Int) : (monK zs).all (·.oneCell') = true := by
  refine Array.all_eq_true_iff_forall_mem.2 fun v hv => ?_
  unfold monK at hv
  rw [List.mem_toArray] at hv
  obtain ⟨z, _, rfl⟩ := List.mem_map.1 hv
  rfl
theorem monK_at (zs : List Int) (j : Nat) (h : j < zs.length) : (monK zs)[j]? = some (.int .i64 (zs[j]?.getD 0)) := by
  simp [monK, h]
theorem monK_upd (zs : List Int) (j : Nat) (x : Int) : (monK zs).setIfInBounds j (.int .i64 x) = monK (zs.set j x) := by
  unfold monK
  rw [List.map_set, List.setIfInBounds_toArray]
theorem monK_ok {zs : List Int} (h : zs.length = 5) (hw : ∀ z ∈ zs, (Lit.int .i64 z).wf = true) : KOKM (monK zs) := keyM_mk zs h hw
theorem monK_inj {xs ys : List Int} (h : monK xs = monK ys) : xs = ys := by
  have := congrArg Array.toList h
  rw [monK_toList, monK_toList] at this
  exact (List.map_inj_right (fun a b e => by injection e)).1 this

/-- The monomial zs lies in block b. -/
def MonAt (w : World) (b : Nat) (zs : List Int) : Prop := w.heap[b]? = some (.cells (monK zs) 94 (0, 0))
section
variable {w w' : World} {b : Nat} {zs : List Int}
theorem MonAt.lt (h : MonAt w b zs) : b < w.heap.size := (Array.getElem?_eq_some_iff.1 h).1
theorem MonAt.cell (h : MonAt w b zs) (j : Nat) (hj : j < zs.length) : w.cell? ⟨b, j, none⟩ = some (.int .i64 (zs[j]?.getD 0)) := by
  rw [cell_of_row w b j _ _ _ h, monK_at zs j hj]
theorem MonAt.fr (h : MonAt w b zs) (k : Nat) : w.frozen? ⟨b, k, none⟩ = false := by
  simp [World.frozen?, show w.heap[b]? = _ from h]
theorem MonAt.set (h : MonAt w b zs) (j : Nat) (x : Int) : MonAt (w.setCell ⟨b, j, none⟩ (.int .i64 x)) b (zs.set j x) := by
  have := heap_setCell_same w b j _ _ (.int .i64 x) h
  rw [monK_upd] at this
  exact this
theorem MonAt.other (h : MonAt w b zs) (a : Addr) (v : Value) (hne : b ≠ a.block) : MonAt (w.setCell a v) b zs := (heap_setCell_other w a b v hne).trans h
theorem MonAt.up (h : MonAt w b zs) (k : Below w.heap.size w w') : MonAt w' b zs := (k.block _ h.lt).trans h
theorem MonAt.new (w : World) (zs : List Int) : MonAt (w.alloc (.cells (monK zs) 94)) w.heap.size zs := heap_alloc_new w _
theorem MonAt.alloc (h : MonAt w b zs) (o : Obj) : MonAt (w.alloc o) b zs := (heap_alloc_old w o h.lt).trans h
theorem MonAt.range (h : MonAt w b zs) : w.rangeAt b 0 (monK zs).toList := fun j v hv => by
  rw [Nat.zero_add, cell_of_row w b j _ _ _ h]
  simpa using hv
end
def zero5 : List Int := [0, 0, 0, 0, 0]
theorem monK_zero : monK zero5 = #[Value.int .i64 0, Value.int .i64 0, Value.int .i64 0, Value.int .i64 0, Value.int .i64 0] := rfl

/-- A call that answers a monomial. -/
def SaysM (zs : List Int) (w : World) (e : Ending) (w' : World) : Prop := e = .returned (.agg (monK zs)) ∧ Below w.heap.size w w'

theorem pad_splice {xs : List Int} (h : xs.length ≤ 5) : splice (monK zero5).toList 0 (xs.map (Value.int .i64)) = (monK (padL xs)).toList := by
  rw [monK_toList, monK_toList]
  unfold splice padL
  rw [List.take_zero, List.nil_append, Nat.zero_add, List.length_map, List.map_append]
  congr 1
  match xs, h with
  | [], _ => rfl
  | [_], _ => rfl
  | [_, _], _ => rfl
  | [_, _, _], _ => rfl
  | [_, _, _, _], _ => rfl
  | [_, _, _, _, _], _ => rfl

set_option maxHeartbeats 2000000 in
theorem monomialOf_any (v : Value) (xs : List Int) (w : World) (h : RdL w v xs) (h5 : xs.length ≤ 5) :
    Calls Try.prog 76 #[v] w (SaysM (padL xs) w) := by
  have HSP := Lib.hid (pad_splice h5)
  have HL := Lib.hid h5
  obtain ⟨a, cap, rfl, hm, ha⟩ := h
  unfold maxLen at hm
  have HA := Lib.hid ha
  clear ha h5
  have HCN : Hid ((xs.map (Value.int .i64)).length = Nat.min xs.length 5) := Lib.hid (by rw [List.length_map]; have := HL.out; exact (Nat.min_eq_left this).symm)
  have HC : Hid (∀ w2 : World, Below w.heap.size w w2 → (0 < (xs.map (Value.int .i64)).length → ∃ ad, a = some ad ∧ ∀ j v, (xs.map (Value.int .i64))[j]? = some v → w2.cell? (ad.add j) = some v)) := by
    refine Lib.hid fun w2 hb hp => ?_
    rw [List.length_map] at hp
    obtain ⟨b, off, rfl, hc⟩ := HA.out.resolve_left (by omega)
    refine ⟨_, rfl, fun j v hv => ?_⟩
    rw [Addr.add_mid]
    rw [List.getElem?_map] at hv
    cases hx : xs[j]? with
    | none => rw [hx] at hv; cases hv
    | some x =>
      rw [hx] at hv
      have hj : j < xs.length := (List.getElem?_eq_some_iff.1 hx).1
      have h1 := hc j hj
      simp only [hx, Option.getD_some] at h1
      have hbl := World.block_lt_of_cell? w _ h1
      rw [← Option.some.inj hv]
      exact (hb.cell (p := ⟨b, off + j, none⟩) hbl).trans h1
  obtain ⟨w1, hw1⟩ : ∃ w1, w1 = ((w.alloc (.cells #[Value.int .i64 0, Value.int .i64 0, Value.int .i64 0, Value.int .i64 0, Value.int .i64 0] 94)).alloc (.cells #[Value.int .i64 0, Value.int .i64 0, Value.int .i64 0, Value.int .i64 0, Value.int .i64 0] 94)) := ⟨_, rfl⟩
  have B1 : Hid (Below w.heap.size w w1) := Lib.hid (by rw [hw1]; exact ((Below.refl _ w).alloc (Nat.le_refl _) _).alloc (by simp) _)
  have B2 : Hid (Below (w.heap.size + 1) w1 w1) := Lib.hid (Below.refl _ _)
  have M0 : Hid (MonAt w1 w.heap.size zero5) := Lib.hid (by rw [hw1]; exact (MonAt.new w zero5).alloc _)
  have M1 : Hid (MonAt w1 (w.heap.size + 1) zero5) := Lib.hid (by rw [hw1]; have := MonAt.new (w.alloc (.cells (monK zero5) 94)) zero5; rw [World.size_alloc] at this; exact this)
  have HNEW : Hid (w1.heap[w.heap.size + 1]? = some (.cells (monK zero5).toList.toArray 94 (0, 0))) := Lib.hid (by rw [Array.toArray_toList]; exact M1.out)
  have H4 : Hid (0 < (xs.map (Value.int .i64)).length → (some (⟨w.heap.size + 1, 0, none⟩ : Addr)) = some ⟨w.heap.size + 1, 0, none⟩ ∧ ∃ ad, a = some ad ∧ ∀ j v, (xs.map (Value.int .i64))[j]? = some v → w1.cell? (ad.add j) = some v) := Lib.hid fun hp => ⟨rfl, HC.out _ B1.out hp⟩
  have H5 : Hid (0 + (xs.map (Value.int .i64)).length ≤ (monK zero5).toList.length) := Lib.hid (by have h2 := HL.out; rw [monK_toList, List.length_map, List.length_map]; show 0 + xs.length ≤ 5; omega)
  have H6 : Hid (∀ u ∈ xs.map (Value.int .i64), u.oneCell' = true) := Lib.hid (by intro u hu; obtain ⟨z, _, rfl⟩ := List.mem_map.1 hu; rfl)
  have LP : Hid ((padL xs).length = 5) := Lib.hid (padL_len HL.out)
  go_enter Try.func76, Try.ntmps76
  go_upto_region 2 with fail
  rw [← hw1]
  clear hw1
  go_upto_region 3 with (refine wpList_copy_splice rfl _ _ 65 65 rfl 2 Try.underlying65 (by kernel_rfl) _ _ 5 5 xs.length cap rfl rfl (w.heap.size + 1) 0 (monK zero5).toList 94 HNEW.out (xs.map (Value.int .i64)) HCN.out H4.out H5.out H6.out (w.heap.size + 1) _ B2.out (Nat.le_refl _) ?_; intro w3 hg3 hb3; rw [HSP.out, Array.toArray_toList] at hg3; have M3 : Hid (MonAt w3 (w.heap.size + 1) (padL xs)) := Lib.hid hg3; have N3 : Hid (MonAt w3 w.heap.size zero5) := Lib.hid ((hb3.block _ (Nat.lt_succ_self _)).trans M0.out); have B3 : Hid (Below w.heap.size w w3) := Lib.hid (B1.out.trans (hb3.mono (Nat.le_succ _))); clear hg3 hb3)
  generalize padL xs = zs at *
  have HR := Lib.hid M3.out.range
  have HO : Hid (w3.heap[w.heap.size]? = some (.cells (monK zero5) 94 (0, 0))) := Lib.hid N3.out
  have SZ : Hid ((Try.prog.info? 94).map (·.size) = some (monK zs).size) := Lib.hid (by rw [sizeM, monK_size, LP.out])
  have SQ : Hid ((monK zero5).size = (monK zs).size) := Lib.hid (by rw [monK_size zs, LP.out]; rfl)
  go_wp2_with (first
    | (refine ldKM rfl _ rfl (w.heap.size + 1) 0 rfl (monK zs) HR.out (by rw [monK_size, LP.out]) ?_)
    | (refine wpList_store_row rfl 94 _ _ rfl w.heap.size (monK zs) rfl rfl 94 _ HO.out SZ.out SQ.out (monK_one zs) ?_))
  refine bodyPost_ret (results_cell_row rfl _ _ w.heap.size 94 (monK zs) (0, 0) _ rfl (setRow_heap _ _ _ _ _ _ HO.out) Try.underlying94 rfl SZ.out) rfl ?_
  exact ⟨rfl, below_setRow B3.out (Nat.le_refl _) _⟩
end Go.Proofs.Ytnmilkehggjpfaa
end
section
namespace Go.Proofs.Ytnmilkehggjpfaa
open Go.RowKit Go.Maps
set_option linter.unusedVariables false
set_option maxRecDepth 100000

theorem idxM (w : World) (k : Array Value) (j : Nat) (hj : j < 5) (q : IntKind) (z : Int) (h : k[j]? = some (.int q z)) : (Instr.index 94 (.agg k) (.int .i64 (j : Int))).run Try.prog w = .ok (.int q z) w := by
  have h0 : (j : Int) < 5 := by omega
  have hp := run_part_plain (P := Try.prog) (e := 2) (by kernel_rfl) (w := w) h
  have hs : (Go.sizeOf 2).run Try.prog w = .ok 1 w := by kernel_rfl
  simp [Instr.index, run_underlying Try.underlying94, asIntOf, hs, hp]
  intro h8
  omega

/-- The numbers of two lists of five added, the first k of them. -/
def addTo (xs ys : List Int) (k : Nat) : List Int := (List.range 5).map fun i => xs[i]?.getD 0 + (if i < k then ys[i]?.getD 0 else 0)
def addL (xs ys : List Int) : List Int := addTo xs ys 5
theorem addTo_len (xs ys : List Int) (k : Nat) : (addTo xs ys k).length = 5 := by simp [addTo]
theorem addTo_at (xs ys : List Int) (k j : Nat) (hj : j < 5) : (addTo xs ys k)[j]?.getD 0 = xs[j]?.getD 0 + (if j < k then ys[j]?.getD 0 else 0) := by
  unfold addTo
  rw [List.getElem?_map, List.getElem?_range hj]
  rfl
theorem list5_ext {xs ys : List Int} (hx : xs.length = 5) (hy : ys.length = 5) (h : ∀ j, j < 5 → xs[j]?.getD 0 = ys[j]?.getD 0) : xs = ys := by
  refine List.ext_getElem (by omega) fun i h1 h2 => ?_
  have := h i (by omega)
  rw [List.getElem?_eq_getElem h1, List.getElem?_eq_getElem h2] at this
  exact this
theorem addTo_zero {xs ys : List Int} (hx : xs.length = 5) : addTo xs ys 0 = xs := list5_ext (addTo_len _ _ _) hx fun j hj => by
  rw [addTo_at _ _ _ _ hj, if_neg (by omega), Int.add_zero]
theorem addTo_set (xs ys : List Int) (k : Nat) (hk : k < 5) : (addTo xs ys k).set k (xs[k]?.getD 0 + ys[k]?.getD 0) = addTo xs ys (k + 1) := list5_ext (by rw [List.length_set, addTo_len]) (addTo_len _ _ _) fun j hj => by
  rw [List.getElem?_set, addTo_len]
  by_cases e : k = j
  · subst e
    rw [if_pos rfl, if_pos hk, addTo_at _ _ _ _ hj, if_pos (by omega)]
    rfl
  · rw [if_neg e, addTo_at _ _ _ _ hj, addTo_at _ _ _ _ hj]
    by_cases c : j < k
    · rw [if_pos c, if_pos (by omega)]
    · rw [if_neg c, if_neg (by omega)]

/-- The three monomials of times. -/
structure Tri5 (w0 : World) (zs : List Int) (w : World) : Prop where
  bel : Below w0.heap.size w0 w
  a : MonAt w w0.heap.size zs
  r : MonAt w (w0.heap.size + 1 + 1) zero5

set_option maxHeartbeats 1000000 in
theorem times5_any (xs ys : List Int) (w : World) (hx : xs.length = 5) (hy : ys.length = 5) (hb : ∀ j : Nat, 0 ≤ xs[j]?.getD 0 ∧ xs[j]?.getD 0 ≤ 1000000 ∧ 0 ≤ ys[j]?.getD 0 ∧ ys[j]?.getD 0 ≤ 1000000) :
    Calls Try.prog 106 #[.agg (monK xs), .agg (monK ys)] w (SaysM (addL xs ys) w) := by
  have HI : Hid (∀ j : Nat, j < 5 → ∀ w : World, (Instr.index 94 (.agg (monK ys)) (.int .i64 (j : Int))).run Try.prog w = .ok (.int .i64 (ys[j]?.getD 0)) w) := Lib.hid fun j hj w => idxM w _ j hj _ _ (monK_at ys j (by omega))
  have HB := Lib.hid hb
  obtain ⟨w1, hw1⟩ : ∃ w1, w1 = (((w.alloc (.cells (monK xs) 94)).alloc (.cells (monK ys) 94)).alloc (.cells (monK zero5) 94)) := ⟨_, rfl⟩
  have T1 : Hid (Tri5 w (addTo xs ys 0) w1) := Lib.hid (by
    rw [hw1, addTo_zero hx]
    refine ⟨(((Below.refl w.heap.size w).alloc (Nat.le_refl _) _).alloc (by simp) _).alloc (by simp; omega) _, ((MonAt.new w xs).alloc _).alloc _, ?_⟩
    have := MonAt.new ((w.alloc (.cells (monK xs) 94)).alloc (.cells (monK ys) 94)) zero5
    simpa using this)
  have Y1 : Hid (w1.rangeAt (w.heap.size + 1) 0 (monK ys).toList) := Lib.hid (by
    rw [hw1]
    have := (MonAt.new (w.alloc (.cells (monK xs) 94)) ys).alloc (.cells (monK zero5) 94)
    rw [World.size_alloc] at this
    exact this.range)
  have SY : Hid ((monK ys).size = 5) := Lib.hid (by rw [monK_size, hy])
  rw [monK_zero] at hw1
  clear hb hx hy
  go_enter Try.func106, Try.ntmps106
  go_upto_region 1 with fail
  rw [← hw1]
  clear hw1
  generalize monK ys = KY at *
  go_wp2_with (refine ldKM rfl _ rfl (w.heap.size + 1) 0 rfl KY Y1.out SY.out ?_)
  go_loopw [5, 6, 8] (fun _ _ c wr => ∃ k : Nat, k ≤ 5 ∧ c = .int .i64 k ∧ Hid (Tri5 w (addTo xs ys k) wr)) (fun _ _ c _ => 5 - (intOf c).toNat)
  case atStart => exact ⟨0, by omega, rfl, T1⟩
  case round =>
    clear T1 Y1
    obtain ⟨k, hk, rfl, hT⟩ := hrel
    by_cases hlt : k < 5
    · have hlt' : (k : Int) < 5 := by omega
      have hix := HI.out k hlt
      have c1 := hT.out.a.cell k (by rw [addTo_len]; exact hlt)
      have f1 := hT.out.a.fr k
      have e1 : (addTo xs ys k)[k]?.getD 0 = xs[k]?.getD 0 := by rw [addTo_at _ _ _ _ hlt, if_neg (Nat.lt_irrefl _), Int.add_zero]
      rw [e1] at c1
      have hb := HB.out k
      have T2 : Hid (Tri5 w (addTo xs ys (k + 1)) (wr.setCell ⟨w.heap.size, k, none⟩ (.int .i64 (xs[k]?.getD 0 + ys[k]?.getD 0)))) := Lib.hid ⟨hT.out.bel.setCell (p := ⟨w.heap.size, k, none⟩) (Nat.le_refl _) _, by rw [← addTo_set xs ys k hlt]; exact hT.out.a.set k _, hT.out.r.other _ _ (by simp; omega)⟩
      clear e1 hT
      generalize xs[k]?.getD 0 = x at *
      generalize ys[k]?.getD 0 = y at *
      have hw2 : wrap64 (x + y) = x + y := wrap_same (by omega) (by omega)
      go_wp2_with fail
      go_roundw
      case rel => exact ⟨k + 1, by omega, by go_num, T2⟩
      case measure => simp [intOf]; omega
    · obtain rfl : k = 5 := by omega
      have HR := Lib.hid hT.out.a.range
      have HO : Hid (wr.heap[w.heap.size + 1 + 1]? = some (.cells (monK zero5) 94 (0, 0))) := Lib.hid hT.out.r
      have LZ : (addTo xs ys 5).length = 5 := addTo_len _ _ _
      have SZ : Hid ((Try.prog.info? 94).map (·.size) = some (monK (addTo xs ys 5)).size) := Lib.hid (by rw [sizeM, monK_size, LZ])
      have S5 : Hid ((monK (addTo xs ys 5)).size = 5) := Lib.hid (by rw [monK_size, LZ])
      have SQ : Hid ((monK zero5).size = (monK (addTo xs ys 5)).size) := Lib.hid (by rw [monK_size _, monK_size _, LZ]; rfl)
      have B3 := Lib.hid hT.out.bel
      clear hT LZ
      obtain ⟨zs, hzs⟩ : ∃ zs, addTo xs ys 5 = zs := ⟨_, rfl⟩
      have HZS : Hid (addL xs ys = zs) := Lib.hid hzs
      rw [hzs] at HR SZ S5 SQ
      clear hzs
      go_wp2_with (first
        | (refine ldKM rfl _ rfl w.heap.size 0 rfl (monK zs) HR.out S5.out ?_)
        | (refine wpList_store_row rfl 94 _ _ rfl (w.heap.size + 1 + 1) (monK zs) rfl rfl 94 _ HO.out SZ.out SQ.out (monK_one zs) ?_))
      refine bodyPost_ret (results_cell_row rfl _ _ (w.heap.size + 1 + 1) 94 (monK zs) (0, 0) _ rfl (setRow_heap _ _ _ _ _ _ HO.out) Try.underlying94 rfl SZ.out) rfl ?_
      exact ⟨by rw [HZS.out], below_setRow B3.out (by omega) _⟩

theorem own_shape5 {w : World} {B n : Nat} {e : TypeId} {v : Value} {xs : List Value} (h : w.ownsRow B e 1 v n xs) : ∃ a cap, v = .slice a n cap := by
  rcases h.2 with ⟨rfl, rfl⟩ | ⟨g, cap, cur, rfl, _⟩
  · exact ⟨none, 0, rfl⟩
  · exact ⟨_, cap, rfl⟩
/-- What a call answers that makes a row. -/
def RowRes (xs : List Int) (w : World) (e : Ending) (w' : World) : Prop := ∃ u, e = .returned u ∧ w'.ownsRow w.heap.size 2 1 u xs.length (xs.map (Value.int .i64)) ∧ Below w.heap.size w w'

set_option maxHeartbeats 1000000 in
theorem exponents_any (zs : List Int) (w : World) (hz : zs.length = 5) :
    Calls Try.prog 104 #[.agg (monK zs)] w (RowRes (trim zs) w) := by
  have M1 : Hid (MonAt (w.alloc (.cells (monK zs) 94)) w.heap.size zs) := Lib.hid (MonAt.new w zs)
  have B1 : Hid (Below w.heap.size w (w.alloc (.cells (monK zs) 94))) := Lib.hid ((Below.refl _ _).alloc (Nat.le_refl _) _)
  have HZ := Lib.hid hz
  have TR := Lib.hid (fun oa oc wx B h => trimmed_any zs B oa oc wx h (by omega))
  rw [hz] at TR
  go_enter Try.func104, Try.ntmps104
  go_upto_region 1 with fail
  generalize (w.alloc (.cells (monK zs) 94)) = w1 at *
  have CL := Lib.hid (cloneRd w.heap.size 0 zs 5 w1 (by omega) (fun j hj => by rw [Nat.zero_add]; exact M1.out.cell j hj))
  rw [hz] at CL
  go_wp2_with fail
  refine CL.out.mono ?_
  rintro e w2 ⟨u, rfl, ho, b2⟩
  obtain ⟨oa, oc, rfl⟩ := own_shape5 ho
  have HO := Lib.hid ho
  have B2 := Lib.hid (B1.out.trans (b2.mono B1.out.size))
  have HB := B1.out.size
  clear ho b2 CL
  go_wp2_with fail
  refine (TR.out oa oc w2 w1.heap.size HO.out).mono ?_
  rintro e w3 ⟨u3, rfl, rfl, h3⟩
  have H3 := Lib.hid h3
  clear h3
  go_wp2_with fail
  go_ret
  exact ⟨u3, rfl, own_base H3.out HB, B2.out⟩
end Go.Proofs.Ytnmilkehggjpfaa
end
