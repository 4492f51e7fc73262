/-
  Joined: QArr.
-/
import Derived.Test.YtcbfcpngpnlodaaZsisOfProfile04
import Derived.Test.YtcbfcpngpnlodaaZsisOfProfile07
import Derived.Test.YtcbfcpngpnlodaaZsisOfProfile09
import Derived.Laws.Tables
import Derived.Laws.CopyOwn
import Derived.ChangeKeysEq
import Derived.Deep.DeepCutAuto
import Derived.BigRegion
import Derived.WalkSmall
import Derived.Deep.RegionWith
section
namespace Go.Proofs.Ytcbfcpngpnlodaa
open Go.RowKit Go.Maps
set_option linter.unusedVariables false
set_option maxRecDepth 100000

/-- The sixteen numbers f 0, f 1, .. -/
def arL (f : Nat → Int) : List Int := (List.range 16).map f
def arK (f : Nat → Int) : Array Value := ((arL f).map (Value.int .i64)).toArray
theorem arL_len (f : Nat → Int) : (arL f).length = 16 := by simp [arL]
theorem arL_at (f : Nat → Int) (j : Nat) (h : j < 16) : (arL f)[j]? = some (f j) := by
  unfold arL
  rw [List.getElem?_map, List.getElem?_range h]
  rfl
theorem arL_congr {f g : Nat → Int} (h : ∀ i, i < 16 → f i = g i) : arL f = arL g :=
  List.map_congr_left fun i hi => h i (List.mem_range.1 hi)
theorem arL_inj {f g : Nat → Int} (h : arL f = arL g) (i : Nat) (hi : i < 16) : f i = g i := by
  have := congrArg (fun l => l[i]?) h
  simp only [arL_at _ i hi] at this
  exact Option.some.inj this
theorem arK_size (f : Nat → Int) : (arK f).size = 16 := by simp [arK, arL]
theorem arK_toList (f : Nat → Int) : (arK f).toList = (arL f).map (Value.int .i64) := by simp [arK]
theorem arK_one (f : Nat → Int) : (arK f).all (·.oneCell') = true := by
  refine Array.all_eq_true_iff_forall_mem.2 fun v hv => ?_
  unfold arK at hv
  rw [List.mem_toArray] at hv
  obtain ⟨z, _, rfl⟩ := List.mem_map.1 hv
  rfl
theorem arK_at (f : Nat → Int) (j : Nat) (h : j < 16) : (arK f)[j]? = some (.int .i64 (f j)) := by
  unfold arK
  rw [List.getElem?_toArray, List.getElem?_map, arL_at f j h]
  rfl
theorem arK_congr {f g : Nat → Int} (h : ∀ i, i < 16 → f i = g i) : arK f = arK g := by unfold arK; rw [arL_congr h]
theorem arK_inj {f g : Nat → Int} (h : arK f = arK g) (i : Nat) (hi : i < 16) : f i = g i := by
  have h1 := congrArg (fun a => a[i]?) h
  simp only [arK_at _ i hi] at h1
  injection h1 with h1
  injection h1
def updF (f : Nat → Int) (k : Nat) (x : Int) (i : Nat) : Int := if i = k then x else f i
theorem arK_upd (f : Nat → Int) (k : Nat) (x : Int) (h : k < 16) : (arK f).setIfInBounds k (.int .i64 x) = arK (updF f k x) := by
  apply Array.ext_getElem?
  intro i
  rw [Array.getElem?_setIfInBounds]
  by_cases hi : i < 16
  · rw [arK_at _ i hi]
    by_cases e : k = i
    · subst e; rw [if_pos rfl, if_pos (by rw [arK_size]; exact hi), arK_at _ k hi]; unfold updF; rw [if_pos rfl]
    · rw [if_neg e, arK_at _ i hi]; unfold updF; rw [if_neg (fun h => e h.symm)]
  · rw [if_neg (by omega), Array.getElem?_eq_none (by rw [arK_size]; omega), Array.getElem?_eq_none (by rw [arK_size]; omega)]
/-- A list's n numbers, and zeros. -/
def padF (n : Nat) (G : Nat → Int) (i : Nat) : Int := if i < n then G i else 0
def zeroF (_ : Nat) : Int := 0
theorem arK_zero : arK zeroF = #[Value.int .i64 0, Value.int .i64 0, Value.int .i64 0, Value.int .i64 0, Value.int .i64 0, Value.int .i64 0, Value.int .i64 0, Value.int .i64 0, Value.int .i64 0, Value.int .i64 0, Value.int .i64 0, Value.int .i64 0, Value.int .i64 0, Value.int .i64 0, Value.int .i64 0, Value.int .i64 0] := rfl
def lstF (n : Nat) (G : Nat → Int) : List Int := (List.range n).map G
theorem lstF_len (n : Nat) (G : Nat → Int) : (lstF n G).length = n := by simp [lstF]
theorem lstF_at (n : Nat) (G : Nat → Int) (j : Nat) (h : j < n) : (lstF n G)[j]? = some (G j) := by
  unfold lstF
  rw [List.getElem?_map, List.getElem?_range h]
  rfl
theorem pad_splice16 (n : Nat) (G : Nat → Int) (h : n ≤ 16) : splice (arK zeroF).toList 0 ((lstF n G).map (Value.int .i64)) = (arK (padF n G)).toList := by
  rw [arK_toList, arK_toList]
  unfold splice
  rw [List.take_zero, List.nil_append, Nat.zero_add, List.length_map, lstF_len]
  rw [← List.map_drop, ← List.map_append]
  congr 1
  apply List.ext_getElem?
  intro i
  by_cases hi : i < 16
  · rw [arL_at _ i hi]
    unfold padF
    by_cases hn : i < n
    · rw [List.getElem?_append_left (by rw [lstF_len]; exact hn), lstF_at n G i hn, if_pos hn]
    · rw [List.getElem?_append_right (by rw [lstF_len]; omega), lstF_len, List.getElem?_drop, if_neg hn, show n + (i - n) = i by omega, arL_at _ i hi]
      rfl
  · rw [List.getElem?_eq_none (by rw [List.length_append, lstF_len, List.length_drop, arL_len]; omega), List.getElem?_eq_none (by rw [arL_len]; omega)]

/-- The array f lies in block b. -/
def ArAt (w : World) (b : Nat) (f : Nat → Int) : Prop := w.heap[b]? = some (.cells (arK f) 56 (0, 0))
section
variable {w w' : World} {b : Nat} {f g : Nat → Int}
theorem ArAt.lt (h : ArAt w b f) : b < w.heap.size := (Array.getElem?_eq_some_iff.1 h).1
theorem ArAt.cell (h : ArAt w b f) (j : Nat) (hj : j < 16) : w.cell? ⟨b, j, none⟩ = some (.int .i64 (f j)) := by
  rw [cell_of_row w b j _ _ _ h, arK_at f j hj]
theorem ArAt.fr (h : ArAt w b f) (k : Nat) : w.frozen? ⟨b, k, none⟩ = false := by
  simp [World.frozen?, show w.heap[b]? = _ from h]
theorem ArAt.set (h : ArAt w b f) (j : Nat) (hj : j < 16) (x : Int) : ArAt (w.setCell ⟨b, j, none⟩ (.int .i64 x)) b (updF f j x) := by
  have := heap_setCell_same w b j _ _ (.int .i64 x) h
  rw [arK_upd f j x hj] at this
  exact this
theorem ArAt.other (h : ArAt w b f) (a : Addr) (v : Value) (hne : b ≠ a.block) : ArAt (w.setCell a v) b f := (heap_setCell_other w a b v hne).trans h
theorem ArAt.up (h : ArAt w b f) (k : Below w.heap.size w w') : ArAt w' b f := (k.block _ h.lt).trans h
theorem ArAt.new (w : World) (f : Nat → Int) : ArAt (w.alloc (.cells (arK f) 56)) w.heap.size f := heap_alloc_new w _
theorem ArAt.alloc (h : ArAt w b f) (o : Obj) : ArAt (w.alloc o) b f := (heap_alloc_old w o h.lt).trans h
theorem ArAt.range (h : ArAt w b f) : w.rangeAt b 0 (arK f).toList := fun j v hv => by
  rw [Nat.zero_add, cell_of_row w b j _ _ _ h]
  simpa using hv
theorem ArAt.congr (h : ArAt w b f) (e : ∀ i, i < 16 → f i = g i) : ArAt w b g := by unfold ArAt at *; rw [h, arK_congr e]
end
theorem sizeAr (f : Nat → Int) : (Try.prog.info? 56).map (·.size) = some (arK f).size := by rw [sizeQ, arK_size]

/-- A call that answers an array. -/
def SaysA (f : Nat → Int) (w : World) (e : Ending) (w' : World) : Prop := e = .returned (.agg (arK f)) ∧ Below w.heap.size w w'
theorem SaysA.congr {f g : Nat → Int} {w w' : World} {e : Ending} (h : SaysA f w e w') (hc : ∀ i, i < 16 → f i = g i) : SaysA g w e w' := by
  unfold SaysA at *; rw [arK_congr hc] at h; exact h

set_option maxHeartbeats 2000000 in
theorem profileOf_any (v : Value) (n : Nat) (G : Nat → Int) (w : World) (h : RdI w v n G) (h16 : n ≤ 16) :
    Calls Try.prog 55 #[v] w (SaysA (padF n G) w) := by
  have HSP := Lib.hid (pad_splice16 n G h16)
  have HL := Lib.hid h16
  obtain ⟨a, cap, rfl, hm, ha⟩ := h
  unfold maxLen at hm
  have HA := Lib.hid ha
  clear ha h16
  have HLL : Hid (((lstF n G).map (Value.int .i64)).length = n) := Lib.hid (by rw [List.length_map, lstF_len])
  have HCN : Hid (((lstF n G).map (Value.int .i64)).length = Nat.min n 16) := Lib.hid (by rw [HLL.out]; have := HL.out; exact (Nat.min_eq_left this).symm)
  have HC : Hid (∀ w2 : World, Below w.heap.size w w2 → (0 < ((lstF n G).map (Value.int .i64)).length → ∃ ad, a = some ad ∧ ∀ j v, ((lstF n G).map (Value.int .i64))[j]? = some v → w2.cell? (ad.add j) = some v)) := by
    refine Lib.hid fun w2 hb hp => ?_
    rw [HLL.out] at hp
    obtain ⟨b, off, rfl, hc⟩ := HA.out.resolve_left (by omega)
    refine ⟨_, rfl, fun j v hv => ?_⟩
    rw [Addr.add_mid]
    have hj : j < n := by
      have := (List.getElem?_eq_some_iff.1 hv).1
      rw [HLL.out] at this
      exact this
    rw [List.getElem?_map, lstF_at n G j hj] at hv
    have h1 := hc j hj
    have hbl := World.block_lt_of_cell? w _ h1
    rw [← Option.some.inj hv]
    exact (hb.cell (p := ⟨b, off + j, none⟩) hbl).trans h1
  obtain ⟨w1, hw1⟩ : ∃ w1, w1 = ((w.alloc (.cells (arK zeroF) 56)).alloc (.cells (arK zeroF) 56)) := ⟨_, rfl⟩
  have B1 : Hid (Below w.heap.size w w1) := Lib.hid (by rw [hw1]; exact ((Below.refl _ w).alloc (Nat.le_refl _) _).alloc (by simp) _)
  have B2 : Hid (Below (w.heap.size + 1) w1 w1) := Lib.hid (Below.refl _ _)
  have M0 : Hid (ArAt w1 w.heap.size zeroF) := Lib.hid (by rw [hw1]; exact (ArAt.new w zeroF).alloc _)
  have M1 : Hid (ArAt w1 (w.heap.size + 1) zeroF) := Lib.hid (by rw [hw1]; have := ArAt.new (w.alloc (.cells (arK zeroF) 56)) zeroF; rw [World.size_alloc] at this; exact this)
  have HNEW : Hid (w1.heap[w.heap.size + 1]? = some (.cells (arK zeroF).toList.toArray 56 (0, 0))) := Lib.hid (by rw [Array.toArray_toList]; exact M1.out)
  have H4 : Hid (0 < ((lstF n G).map (Value.int .i64)).length → (some (⟨w.heap.size + 1, 0, none⟩ : Addr)) = some ⟨w.heap.size + 1, 0, none⟩ ∧ ∃ ad, a = some ad ∧ ∀ j v, ((lstF n G).map (Value.int .i64))[j]? = some v → w1.cell? (ad.add j) = some v) := Lib.hid fun hp => ⟨rfl, HC.out _ B1.out hp⟩
  have H5 : Hid (0 + ((lstF n G).map (Value.int .i64)).length ≤ (arK zeroF).toList.length) := Lib.hid (by have h2 := HL.out; rw [HLL.out, Array.length_toList, arK_size]; omega)
  have H6 : Hid (∀ u ∈ (lstF n G).map (Value.int .i64), u.oneCell' = true) := Lib.hid (by intro u hu; obtain ⟨z, _, rfl⟩ := List.mem_map.1 hu; rfl)
  rw [arK_zero] at hw1
  go_enter Try.func55, Try.ntmps55
  go_upto_region 2 with fail
  rw [← hw1]
  clear hw1
  go_upto_region 3 with (refine wpList_copy_splice rfl _ _ 22 22 rfl 2 Try.underlying22 (by kernel_rfl) _ _ 16 16 n cap rfl rfl (w.heap.size + 1) 0 (arK zeroF).toList 56 HNEW.out ((lstF n G).map (Value.int .i64)) HCN.out H4.out H5.out H6.out (w.heap.size + 1) _ B2.out (Nat.le_refl _) ?_; intro w3 hg3 hb3; rw [HSP.out, Array.toArray_toList] at hg3; have M3 : Hid (ArAt w3 (w.heap.size + 1) (padF n G)) := Lib.hid hg3; have N3 : Hid (ArAt w3 w.heap.size zeroF) := Lib.hid ((hb3.block _ (Nat.lt_succ_self _)).trans M0.out); have B3 : Hid (Below w.heap.size w w3) := Lib.hid (B1.out.trans (hb3.mono (Nat.le_succ _))); clear hg3 hb3)
  have HR := Lib.hid M3.out.range
  have HO : Hid (w3.heap[w.heap.size]? = some (.cells (arK zeroF) 56 (0, 0))) := Lib.hid N3.out
  have S5 : Hid ((arK (padF n G)).size = 16) := Lib.hid (arK_size _)
  have SZ : Hid ((Try.prog.info? 56).map (·.size) = some (arK (padF n G)).size) := Lib.hid (sizeAr _)
  have SQ : Hid ((arK zeroF).size = (arK (padF n G)).size) := Lib.hid (by rw [arK_size, arK_size])
  have S1 := Lib.hid (arK_one (padF n G))
  clear HSP
  obtain ⟨K, hK⟩ : ∃ K, arK (padF n G) = K := ⟨_, rfl⟩
  have HK : Hid (.agg (arK (padF n G)) = Value.agg K) := Lib.hid (by rw [hK])
  rw [hK] at HR S5 SZ SQ S1
  clear hK
  go_wp2_with (first
    | (refine ldKQ rfl _ rfl (w.heap.size + 1) 0 rfl K HR.out S5.out ?_)
    | (refine wpList_store_row rfl 56 _ _ rfl w.heap.size K rfl rfl 56 _ HO.out SZ.out SQ.out S1.out ?_))
  refine bodyPost_ret (results_cell_row rfl _ _ w.heap.size 56 K (0, 0) _ rfl (setRow_heap _ _ _ _ _ _ HO.out) Try.underlying56 rfl SZ.out) rfl ?_
  exact ⟨by rw [HK.out], below_setRow B3.out (Nat.le_refl _) _⟩
end Go.Proofs.Ytcbfcpngpnlodaa
end
