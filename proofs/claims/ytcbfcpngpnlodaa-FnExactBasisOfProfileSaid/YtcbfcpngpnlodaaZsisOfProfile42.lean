/-
  Joined: KWide, KRows, KKeysOf, KTermP, KTermW, KSumT.
-/
import Derived.Test.YtcbfcpngpnlodaaZsisOfProfile41
import Derived.Test.YtcbfcpngpnlodaaZsisOfProfile15
import Derived.Deep.MidRow
import Derived.Laws.Tables
import Derived.Laws.CopyOwn
import Derived.Great.BuildSlice
import Derived.Test.YtcbfcpngpnlodaaZsisOfProfile20
import Derived.Test.YtcbfcpngpnlodaaZsisOfProfile12
import Derived.Test.YtcbfcpngpnlodaaZsisOfProfile06
import Derived.ChangeKeysEq
import Derived.Test.YtcbfcpngpnlodaaZsisOfProfile07
import Derived.Test.YtcbfcpngpnlodaaZsisOfProfile38
section
namespace Go.Proofs.Ytcbfcpngpnlodaa
open Go.RowKit Go.Maps
set_option linter.unusedVariables false
set_option maxRecDepth 100000

/-- The cells of a wide term: its length, its numbers, zeros. -/
def wdI (n : Int) (xs : List Int) : List Int := n :: (xs ++ List.replicate (20 - xs.length) 0)
def wdA (n : Int) (xs : List Int) : Array Value := ((wdI n xs).map (Value.int .i64)).toArray
theorem wdI_len (n : Int) (xs : List Int) (h : xs.length ≤ 20) : (wdI n xs).length = 21 := by simp [wdI]; omega
theorem wdA_size (n : Int) (xs : List Int) (h : xs.length ≤ 20) : (wdA n xs).size = 21 := by simp [wdA, wdI_len n xs h]
theorem wdA_zero : wdA 0 [] = #[Value.int .i64 0, Value.int .i64 0, Value.int .i64 0, Value.int .i64 0, Value.int .i64 0, Value.int .i64 0, Value.int .i64 0, Value.int .i64 0, Value.int .i64 0, Value.int .i64 0, Value.int .i64 0, Value.int .i64 0, Value.int .i64 0, Value.int .i64 0, Value.int .i64 0, Value.int .i64 0, Value.int .i64 0, Value.int .i64 0, Value.int .i64 0, Value.int .i64 0, Value.int .i64 0] := by rfl
theorem wd_splice (n : Int) (xs : List Int) (h : xs.length ≤ 20) : splice (wdA n []).toList 1 (xs.map (Value.int .i64)) = (wdA n xs).toList := by
  have e : (wdA n []).toList = .int .i64 n :: List.replicate 20 (.int .i64 0) := by simp [wdA, wdI]
  rw [e]
  have h20 : List.replicate 20 (Value.int .i64 0) = List.replicate xs.length (Value.int .i64 0) ++ List.replicate (20 - xs.length) (Value.int .i64 0) := by
    rw [List.replicate_append_replicate]; congr 1; omega
  rw [h20]
  simp only [splice, wdA, wdI, List.toList_toArray, List.take_succ_cons, List.take_zero, List.map_cons, List.map_append, List.map_replicate, List.length_map]
  rw [Nat.add_comm 1, List.drop_succ_cons, List.drop_left' (List.length_replicate)]
  rfl

def wideK (xs : List Int) : Array Value := wdA xs.length xs
end Go.Proofs.Ytcbfcpngpnlodaa
end
section
namespace Go.Proofs.Ytcbfcpngpnlodaa
open Go.RowKit
set_option maxRecDepth 100000
set_option linter.unusedVariables false

/-- The first m of the lists. -/
def rowsL (X : Nat → List Int) (m : Nat) : List (List Int) := (List.range m).map X
theorem rowsL_succ (X : Nat → List Int) (m : Nat) : rowsL X (m + 1) = rowsL X m ++ [X m] := by simp [rowsL, List.range_succ]
theorem rowsL_len (X : Nat → List Int) (m : Nat) : (rowsL X m).length = m := by simp [rowsL]
theorem mem_rowsL {X : Nat → List Int} {m : Nat} {x : List Int} (h : x ∈ rowsL X m) : ∃ i, i < m ∧ x = X i := by
  obtain ⟨i, hi, e⟩ := List.mem_map.1 h
  exact ⟨i, List.mem_range.1 hi, e.symm⟩

/-- A row of numbers is put behind a family: what the walk wants. -/
theorem fam_put {w w1 w3 : World} {B n : Nat} {S V3 v : Value} {VS : Nat → Value} {L : List (List Int)} {x : List Int} (hF : FamL w B S VS L) (hS : Sep L.length VS) (hB : B ≤ w.heap.size)
    (hv : w1.ownsRow w.heap.size 2 1 v n (x.map (Value.int .i64))) (hn : n = x.length) (hb : Below w.heap.size w w1) (o : Obj)
    (hV3 : w3.ownsRow B 22 1 V3 (L.length + 1) ((List.range L.length).map VS ++ [v])) (hg : (w1.alloc o).grownBy w3 S.ownBlock) :
    FamL w3 B V3 (ext VS L.length v) (L ++ [x]) ∧ Sep (L ++ [x]).length (ext VS L.length v) ∧ Below B w w3 := by
  have hsz := hb.size
  have hF1 : FamL w1 B S VS L := hF.below hb
  have K3 : KeepI none w1 w3 := (KeepI.below ((Below.refl _ w1).alloc (Nat.le_refl _) _) none).trans (KeepI.row (hF1.out.alloc o) hg none)
  have N3 := K3.own (own_base hv hB) (Classical.em _)
  refine ⟨FamL.push hF1 (fun _ _ => Classical.em _) K3 hV3 N3 hn, ?_, ?_⟩
  · rw [List.length_append]
    exact Sep.ext hS (fun i hi => apart_new (hF.inn i hi) (fun k hk => (hv.lt k hk).1))
  · exact (hb.mono hB).trans (((Below.refl _ w1).alloc (by omega) o).grown hg (by simp; omega) (fun k hk => (hF1.out.lt k hk).1))
end Go.Proofs.Ytcbfcpngpnlodaa
end
section
namespace Go.Proofs.Ytcbfcpngpnlodaa
open Go.RowKit Go.Maps
set_option linter.unusedVariables false
set_option maxRecDepth 100000

/-- The keys of lists, of both kinds. -/
def pkL (l : List (List Int)) : List (Array Value) := (l.filter (fun x => decide (fits x))).map packK
def wdL (l : List (List Int)) : List (Array Value) := (l.filter (fun x => !decide (fits x))).map wideK
theorem pkL_yes (l : List (List Int)) (x : List Int) (h : fits x) : pkL (l ++ [x]) = pkL l ++ [packK x] := by simp [pkL, h]
theorem pkL_no (l : List (List Int)) (x : List Int) (h : ¬ fits x) : pkL (l ++ [x]) = pkL l := by simp [pkL, h]
theorem wdL_yes (l : List (List Int)) (x : List Int) (h : fits x) : wdL (l ++ [x]) = wdL l := by simp [wdL, h]
theorem wdL_no (l : List (List Int)) (x : List Int) (h : ¬ fits x) : wdL (l ++ [x]) = wdL l ++ [wideK x] := by simp [wdL, h]
theorem pkL_len (l : List (List Int)) : (pkL l).length ≤ l.length := by rw [pkL, List.length_map]; exact List.length_filter_le _ _
theorem wdL_len (l : List (List Int)) : (wdL l).length ≤ l.length := by rw [wdL, List.length_map]; exact List.length_filter_le _ _
end Go.Proofs.Ytcbfcpngpnlodaa
end
section
namespace Go.Proofs.Ytcbfcpngpnlodaa
open Go.RowKit Go.Maps
set_option linter.unusedVariables false
set_option maxRecDepth 100000

theorem packK_at (xs : List Int) (hf : fits xs) (j : Nat) (hj : j < 8) : (packK xs)[j]? = some (.int .u8 (if j < xs.length then xs[j]?.getD 0 + 1 else 0)) := by
  simp [packK, pkA, pkI, hj]

end Go.Proofs.Ytcbfcpngpnlodaa
end
section
namespace Go.Proofs.Ytcbfcpngpnlodaa
open Go.RowKit Go.Maps
set_option linter.unusedVariables false
set_option maxRecDepth 100000

theorem wideK_zero (xs : List Int) : (wideK xs)[0]? = some (.int .i64 xs.length) := by simp [wideK, wdA, wdI]
theorem wideK_at (xs : List Int) (j : Nat) (hj : j < xs.length) : (wideK xs)[1 + j]? = some (.int .i64 (xs[j]?.getD 0)) := by
  have e : (wideK xs)[1 + j]? = (xs.map (Value.int .i64) ++ List.replicate (20 - xs.length) (Value.int .i64 0))[j]? := by simp [wideK, wdA, wdI, Nat.add_comm 1 j]
  rw [e, List.getElem?_append_left (by simpa using hj)]
  simp [hj]

end Go.Proofs.Ytcbfcpngpnlodaa
end
section
namespace Go.Proofs.Ytcbfcpngpnlodaa
open Go.RowKit Go.Maps
set_option linter.unusedVariables false
set_option maxRecDepth 100000

theorem flat_at (s : Nat) : ∀ (ks : List (Array Value)), (∀ k ∈ ks, k.size = s) → ∀ i, i < ks.length → ∀ j, j < s → (ks.flatMap Array.toList)[i * s + j]? = (ks[i]?.getD #[]).toList[j]?
  | [], _, i, hi, _, _ => absurd hi (Nat.not_lt_zero _)
  | k :: ks, h, 0, _, j, hj => by
    have hk := h k List.mem_cons_self
    rw [List.flatMap_cons, List.getElem?_append_left (by rw [Array.length_toList]; omega)]
    simp
  | k :: ks, h, i + 1, hi, j, hj => by
    have hk := h k List.mem_cons_self
    have e : (i + 1) * s + j = s + (i * s + j) := by rw [Nat.succ_mul]; omega
    rw [List.flatMap_cons, List.getElem?_append_right (by rw [Array.length_toList, e]; omega), Array.length_toList, hk, e, Nat.add_sub_cancel_left]
    have := flat_at s ks (fun k' hk' => h k' (List.mem_cons_of_mem _ hk')) i (by simpa using hi) j hj
    simpa using this

theorem rdK_of_own {w : World} {B : Nat} {T : TypeId} {s : Nat} {v : Value} {ks : List (Array Value)} (h : w.ownsRow B T s v ks.length (ks.flatMap Array.toList)) (hk : ∀ k ∈ ks, k.size = s) :
    ∃ a cap, v = .slice a ks.length cap ∧ ks.length ≤ maxLen ∧ (ks.length = 0 ∨ ∃ b off, a = some ⟨b, off, none⟩ ∧ b < w.heap.size ∧ ∀ i, i < ks.length → w.rangeAt b (off + i * s) (ks[i]?.getD #[]).toList) := by
  rcases h.2 with ⟨rfl, h0⟩ | ⟨g, cap, cur, rfl, hb, hg, h1, h2, h3, h4⟩
  · exact ⟨none, 0, by rw [h0], by rw [h0]; exact Nat.zero_le _, .inl h0⟩
  · refine ⟨_, cap, rfl, Nat.le_trans h1 h2, .inr ⟨g, 0, rfl, (Array.getElem?_eq_some_iff.1 hg).1, fun i hi j u hj => ?_⟩⟩
    have hks : (ks[i]?.getD #[]).size = s := by
      rw [List.getElem?_eq_getElem hi]
      exact hk _ (List.getElem_mem hi)
    have hjs : j < s := by
      have := (List.getElem?_eq_some_iff.1 hj).1
      rw [Array.length_toList, hks] at this
      exact this
    have e := flat_at s ks hk i hi j hjs
    rw [hj] at e
    have hlen : i * s + j < (ks.flatMap Array.toList).length := (List.getElem?_eq_some_iff.1 e).1
    rw [Nat.zero_add, h.cellAt (i * s + j) (by have := h.1; omega)]
    exact e
theorem packK_inj (x y : List Int) (hx : fits x) (hy : fits y) (h : packK x = packK y) : x = y := by
  have key : ∀ j, j < 8 → (if j < x.length then x[j]?.getD 0 + 1 else 0) = (if j < y.length then y[j]?.getD 0 + 1 else (0 : Int)) := by
    intro j hj
    have h1 := packK_at x hx j hj
    rw [h, packK_at y hy j hj] at h1
    simpa using h1.symm
  have hl : ∀ (x y : List Int), fits x → fits y → (∀ j, j < 8 → (if j < x.length then x[j]?.getD 0 + 1 else 0) = (if j < y.length then y[j]?.getD 0 + 1 else (0 : Int))) → ¬ x.length < y.length := by
    intro x y hx hy key hlt
    have h8 := hy.1
    have h1 := key x.length (by omega)
    rw [if_neg (Nat.lt_irrefl _), if_pos hlt] at h1
    have := (hy.2 x.length hlt).1
    omega
  have h1 := hl x y hx hy key
  have h2 := hl y x hy hx (fun j hj => (key j hj).symm)
  have e : x.length = y.length := by omega
  refine List.ext_getElem e fun i h3 h4 => ?_
  have h8 := hx.1
  have h5 := key i (by omega)
  rw [if_pos h3, if_pos h4, List.getElem?_eq_getElem h3, List.getElem?_eq_getElem h4] at h5
  simpa using h5
theorem wideK_inj (x y : List Int) (hx : x.length ≤ 20) (hy : y.length ≤ 20) (h : wideK x = wideK y) : x = y := by
  have h0 := wideK_zero x
  rw [h, wideK_zero y] at h0
  have e : x.length = y.length := by
    have := h0
    simp at this
    omega
  refine List.ext_getElem e fun i h3 h4 => ?_
  have h5 := wideK_at x i h3
  rw [h, wideK_at y i h4, List.getElem?_eq_getElem h3, List.getElem?_eq_getElem h4] at h5
  simpa using h5.symm

/-- What the sorting is asked. -/
def SortAll : Prop := ∀ (w : World) (B : Nat) (V : Value) (VS : Nat → Value) (L : List (List Int)), FamL w B V VS L → Sep L.length VS → L.Nodup → L.length ≤ 100000 → B ≤ w.heap.size →
  Calls Try.prog 74 #[V, .func (.func 75) #[] #[]] w fun e w' => e = .returned (.tuple #[]) ∧ ∃ VS' zs, FamL w' B V VS' zs ∧ Sep zs.length VS' ∧ Asc zs ∧ (∀ x, x ∈ zs ↔ x ∈ L) ∧ Below B w w'

end Go.Proofs.Ytcbfcpngpnlodaa
end
