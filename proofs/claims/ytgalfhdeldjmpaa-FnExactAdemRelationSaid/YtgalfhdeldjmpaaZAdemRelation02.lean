/-
  Joined: WArgs, WOwnC, KPar, KSumP.
-/
import Derived.Test.YtgalfhdeldjmpaaZAdemRelation01
import Derived.Test.YtgalfhdeldjmpaaRows
import Derived.Maps.OwnSet
import Derived.Maps.OwnOps
import Derived.Maps.Views
import Derived.DeepKeys4
import Derived.Deep.MidRow
import Derived.Deep.WholeRow
import Derived.Carry
import Derived.BigRegion
section
namespace Go.Proofs.Ytgalfhdeldjmpaa
open Go.RowKit
set_option maxRecDepth 100000
set_option linter.unusedVariables false

/-- A slice that came in: its n elements are G 0, G 1, .., each an int of the kind k. -/
def IsRow (k : IntKind) (w : World) (a : Option Addr) (n cap : Nat) (zs : List Int) : Prop :=
  (a = none ∧ n = 0 ∧ cap = 0 ∧ zs = []) ∨
  ∃ x, a = some x ∧ n ≤ cap ∧ cap ≤ maxLen ∧ zs.length = cap ∧ (∀ i, i < zs.length → w.cell? (x.add i) = some (.int k (zs.getD i 0))) ∧ ∀ z ∈ zs, (Lit.int k z).wf = true

theorem IsRow.rd {w : World} {a : Option Addr} {n cap : Nat} {zs : List Int} (h : IsRow .i64 w a n cap zs) : RdI w (.slice a n cap) n (fun i => zs.getD i 0) := by
  rcases h with ⟨rfl, rfl, rfl, _⟩ | ⟨x, rfl, h1, h2, h3, h4, _⟩
  · exact ⟨none, 0, rfl, Nat.zero_le _, .inl rfl⟩
  · refine ⟨_, cap, rfl, Nat.le_trans h1 h2, ?_⟩
    by_cases h0 : n = 0
    · exact .inl h0
    · obtain ⟨b, off, spot⟩ := x
      have hc := h4 0 (by omega)
      have hs : spot = none := by simpa [Addr.add] using World.cell?_spot hc
      subst hs
      refine .inr ⟨b, off, rfl, fun i hi => ?_⟩
      have h5 := h4 i (by omega)
      have e : (⟨b, off, none⟩ : Addr).add i = ⟨b, off + i, none⟩ := by
        by_cases h6 : i = 0
        · subst h6; simp [Addr.add]
        · simp [Addr.add, h6]
      rw [← e]
      exact h5

theorem IsRow.bounds {w : World} {a : Option Addr} {n cap : Nat} {zs : List Int} (h : IsRow .i64 w a n cap zs) (i : Nat) : -9223372036854775808 ≤ zs.getD i 0 ∧ zs.getD i 0 ≤ 9223372036854775807 := by
  have hd : ∀ z ∈ zs, (Lit.int .i64 z).wf = true := by
    rcases h with ⟨_, _, _, rfl⟩ | ⟨x, _, _, _, _, _, h⟩
    · intro z hz; simp at hz
    · exact h
  by_cases hi : i < zs.length
  · have hm : zs.getD i 0 ∈ zs := by
      rw [List.getD_eq_getElem?_getD, List.getElem?_eq_getElem hi]
      exact List.getElem_mem hi
    exact i64_bounds (hd _ hm)
  · rw [List.getD_eq_getElem?_getD, List.getElem?_eq_none (by omega)]
    simp

theorem RdI.below {w w' : World} {v : Value} {n : Nat} {G : Nat → Int} (h : RdI w v n G) (k : Below w.heap.size w w') : RdI w' v n G := by
  obtain ⟨a, cap, rfl, hm, hc⟩ := h
  refine ⟨a, cap, rfl, hm, ?_⟩
  rcases hc with h0 | ⟨b, off, rfl, hc⟩
  · exact .inl h0
  · refine .inr ⟨b, off, rfl, fun i hi => ?_⟩
    have h1 := hc i hi
    exact (k.cell (p := ⟨b, off + i, none⟩) (World.block_lt_of_cell? w _ h1)).trans h1

theorem RdI.drewN {w : World} {v : Value} {n : Nat} {G : Nat → Int} (h : RdI w v n G) (q : Nat) : RdI (w.drewN q) v n G := h

theorem RdI.congr {w : World} {v : Value} {n : Nat} {G G' : Nat → Int} (h : RdI w v n G) (e : ∀ i, i < n → G i = G' i) : RdI w v n G' := by
  obtain ⟨a, cap, rfl, hm, hc⟩ := h
  refine ⟨a, cap, rfl, hm, ?_⟩
  rcases hc with h0 | ⟨b, off, rfl, hc⟩
  · exact .inl h0
  · exact .inr ⟨b, off, rfl, fun i hi => by rw [hc i hi, e i hi]⟩

/-- n numbers, the first j of which are G 0, .. and the others 0. -/
def cpy (G : Nat → Int) (n j : Nat) : List Int := (List.range n).map fun i => if i < j then G i else 0
theorem cpy_length (G : Nat → Int) (n j : Nat) : (cpy G n j).length = n := by simp [cpy]
theorem cpy_set (G : Nat → Int) (n j : Nat) : (cpy G n j).set j (G j) = cpy G n (j + 1) := by
  apply List.ext_getElem
  · simp [cpy]
  · intro i h1 h2
    simp only [cpy, List.getElem_set, List.getElem_map, List.getElem_range]
    by_cases e : j = i
    · subst e; rw [if_pos rfl, if_pos (by omega)]
    · rw [if_neg e]
      by_cases h : i < j
      · rw [if_pos h, if_pos (by omega)]
      · rw [if_neg h, if_neg (by omega)]
theorem cpy_zero (G : Nat → Int) (n : Nat) : cpy G n 0 = List.replicate n 0 := by
  apply List.ext_getElem
  · simp [cpy]
  · intro i h1 h2; simp [cpy]
theorem cpy_get (G : Nat → Int) (n i : Nat) (h : i < n) : (cpy G n n)[i]?.getD 0 = G i := by
  simp [cpy, h]

theorem made_list0 (n : Nat) : (madeCells (Value.cells (.int .i64 0)) (n * 1)).toList = (List.replicate n (0 : Int)).map (Value.int .i64) := by
  rw [Nat.mul_one, List.map_replicate]
  exact toList_madeCells_one _ _

theorem own_at {w : World} {B g n cap : Nat} {xs : List Int} (h : w.ownsRow B 2 1 (.slice (some ⟨g, 0, none⟩) n cap) n (xs.map (Value.int .i64))) (j : Nat) (hj : j < n) : w.cell? ⟨g, j, none⟩ = some (.int .i64 (xs[j]?.getD 0)) := by
  have hl := h.1
  rw [List.length_map] at hl
  rw [h.cellAt j (by omega), List.getElem?_map, List.getElem?_eq_getElem (by omega)]
  rfl

/-- The copy: in new memory; it owns the numbers and reads as they do. -/
theorem toInt64S_any (v : Value) (n : Nat) (G : Nat → Int) (w : World) (hn : n ≤ 17592186044416) (h : RdI w v n G) :
    Calls Try.prog 54 #[v] w fun e w' => ∃ u, e = .returned u ∧ w'.ownsRow w.heap.size 2 1 u n ((cpy G n n).map (Value.int .i64)) ∧ Below w.heap.size w w' := by
  obtain ⟨i0, hi, hz0, hz1, hz2⟩ := info_parts Try.info2
  obtain ⟨a, cap, rfl, hm, hc⟩ := h
  by_cases h0 : n = 0
  · subst h0
    clear hc
    go_enter Try.func54, Try.ntmps54
    go_wp2_with (at_make; refine wpList_make_full _ rfl _ _ 41 rfl w.heap.size 2 i0 (.int .i64 0) 1 Try.underlying41 hi hz0 hz1 .i64 .i64 0 0 0 rfl rfl rfl rfl (by omega) (by unfold maxLen; omega) (Nat.le_refl _) ?_; intro w1 hown hgrow; rw [made_list0, ← cpy_zero G 0] at hown; have H1 := Lib.hid hown; have G1 := Lib.hid hgrow; clear hown hgrow)
    refine wp_loop_rounds 1 ?_
    rw [rounds_succ]
    go_wp2
    go_ret
    exact ⟨_, rfl, H1.out, (Below.refl _ w).grown G1.out (Nat.le_refl _) (by intro k hk; cases hk)⟩
  · obtain ⟨b, off, rfl, hc'⟩ := hc.resolve_left h0
    have HC := Lib.hid hc'
    have hlt0 : ∀ i, i < n → b < w.heap.size := fun i hi => World.block_lt_of_cell? w ⟨b, off + i, none⟩ (hc' i hi)
    have hbl := hlt0 0 (by omega)
    clear hc hc' hlt0 h0
    go_enter Try.func54, Try.ntmps54
    go_wp2_with (at_make; refine wpList_make_full _ rfl _ _ 41 rfl w.heap.size 2 i0 (.int .i64 0) 1 Try.underlying41 hi hz0 hz1 .i64 .i64 (n : Int) (n : Int) n rfl rfl rfl rfl (by rw [hz2]; omega) hm (Nat.le_refl _) ?_; intro w1 hown hgrow; rw [made_list0, ← cpy_zero G n] at hown; have H1 := Lib.hid hown; have G1 := Lib.hid hgrow; clear hown hgrow)
    unfold maxLen at hm
    have B1 : Below w.heap.size w w1 := (Below.refl _ w).grown G1.out (Nat.le_refl _) (by intro k hk; cases hk)
    clear G1
    go_loopw [4] (fun c wr => ∃ j : Nat, j ≤ n ∧ c = .int .i64 j ∧ Hid (wr.ownsRow w.heap.size 2 1 (.slice (some ⟨w.heap.size, 0, none⟩) n n) n ((cpy G n j).map (Value.int .i64))) ∧ Below w.heap.size w wr) (fun c _ => n - (intOf c).toNat)
    case atStart => exact ⟨0, by omega, rfl, H1, B1⟩
    case round =>
      clear H1 B1
      obtain ⟨j, hj, rfl, ho, hb⟩ := hrel
      by_cases hlt : j < n
      · have hlt' : (j : Int) < (n : Int) := by omega
        have c1 : wr.cell? ⟨b, off + j, none⟩ = some (.int .i64 (G j)) := (hb.cell (p := ⟨b, off + j, none⟩) hbl).trans (HC.out j hlt)
        have c2 := own_at ho.out j hlt
        have f2 := ho.out.frozenAt j
        have hst := ho.out.stored j (.int .i64 (G j))
        rw [← List.map_set, cpy_set] at hst
        have HS := Lib.hid hst
        generalize (cpy G n j)[j]?.getD 0 = z at c2
        clear hst ho
        go_wp2
        go_roundw
        case rel => exact ⟨j + 1, by omega, by go_num, Lib.hid HS.out.1, hb.setCell (Nat.le_refl _) _⟩
        case measure => simp [intOf]; omega
      · obtain rfl : j = n := by omega
        go_wp2
        go_ret
        exact ⟨_, rfl, ho.out, hb⟩
end Go.Proofs.Ytgalfhdeldjmpaa
end
section
namespace Go.Proofs.Ytgalfhdeldjmpaa
open Go.RowKit
set_option maxRecDepth 100000
set_option linter.unusedVariables false

theorem own_sameblock {w w' : World} {B : Nat} {v : Value} {n : Nat} {xs : List Value} {e : TypeId} {s : Nat} (h : w.ownsRow B e s v n xs)
    (k : ∀ g, v.ownBlock = some g → w'.heap[g]? = w.heap[g]?) : w'.ownsRow B e s v n xs := by
  refine ⟨h.1, ?_⟩
  rcases h.2 with hn | ⟨g, cap, cur, rfl, hb, hg, rest⟩
  · exact .inl hn
  · refine .inr ⟨g, cap, cur, rfl, hb, ?_, rest⟩
    rw [k g rfl]
    exact hg

/-- Two rows of different element types lie in different blocks. -/
theorem own_types {w : World} {B B' : Nat} {v v' : Value} {n n' : Nat} {xs xs' : List Value} {e e' : TypeId} {s s' : Nat} (h : w.ownsRow B e s v n xs) (h' : w.ownsRow B' e' s' v' n' xs') (he : e ≠ e') :
    v.ownBlock = none ∨ v.ownBlock ≠ v'.ownBlock := by
  rcases h.2 with ⟨rfl, _⟩ | ⟨g, cap, cur, rfl, _, hg, _⟩
  · exact .inl rfl
  · refine .inr fun e0 => ?_
    rcases h'.2 with ⟨rfl, _⟩ | ⟨g', cap', cur', rfl, _, hg', _⟩
    · cases e0
    · simp only [Value.ownBlock, Option.some.injEq] at e0
      subst e0
      rw [hg] at hg'
      cases hg'
      exact he rfl

end Go.Proofs.Ytgalfhdeldjmpaa
end
section
namespace Go.Proofs.Ytgalfhdeldjmpaa
open Go.RowKit Go.Maps
set_option linter.unusedVariables false
set_option maxRecDepth 100000

/-- x occurs an odd number of times. -/
def par {α : Type} : List α → α → Prop
  | [], _ => False
  | x :: r, k => (x = k ∧ ¬ par r k) ∨ (x ≠ k ∧ par r k)
theorem par_snoc {α : Type} (r : List α) (x k : α) : par (r ++ [x]) k ↔ (x = k ∧ ¬ par r k) ∨ (x ≠ k ∧ par r k) := by
  induction r with
  | nil => simp [par]
  | cons y r ih =>
    show (y = k ∧ ¬ par (r ++ [x]) k) ∨ (y ≠ k ∧ par (r ++ [x]) k) ↔ (x = k ∧ ¬ ((y = k ∧ ¬ par r k) ∨ (y ≠ k ∧ par r k))) ∨ (x ≠ k ∧ ((y = k ∧ ¬ par r k) ∨ (y ≠ k ∧ par r k)))
    rw [ih]
    by_cases h1 : y = k <;> by_cases h2 : x = k <;> by_cases h3 : par r k <;> simp [h1, h2, h3]
theorem par_same {α : Type} (r : List α) (x : α) : par (r ++ [x]) x ↔ ¬ par r x := by rw [par_snoc]; simp
theorem par_other {α : Type} (r : List α) (x k : α) (h : x ≠ k) : par (r ++ [x]) k ↔ par r k := by rw [par_snoc]; simp [h]
theorem par_mem {α : Type} (r : List α) (k : α) (h : par r k) : k ∈ r := by
  induction r with
  | nil => cases h
  | cons x r ih =>
    rcases h with ⟨e, _⟩ | ⟨_, h⟩
    · rw [e]; exact List.mem_cons_self
    · exact List.mem_cons_of_mem _ (ih h)
theorem par_append {α : Type} (r s : List α) (k : α) : par (r ++ s) k ↔ ((par r k ∧ ¬ par s k) ∨ (¬ par r k ∧ par s k)) := by
  induction r with
  | nil => simp [par]
  | cons y r ih =>
    show (y = k ∧ ¬ par (r ++ s) k) ∨ (y ≠ k ∧ par (r ++ s) k) ↔ _
    rw [ih]
    show _ ↔ ((((y = k ∧ ¬ par r k) ∨ (y ≠ k ∧ par r k)) ∧ ¬ par s k) ∨ (¬ ((y = k ∧ ¬ par r k) ∨ (y ≠ k ∧ par r k)) ∧ par s k))
    by_cases h1 : y = k <;> by_cases h2 : par r k <;> by_cases h3 : par s k <;> simp [h1, h2, h3]

/-- The map D (with bools) has just the keys that occur an odd number of times in p, each with true. -/
def MapIs (T : TypeId) (D : DataW Unit) (p : List (Array Value)) : Prop :=
  ∀ (k : Array Value) (l : Lit), keyOf Try.prog T (.agg k) = some l → (par p k → D.atKey l (.lit (.bool false)) = .lit (.bool true) ∧ has D l = true) ∧ (¬ par p k → D.atKey l (.lit (.bool false)) = .lit (.bool false) ∧ has D l = false)
theorem MapIs.nil (T : TypeId) : MapIs T (.map []) [] := fun k l _ => ⟨fun h => (by cases h), fun _ => ⟨rfl, rfl⟩⟩
theorem MapIs.put {T : TypeId} {D : DataW Unit} {p : List (Array Value)} (h : MapIs T D p) (K : Keyed Try.prog T) (hm : IsMap D) {x : Array Value} {lx : Lit} (hx : keyOf Try.prog T (.agg x) = some lx) (hp : ¬ par p x) : MapIs T (D.put lx (.lit (.bool true))) (p ++ [x]) := by
  intro k l hk
  by_cases e : x = k
  · subst e
    rw [hx] at hk
    cases hk
    refine ⟨fun _ => ⟨atKey_put_same hm (K.key hx) _ _, has_put_same hm (K.key hx) _⟩, fun hn => absurd ((par_same p x).2 hp) hn⟩
  · have hne : l ≠ lx := fun e1 => e (by subst e1; have := K.inj hx hk; simpa using this)
    rw [par_other p x k e, atKey_put_other hne, has_put_other hne]
    exact h k l hk
theorem MapIs.del {T : TypeId} {D : DataW Unit} {p : List (Array Value)} (h : MapIs T D p) (K : Keyed Try.prog T) {x : Array Value} {lx : Lit} (hx : keyOf Try.prog T (.agg x) = some lx) (hp : par p x) : MapIs T (D.del lx) (p ++ [x]) := by
  intro k l hk
  by_cases e : x = k
  · subst e
    rw [hx] at hk
    cases hk
    refine ⟨fun hn => absurd hp ((par_same p x).1 hn), fun _ => ⟨atKey_del_same _, has_del_same⟩⟩
  · have hne : l ≠ lx := fun e1 => e (by subst e1; have := K.inj hx hk; simpa using this)
    rw [par_other p x k e, atKey_del_other hne, has_del_other hne]
    exact h k l hk

theorem plainB_inv {v : Value} {b : Bool} {ps : List MemPlace} (h : plainElem (H := Unit) Try.prog 4 v = some (.lit (.bool b), ps)) : v = .bool b := by
  unfold plainElem at h
  rw [Try.underlying4] at h
  cases v <;> simp at h
  rw [h.1]

/-- The first i of two lists, joined. -/
def preK (xs ys : List (Array Value)) : Nat → List (Array Value)
  | 0 => []
  | 1 => xs
  | _ => xs ++ ys

theorem laidP : laidOutB Try.prog = true := by kernel_rfl
end Go.Proofs.Ytgalfhdeldjmpaa
end
section
namespace Go.Proofs.Ytgalfhdeldjmpaa
open Go.RowKit Go.Maps
set_option linter.unusedVariables false
set_option maxRecDepth 100000

theorem keyedP : Keyed Try.prog 64 := Keyed.of_law (deep_law_laid laidP (m := 3) (by omega) (of_decide_eq_true (by kernel_rfl)) (by kernel_rfl) (by kernel_rfl))
theorem sizeP : (Try.prog.info? 64).map (·.size) = some 8 := by kernel_rfl

theorem listP {zs : List Int} (h : zs.length = 8) : ∃ z0 z1 z2 z3 z4 z5 z6 z7, zs = [z0, z1, z2, z3, z4, z5, z6, z7] := by
  match zs, h with
  | [z0, z1, z2, z3, z4, z5, z6, z7], _ => exact ⟨z0, z1, z2, z3, z4, z5, z6, z7, rfl⟩

/-- A key's cells. -/
structure KOKP (k : Array Value) : Prop where
  ints : ∃ zs : List Int, zs.length = 8 ∧ k = (zs.map (Value.int .u8)).toArray
  key : ∃ l, keyOf Try.prog 64 (.agg k) = some l
theorem KOKP.lit {k : Array Value} (h : KOKP k) : ∃ z0 z1 z2 z3 z4 z5 z6 z7 : Int, k = #[Value.int .u8 z0, Value.int .u8 z1, Value.int .u8 z2, Value.int .u8 z3, Value.int .u8 z4, Value.int .u8 z5, Value.int .u8 z6, Value.int .u8 z7] := by
  obtain ⟨zs, hz, e⟩ := h.ints
  obtain ⟨z0, z1, z2, z3, z4, z5, z6, z7, rfl⟩ := listP hz
  exact ⟨z0, z1, z2, z3, z4, z5, z6, z7, e⟩

/-- v reads as the keys ks. -/
def RdP (w : World) (v : Value) (ks : List (Array Value)) : Prop :=
  ∃ a cap, v = .slice a ks.length cap ∧ ks.length ≤ maxLen ∧ (ks.length = 0 ∨ ∃ b off, a = some ⟨b, off, none⟩ ∧ b < w.heap.size ∧ ∀ i, i < ks.length → w.rangeAt b (off + i * 8) (ks[i]?.getD #[]).toList)
theorem RdP.below {w w' : World} {v : Value} {ks : List (Array Value)} (h : RdP w v ks) (k : Below w.heap.size w w') : RdP w' v ks := by
  obtain ⟨a, cap, e, hm, hc⟩ := h
  refine ⟨a, cap, e, hm, ?_⟩
  rcases hc with h0 | ⟨b, off, e, hb, hc⟩
  · exact .inl h0
  · exact .inr ⟨b, off, e, Nat.lt_of_lt_of_le hb k.size, fun i hi j u hj => (k.cell (p := ⟨b, off + i * 8 + j, none⟩) hb).trans (hc i hi j u hj)⟩

theorem loadP (w : World) (b o : Nat) (k : Array Value) (h : w.rangeAt b o k.toList) (hs : k.size = 8) : (Instr.loadAt 64 (.pointer (some ⟨b, o, none⟩))).run Try.prog w = .ok (.agg k) w := by
  have := run_loadAt_mid w b o 64 k.toList _ h Try.underlying64 rfl (by rw [sizeP]; simp [hs])
  simpa using this
theorem KOKP.size {k : Array Value} (h : KOKP k) : k.size = 8 := by
  obtain ⟨zs, hz, rfl⟩ := h.ints
  simp [hz]
theorem KOKP.one {k : Array Value} (h : KOKP k) : k.all (·.oneCell') = true := by
  obtain ⟨zs, hz, rfl⟩ := h.ints
  simp [Value.oneCell']

theorem loadCP (w : World) (b o : Nat) (k : Array Value) (h : w.rangeAt b o k.toList) (hs : k.size = 8) : (loadCellsFrom ⟨b, o, none⟩ 0 8 #[]).run Try.prog w = .ok k w := by
  have := run_loadCells_list (P := Try.prog) w ⟨b, o, none⟩ k.toList (fun j v hv => by rw [Addr.add_mid]; exact h j v hv)
  simpa [loadCells, hs] using this
theorem loadNewP (w : World) (k : Array Value) (hs : k.size = 8) : (w.alloc (.cells k 64)).rangeAt w.heap.size 0 k.toList := by
  intro j v hv
  rw [Nat.zero_add, cell_of_row _ w.heap.size j k 64 (0, 0) (heap_alloc_new w _)]
  simpa using hv

/-- A key is loaded whole. -/
theorem ldKP {ops : Array Oper} {rest : List Oper} {op : Oper} {a : Act} {w : World} {Q : Exit → Act → World → Prop} (hgd : op.guard = none) (x : Operand) (ho : op.op = .load 64 x)
    (b o : Nat) (hx : a.eval x = .pointer (some ⟨b, o, none⟩)) (k : Array Value) (hc : w.rangeAt b o k.toList) (hs : k.size = 8) (h : wpList Try.prog ops Q rest (a.put op.dst (.agg k)) w) : wpList Try.prog ops Q (op :: rest) a w :=
  wpList_load_mid hgd 64 x ho b o hx k.toList _ hc Try.underlying64 rfl (by rw [sizeP]; simp [hs]) (by simpa using h)
/-- A key is stored into the variable that was made last. -/
theorem stKP {ops : Array Oper} {rest : List Oper} {op : Oper} {a : Act} {Q : Exit → Act → World → Prop} (w : World) (hgd : op.guard = none) (x y : Operand) (ho : op.op = .store 64 x y)
    (hx : a.eval x = .pointer (some ⟨w.heap.size, 0, none⟩)) (k : Array Value) (hy : a.eval y = .agg k) (hs : k.size = 8) (h1 : k.all (·.oneCell') = true)
    (h : wpList Try.prog ops Q rest (a.put op.dst undef) (w.alloc (.cells k 64))) : wpList Try.prog ops Q (op :: rest) a (w.alloc (.cells #[Value.int .u8 0, Value.int .u8 0, Value.int .u8 0, Value.int .u8 0, Value.int .u8 0, Value.int .u8 0, Value.int .u8 0, Value.int .u8 0] 64)) := by
  refine wpList_plain hgd fun K' hK' => ?_
  unfold Oper.wp execOp
  simp only [ho, hx, hy, run_storeAt_new (P := Try.prog) w 64 #[Value.int .u8 0, Value.int .u8 0, Value.int .u8 0, Value.int .u8 0, Value.int .u8 0, Value.int .u8 0, Value.int .u8 0, Value.int .u8 0] k (by rw [sizeP, hs]) (by rw [hs]; rfl) h1, Sem.run_bind, Sem.run_pure, Result.andThen_ok]
  exact hK' _ _ h

/-- The state between two rounds. -/
structure StP (w : World) (va vb : Value) (p : List (Array Value)) (wr : World) : Prop where
  map : ∃ (D : DataW Unit) (n : Nat), wr.ownsMap Try.prog 64 (plainElem Try.prog 4) w.heap.size n D ∧ n ≤ p.length ∧ MapIs 64 D p
  bel : Below w.heap.size w wr
  two : wr.heap[w.heap.size + 1]? = some (.cells #[va, vb] 62 (0, 0))
  big : w.heap.size + 2 ≤ wr.heap.size
end Go.Proofs.Ytgalfhdeldjmpaa
end
