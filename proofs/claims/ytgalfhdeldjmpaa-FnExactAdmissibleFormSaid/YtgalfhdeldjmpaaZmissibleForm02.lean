/-
  Joined: WOwnC, KPar, KSumP, KMapP.
-/
import Derived.Test.YtgalfhdeldjmpaaZmissibleForm01
import Derived.Test.YtgalfhdeldjmpaaRows
import Derived.Maps.OwnSet
import Derived.Maps.OwnOps
import Derived.Maps.Views
import Derived.DeepKeys4
import Derived.Deep.MidRow
import Derived.Deep.WholeRow
import Derived.Carry
import Derived.BigRegion
import Derived.Lib.Hide
section
namespace Go.Proofs.Ytgalfhdeldjmpaa
open Go.RowKit
set_option maxRecDepth 100000
set_option linter.unusedVariables false

theorem own_sameblock {w w' : World} {B : Nat} {v : Value} {n : Nat} {xs : List Value} {e : TypeId} {s : Nat} (h : w.ownsRow B e s v n xs)
    (k : ∀ g, v.ownBlock = some g → w'.heap[g]? = w.heap[g]?) : w'.ownsRow B e s v n xs := by
  refine ⟨h.1, ?_⟩
  rcases h.2 with hn | ⟨g, cap, cur, rfl, hb, hg, rest⟩
  · exact .inl hn
  · refine .inr ⟨g, cap, cur, rfl, hb, ?_, rest⟩
    rw [k g rfl]
    exact hg

/-- Two rows of different element types lie in different blocks. -/
theorem own_types {w : World} {B B' : Nat} {v v' : Value} {n n' : Nat} {xs xs' : List Value} {e e' : TypeId} {s s' : Nat} (h : w.ownsRow B e s v n xs) (h' : w.ownsRow B' e' s' v' n' xs') (he : e ≠ e') :
    v.ownBlock = none ∨ v.ownBlock ≠ v'.ownBlock := by
  rcases h.2 with ⟨rfl, _⟩ | ⟨g, cap, cur, rfl, _, hg, _⟩
  · exact .inl rfl
  · refine .inr fun e0 => ?_
    rcases h'.2 with ⟨rfl, _⟩ | ⟨g', cap', cur', rfl, _, hg', _⟩
    · cases e0
    · simp only [Value.ownBlock, Option.some.injEq] at e0
      subst e0
      rw [hg] at hg'
      cases hg'
      exact he rfl

end Go.Proofs.Ytgalfhdeldjmpaa
end
section
namespace Go.Proofs.Ytgalfhdeldjmpaa
open Go.RowKit Go.Maps
set_option linter.unusedVariables false
set_option maxRecDepth 100000

/-- x occurs an odd number of times. -/
def par {α : Type} : List α → α → Prop
  | [], _ => False
  | x :: r, k => (x = k ∧ ¬ par r k) ∨ (x ≠ k ∧ par r k)
theorem par_snoc {α : Type} (r : List α) (x k : α) : par (r ++ [x]) k ↔ (x = k ∧ ¬ par r k) ∨ (x ≠ k ∧ par r k) := by
  induction r with
  | nil => simp [par]
  | cons y r ih =>
    show (y = k ∧ ¬ par (r ++ [x]) k) ∨ (y ≠ k ∧ par (r ++ [x]) k) ↔ (x = k ∧ ¬ ((y = k ∧ ¬ par r k) ∨ (y ≠ k ∧ par r k))) ∨ (x ≠ k ∧ ((y = k ∧ ¬ par r k) ∨ (y ≠ k ∧ par r k)))
    rw [ih]
    by_cases h1 : y = k <;> by_cases h2 : x = k <;> by_cases h3 : par r k <;> simp [h1, h2, h3]
theorem par_same {α : Type} (r : List α) (x : α) : par (r ++ [x]) x ↔ ¬ par r x := by rw [par_snoc]; simp
theorem par_other {α : Type} (r : List α) (x k : α) (h : x ≠ k) : par (r ++ [x]) k ↔ par r k := by rw [par_snoc]; simp [h]
theorem par_mem {α : Type} (r : List α) (k : α) (h : par r k) : k ∈ r := by
  induction r with
  | nil => cases h
  | cons x r ih =>
    rcases h with ⟨e, _⟩ | ⟨_, h⟩
    · rw [e]; exact List.mem_cons_self
    · exact List.mem_cons_of_mem _ (ih h)
theorem par_append {α : Type} (r s : List α) (k : α) : par (r ++ s) k ↔ ((par r k ∧ ¬ par s k) ∨ (¬ par r k ∧ par s k)) := by
  induction r with
  | nil => simp [par]
  | cons y r ih =>
    show (y = k ∧ ¬ par (r ++ s) k) ∨ (y ≠ k ∧ par (r ++ s) k) ↔ _
    rw [ih]
    show _ ↔ ((((y = k ∧ ¬ par r k) ∨ (y ≠ k ∧ par r k)) ∧ ¬ par s k) ∨ (¬ ((y = k ∧ ¬ par r k) ∨ (y ≠ k ∧ par r k)) ∧ par s k))
    by_cases h1 : y = k <;> by_cases h2 : par r k <;> by_cases h3 : par s k <;> simp [h1, h2, h3]

/-- The map D (with bools) has just the keys that occur an odd number of times in p, each with true. -/
def MapIs (T : TypeId) (D : DataW Unit) (p : List (Array Value)) : Prop :=
  ∀ (k : Array Value) (l : Lit), keyOf Try.prog T (.agg k) = some l → (par p k → D.atKey l (.lit (.bool false)) = .lit (.bool true) ∧ has D l = true) ∧ (¬ par p k → D.atKey l (.lit (.bool false)) = .lit (.bool false) ∧ has D l = false)
theorem MapIs.nil (T : TypeId) : MapIs T (.map []) [] := fun k l _ => ⟨fun h => (by cases h), fun _ => ⟨rfl, rfl⟩⟩
theorem MapIs.put {T : TypeId} {D : DataW Unit} {p : List (Array Value)} (h : MapIs T D p) (K : Keyed Try.prog T) (hm : IsMap D) {x : Array Value} {lx : Lit} (hx : keyOf Try.prog T (.agg x) = some lx) (hp : ¬ par p x) : MapIs T (D.put lx (.lit (.bool true))) (p ++ [x]) := by
  intro k l hk
  by_cases e : x = k
  · subst e
    rw [hx] at hk
    cases hk
    refine ⟨fun _ => ⟨atKey_put_same hm (K.key hx) _ _, has_put_same hm (K.key hx) _⟩, fun hn => absurd ((par_same p x).2 hp) hn⟩
  · have hne : l ≠ lx := fun e1 => e (by subst e1; have := K.inj hx hk; simpa using this)
    rw [par_other p x k e, atKey_put_other hne, has_put_other hne]
    exact h k l hk
theorem MapIs.del {T : TypeId} {D : DataW Unit} {p : List (Array Value)} (h : MapIs T D p) (K : Keyed Try.prog T) {x : Array Value} {lx : Lit} (hx : keyOf Try.prog T (.agg x) = some lx) (hp : par p x) : MapIs T (D.del lx) (p ++ [x]) := by
  intro k l hk
  by_cases e : x = k
  · subst e
    rw [hx] at hk
    cases hk
    refine ⟨fun hn => absurd hp ((par_same p x).1 hn), fun _ => ⟨atKey_del_same _, has_del_same⟩⟩
  · have hne : l ≠ lx := fun e1 => e (by subst e1; have := K.inj hx hk; simpa using this)
    rw [par_other p x k e, atKey_del_other hne, has_del_other hne]
    exact h k l hk

theorem plainB_inv {v : Value} {b : Bool} {ps : List MemPlace} (h : plainElem (H := Unit) Try.prog 4 v = some (.lit (.bool b), ps)) : v = .bool b := by
  unfold plainElem at h
  rw [Try.underlying4] at h
  cases v <;> simp at h
  rw [h.1]

/-- The first i of two lists, joined. -/
def preK (xs ys : List (Array Value)) : Nat → List (Array Value)
  | 0 => []
  | 1 => xs
  | _ => xs ++ ys

theorem laidP : laidOutB Try.prog = true := by kernel_rfl
end Go.Proofs.Ytgalfhdeldjmpaa
end
section
namespace Go.Proofs.Ytgalfhdeldjmpaa
open Go.RowKit Go.Maps
set_option linter.unusedVariables false
set_option maxRecDepth 100000

theorem keyedP : Keyed Try.prog 64 := Keyed.of_law (deep_law_laid laidP (m := 3) (by omega) (of_decide_eq_true (by kernel_rfl)) (by kernel_rfl) (by kernel_rfl))
theorem sizeP : (Try.prog.info? 64).map (·.size) = some 8 := by kernel_rfl

theorem listP {zs : List Int} (h : zs.length = 8) : ∃ z0 z1 z2 z3 z4 z5 z6 z7, zs = [z0, z1, z2, z3, z4, z5, z6, z7] := by
  match zs, h with
  | [z0, z1, z2, z3, z4, z5, z6, z7], _ => exact ⟨z0, z1, z2, z3, z4, z5, z6, z7, rfl⟩

/-- A key's cells. -/
structure KOKP (k : Array Value) : Prop where
  ints : ∃ zs : List Int, zs.length = 8 ∧ k = (zs.map (Value.int .u8)).toArray
  key : ∃ l, keyOf Try.prog 64 (.agg k) = some l
theorem KOKP.lit {k : Array Value} (h : KOKP k) : ∃ z0 z1 z2 z3 z4 z5 z6 z7 : Int, k = #[Value.int .u8 z0, Value.int .u8 z1, Value.int .u8 z2, Value.int .u8 z3, Value.int .u8 z4, Value.int .u8 z5, Value.int .u8 z6, Value.int .u8 z7] := by
  obtain ⟨zs, hz, e⟩ := h.ints
  obtain ⟨z0, z1, z2, z3, z4, z5, z6, z7, rfl⟩ := listP hz
  exact ⟨z0, z1, z2, z3, z4, z5, z6, z7, e⟩

/-- v reads as the keys ks. -/
def RdP (w : World) (v : Value) (ks : List (Array Value)) : Prop :=
  ∃ a cap, v = .slice a ks.length cap ∧ ks.length ≤ maxLen ∧ (ks.length = 0 ∨ ∃ b off, a = some ⟨b, off, none⟩ ∧ b < w.heap.size ∧ ∀ i, i < ks.length → w.rangeAt b (off + i * 8) (ks[i]?.getD #[]).toList)
theorem RdP.below {w w' : World} {v : Value} {ks : List (Array Value)} (h : RdP w v ks) (k : Below w.heap.size w w') : RdP w' v ks := by
  obtain ⟨a, cap, e, hm, hc⟩ := h
  refine ⟨a, cap, e, hm, ?_⟩
  rcases hc with h0 | ⟨b, off, e, hb, hc⟩
  · exact .inl h0
  · exact .inr ⟨b, off, e, Nat.lt_of_lt_of_le hb k.size, fun i hi j u hj => (k.cell (p := ⟨b, off + i * 8 + j, none⟩) hb).trans (hc i hi j u hj)⟩

theorem loadP (w : World) (b o : Nat) (k : Array Value) (h : w.rangeAt b o k.toList) (hs : k.size = 8) : (Instr.loadAt 64 (.pointer (some ⟨b, o, none⟩))).run Try.prog w = .ok (.agg k) w := by
  have := run_loadAt_mid w b o 64 k.toList _ h Try.underlying64 rfl (by rw [sizeP]; simp [hs])
  simpa using this
theorem KOKP.size {k : Array Value} (h : KOKP k) : k.size = 8 := by
  obtain ⟨zs, hz, rfl⟩ := h.ints
  simp [hz]
theorem KOKP.one {k : Array Value} (h : KOKP k) : k.all (·.oneCell') = true := by
  obtain ⟨zs, hz, rfl⟩ := h.ints
  simp [Value.oneCell']

theorem loadCP (w : World) (b o : Nat) (k : Array Value) (h : w.rangeAt b o k.toList) (hs : k.size = 8) : (loadCellsFrom ⟨b, o, none⟩ 0 8 #[]).run Try.prog w = .ok k w := by
  have := run_loadCells_list (P := Try.prog) w ⟨b, o, none⟩ k.toList (fun j v hv => by rw [Addr.add_mid]; exact h j v hv)
  simpa [loadCells, hs] using this
theorem loadNewP (w : World) (k : Array Value) (hs : k.size = 8) : (w.alloc (.cells k 64)).rangeAt w.heap.size 0 k.toList := by
  intro j v hv
  rw [Nat.zero_add, cell_of_row _ w.heap.size j k 64 (0, 0) (heap_alloc_new w _)]
  simpa using hv

/-- A key is loaded whole. -/
theorem ldKP {ops : Array Oper} {rest : List Oper} {op : Oper} {a : Act} {w : World} {Q : Exit → Act → World → Prop} (hgd : op.guard = none) (x : Operand) (ho : op.op = .load 64 x)
    (b o : Nat) (hx : a.eval x = .pointer (some ⟨b, o, none⟩)) (k : Array Value) (hc : w.rangeAt b o k.toList) (hs : k.size = 8) (h : wpList Try.prog ops Q rest (a.put op.dst (.agg k)) w) : wpList Try.prog ops Q (op :: rest) a w :=
  wpList_load_mid hgd 64 x ho b o hx k.toList _ hc Try.underlying64 rfl (by rw [sizeP]; simp [hs]) (by simpa using h)
/-- A key is stored into the variable that was made last. -/
theorem stKP {ops : Array Oper} {rest : List Oper} {op : Oper} {a : Act} {Q : Exit → Act → World → Prop} (w : World) (hgd : op.guard = none) (x y : Operand) (ho : op.op = .store 64 x y)
    (hx : a.eval x = .pointer (some ⟨w.heap.size, 0, none⟩)) (k : Array Value) (hy : a.eval y = .agg k) (hs : k.size = 8) (h1 : k.all (·.oneCell') = true)
    (h : wpList Try.prog ops Q rest (a.put op.dst undef) (w.alloc (.cells k 64))) : wpList Try.prog ops Q (op :: rest) a (w.alloc (.cells #[Value.int .u8 0, Value.int .u8 0, Value.int .u8 0, Value.int .u8 0, Value.int .u8 0, Value.int .u8 0, Value.int .u8 0, Value.int .u8 0] 64)) := by
  refine wpList_plain hgd fun K' hK' => ?_
  unfold Oper.wp execOp
  simp only [ho, hx, hy, run_storeAt_new (P := Try.prog) w 64 #[Value.int .u8 0, Value.int .u8 0, Value.int .u8 0, Value.int .u8 0, Value.int .u8 0, Value.int .u8 0, Value.int .u8 0, Value.int .u8 0] k (by rw [sizeP, hs]) (by rw [hs]; rfl) h1, Sem.run_bind, Sem.run_pure, Result.andThen_ok]
  exact hK' _ _ h

/-- The state between two rounds. -/
structure StP (w : World) (va vb : Value) (p : List (Array Value)) (wr : World) : Prop where
  map : ∃ (D : DataW Unit) (n : Nat), wr.ownsMap Try.prog 64 (plainElem Try.prog 4) w.heap.size n D ∧ n ≤ p.length ∧ MapIs 64 D p
  bel : Below w.heap.size w wr
  two : wr.heap[w.heap.size + 1]? = some (.cells #[va, vb] 62 (0, 0))
  big : w.heap.size + 2 ≤ wr.heap.size
end Go.Proofs.Ytgalfhdeldjmpaa
end
section
namespace Go.Proofs.Ytgalfhdeldjmpaa
open Go.RowKit Go.Maps
set_option linter.unusedVariables false
set_option maxRecDepth 100000

/-- A row of keys that a call owns. -/
def OwnP (w : World) (B : Nat) (v : Value) (ks : List (Array Value)) : Prop := w.ownsRow B 64 8 v ks.length (ks.flatMap Array.toList)

/-- What is collected from a map. -/
def ColP (w : World) (D : DataW Unit) (e : Ending) (w' : World) : Prop :=
  ∃ u rs, e = .returned u ∧ OwnP w' w.heap.size u rs ∧ Below w.heap.size w w' ∧ rs.Nodup ∧ ∀ k, k ∈ rs ↔ ∃ l, keyOf Try.prog 64 (.agg k) = some l ∧ has D l = true
def ColAllP : Prop := ∀ (w : World) (Bm m n : Nat) (D : DataW Unit), w.cell? ⟨Bm, 0, none⟩ = some (.map (some m)) → w.ownsMap Try.prog 64 (plainElem Try.prog 4) m n D → n ≤ 1000000000 →
  Calls Try.prog 69 #[.func (.func 85) #[] #[.pointer (some ⟨Bm, 0, none⟩)]] w (ColP w D)

theorem keysOfP (mb : Option Nat) (w : World) :
    Calls Try.prog 70 #[.map mb] w fun e w' => e = .returned (.func (.func 85) #[] #[.pointer (some ⟨w.heap.size, 0, none⟩)]) ∧ w' = w.alloc (.cells #[.map mb] 90) := by
  go_enter Try.func70, Try.ntmps70
  go_wp2
  go_ret
  exact ⟨rfl, rfl⟩

/-- What sumOfLists returns. -/
def SumResP (w : World) (ks : List (Array Value)) (e : Ending) (w' : World) : Prop :=
  ∃ u rs, e = .returned u ∧ OwnP w' w.heap.size u rs ∧ Below w.heap.size w w' ∧ rs.Nodup ∧ (∀ k, k ∈ rs ↔ par ks k)

set_option maxHeartbeats 1000000 in
theorem sumOfP (va vb : Value) (xs ys : List (Array Value)) (w : World) (ha : RdP w va xs) (hb : RdP w vb ys) (hka : ∀ k ∈ xs, KOKP k) (hkb : ∀ k ∈ ys, KOKP k) (hla : xs.length ≤ 500000000) (hlb : ys.length ≤ 500000000) (COL : ColAllP) :
    Calls Try.prog 43 #[va, vb] w (SumResP w (xs ++ ys)) := by
  have hmm := @run_makeMap Try.prog
  have HA := Lib.hid ha
  have HB := Lib.hid hb
  have HKA := Lib.hid hka
  have HKB := Lib.hid hkb
  have COL0 := Lib.hid COL
  obtain ⟨aa, ca, rfl, ha2⟩ := ha
  obtain ⟨ab, cb, rfl, hb2⟩ := hb
  clear ha2 hb2
  clear hka hkb COL
  go_enter Try.func43, Try.ntmps43
  go_wp2_with fail
  have S0 : Hid (StP w (.slice aa xs.length ca) (.slice ab ys.length cb) [] ((w.alloc (.map #[] 0)).alloc (.cells #[.slice aa xs.length ca, .slice ab ys.length cb] 62))) := Lib.hid
    ⟨⟨.map [], 0, (World.ownsMap_made w _ _ _).alloc _, Nat.le_refl _, MapIs.nil _⟩, ((Below.refl _ w).alloc (Nat.le_refl _) _).alloc (by simp) _, by have := heap_alloc_new (w.alloc (.map #[] 0)) (.cells #[.slice aa xs.length ca, .slice ab ys.length cb] 62); simpa using this, by simp⟩
  generalize ((w.alloc (.map #[] 0)).alloc (.cells #[.slice aa xs.length ca, .slice ab ys.length cb] 62)) = w1 at S0 ⊢
  clear hmm
  go_loopw [7, 9, 15] (fun _ _ c wr => ∃ i : Nat, i ≤ 2 ∧ c = .int .i64 i ∧ Hid (StP w (.slice aa xs.length ca) (.slice ab ys.length cb) (preK xs ys i) wr)) (fun _ _ c _ => 2 - (intOf c).toNat)
  case atStart => exact ⟨0, by omega, rfl, S0⟩
  case round =>
    clear S0
    obtain ⟨i, hi, rfl, hS⟩ := hrel
    by_cases hlt : i < 2
    · have hlt' : (i : Int) < 2 := by omega
      have hpick : ∃ (v : Value) (ks : List (Array Value)), wr.cell? ⟨w.heap.size + 1, i, none⟩ = some v ∧ RdP w v ks ∧ (∀ k ∈ ks, KOKP k) ∧ preK xs ys i ++ ks = preK xs ys (i + 1) ∧ ks.length ≤ 500000000 ∧ (preK xs ys i).length ≤ 500000000 := by
        have h2 := hS.out.two
        by_cases h0 : i = 0
        · subst h0
          exact ⟨_, xs, cell_of_row wr _ 0 _ _ (0, 0) h2, HA.out, HKA.out, rfl, hla, Nat.zero_le _⟩
        · obtain rfl : i = 1 := by omega
          exact ⟨_, ys, cell_of_row wr _ 1 _ _ (0, 0) h2, HB.out, HKB.out, rfl, hlb, hla⟩
      obtain ⟨v, ks, c1, hr, hks, hnext, hkl, hpl⟩ := hpick
      have HR := Lib.hid hr
      have HKS := Lib.hid hks
      have HNX := Lib.hid hnext
      obtain ⟨av, cv, rfl, hmv, hcv⟩ := hr
      have HCV := Lib.hid hcv
      clear hks hnext hcv
      go_wp2_with fail
      have S1 : Hid (StP w (.slice aa xs.length ca) (.slice ab ys.length cb) (preK xs ys i ++ ks.take 0) wr) := Lib.hid (by rw [List.take_zero, List.append_nil]; exact hS.out)
      obtain ⟨wo, hwo⟩ : ∃ wo, wo = wr := ⟨_, rfl⟩
      subst hwo
      go_loopw [9, 21] (fun _ c wr => ∃ j : Nat, j ≤ ks.length ∧ c = .int .i64 j ∧ Hid (StP w (.slice aa xs.length ca) (.slice ab ys.length cb) (preK xs ys i ++ ks.take j) wr)) (fun _ c _ => ks.length - (intOf c).toNat)
      case atStart => exact ⟨0, by omega, rfl, S1⟩
      case round =>
        clear S1
        obtain ⟨j, hj, rfl, hS⟩ := hrel
        by_cases hjl : j < ks.length
        · have hjl' : (j : Int) < (ks.length : Int) := by omega
          obtain ⟨b, off, rfl, hbl, hrg⟩ := HCV.out.resolve_left (by omega)
          obtain ⟨k, hk⟩ : ∃ k, k = ks[j]?.getD #[] := ⟨_, rfl⟩
          have hrk := hrg j hjl
          rw [← hk] at hrk
          have hmem : k ∈ ks := by
            rw [hk, List.getElem?_eq_getElem hjl]
            exact List.getElem_mem hjl
          have HT : Hid (ks.take (j + 1) = ks.take j ++ [k]) := Lib.hid (by
            rw [hk, List.take_add_one, List.getElem?_eq_getElem hjl]
            rfl)
          obtain ⟨l, hkey⟩ := (HKS.out k hmem).key
          have hsz := (HKS.out k hmem).size
          have hone := (HKS.out k hmem).one
          have hrw : wr.rangeAt b (off + j * 8) k.toList := fun q u hq => (hS.out.bel.cell (p := ⟨b, off + j * 8 + q, none⟩) hbl).trans (hrk q u hq)
          clear hk
          have HRW := Lib.hid hrw
          have HSZ := Lib.hid hsz
          have HONE := Lib.hid hone
          clear hrw hsz hone
          obtain ⟨D, n, hown, hnl, hD⟩ := hS.out.map
          have hown2 := hown.alloc (.cells k 64)
          have hB2 : Hid (Below w.heap.size w (wr.alloc (.cells k 64))) := Lib.hid (hS.out.bel.alloc hS.out.bel.size _)
          have h22 : Hid ((wr.alloc (.cells k 64)).heap[w.heap.size + 1]? = some (.cells #[.slice aa xs.length ca, .slice ab ys.length cb] 62 (0, 0))) := Lib.hid ((heap_alloc_old wr _ (by have := hS.out.big; omega)).trans hS.out.two)
          have hbg : Hid (w.heap.size + 2 ≤ (wr.alloc (.cells k 64)).heap.size) := Lib.hid (by have := hS.out.big; simp; omega)
          obtain ⟨x, xp, hrun, hx⟩ := hown2.lookup keyedP Try.underlying90 (Try.zeroValue4 _) (plainElem_bool Try.underlying4 false) hkey
          have HBIG : Hid (n < maxLen) := Lib.hid (by
            have h1 : (preK xs ys i ++ ks.take j).length ≤ 1000000000 := by rw [List.length_append, List.length_take]; omega
            unfold maxLen; omega)
          have HN : Hid (n + 1 ≤ (preK xs ys i ++ ks.take (j + 1)).length) := Lib.hid (by
            rw [HT.out, ← List.append_assoc, List.length_append]; simp only [List.length_singleton]
            omega)
          have HP : Hid (preK xs ys i ++ ks.take (j + 1) = (preK xs ys i ++ ks.take j) ++ [k]) := Lib.hid (by rw [HT.out, List.append_assoc])
          generalize preK xs ys i ++ ks.take j = pp at *
          have HKEY := Lib.hid hkey
          have HDD := Lib.hid hD
          have HM := Lib.hid hown2.isMap
          have HOWN := Lib.hid hown2
          have hj5 : j < 500000000 := by omega
          have HGM : Hid (∀ w3 : World, (wr.alloc (.cells k 64)).grownBy w3 (some w.heap.size) → Below w.heap.size w w3 ∧ w3.heap[w.heap.size + 1]? = some (.cells #[.slice aa xs.length ca, .slice ab ys.length cb] 62 (0, 0)) ∧ w.heap.size + 2 ≤ w3.heap.size) :=
            Lib.hid (fun w3 hg => ⟨hB2.out.grown hg hB2.out.size (fun q hq => by cases hq; exact Nat.le_refl _), (hg.block _ (by have := hbg.out; omega) (by simp)).trans h22.out, Nat.le_trans hbg.out hg.size⟩)
          clear hrg hrk hmem hown hown2 hS hnl hkl hpl hmv
          by_cases hp : par pp k
          · have hat := ((hD _ l hkey).1 hp).1
            rw [hat] at hx
            obtain rfl := plainB_inv hx
            have HPP := Lib.hid hp
            clear hat hx hp hD hkey
            go_wp2_with (first | (refine ldKP rfl _ rfl b (off + j * 8) rfl k HRW.out HSZ.out ?_) | (refine ldKP rfl _ rfl wr.heap.size 0 rfl k (loadNewP wr k HSZ.out) HSZ.out ?_) | (refine stKP wr rfl _ _ rfl rfl k rfl HSZ.out HONE.out ?_) | (at_delete; refine wpList_delete_own _ rfl _ _ 90 64 rfl 4 keyedP Try.underlying90 _ w.heap.size n D rfl HOWN.out _ _ rfl HKEY.out ?_; intro w3 hown3 hturn3))
            go_roundw
            case rel =>
              obtain ⟨g1, g2, g3⟩ := HGM.out w3 hturn3.grown
              exact ⟨j + 1, by omega, by go_num, Lib.hid ⟨⟨_, n, hown3, by have := HN.out; omega, by rw [HP.out]; exact HDD.out.del keyedP HKEY.out HPP.out⟩, g1, g2, g3⟩⟩
            case measure => simp [intOf]; omega
          · have hat := ((hD _ l hkey).2 hp).1
            rw [hat] at hx
            obtain rfl := plainB_inv hx
            have HPP := Lib.hid hp
            clear hat hx hp hD hkey
            go_wp2_with (first | (refine ldKP rfl _ rfl b (off + j * 8) rfl k HRW.out HSZ.out ?_) | (refine ldKP rfl _ rfl wr.heap.size 0 rfl k (loadNewP wr k HSZ.out) HSZ.out ?_) | (refine stKP wr rfl _ _ rfl rfl k rfl HSZ.out HONE.out ?_) | (at_mapUpdate; refine wpList_mapUpdate_own _ rfl _ _ _ 90 rfl 64 4 keyedP Try.underlying90 _ w.heap.size n D rfl HOWN.out HBIG.out _ _ _ rfl rfl HKEY.out _ [] (plainElem_bool Try.underlying4 true) ?_; intro w3 hown3 hgrow3))
            go_roundw
            case rel =>
              obtain ⟨g1, g2, g3⟩ := HGM.out w3 hgrow3
              exact ⟨j + 1, by omega, by go_num, Lib.hid ⟨⟨_, n + 1, hown3, HN.out, by rw [HP.out]; exact HDD.out.put keyedP HM.out HKEY.out HPP.out⟩, g1, g2, g3⟩⟩
            case measure => simp [intOf]; omega
        · have hjk : j = ks.length := by omega
          have HE : Hid (preK xs ys i ++ ks.take j = preK xs ys (i + 1)) := Lib.hid (by rw [hjk, List.take_length]; exact HNX.out)
          rw [HE.out] at hS
          clear hkl hpl hmv
          go_wp2_with fail
          go_roundw
          case rel => exact ⟨i + 1, by omega, by go_num, hS⟩
          case measure => simp [intOf]; omega
    · obtain rfl : i = 2 := by omega
      have hS2 : StP w (.slice aa xs.length ca) (.slice ab ys.length cb) (xs ++ ys) wr := hS.out
      obtain ⟨D, n, hown, hnl, hD⟩ := hS2.map
      have BB := Lib.hid hS2.bel
      have hsz := hS2.bel.size
      have OW := Lib.hid (hown.alloc (.cells #[.map (some w.heap.size)] 90))
      have NL : Hid (n ≤ 1000000000) := Lib.hid (by rw [List.length_append] at hnl; omega)
      have HD := Lib.hid hD
      clear hown hnl hD hS2 hS
      go_wp2_with fail
      refine (keysOfP _ wr).mono ?_
      rintro e w2 ⟨rfl, rfl⟩
      have B2 := Lib.hid (BB.out.alloc hsz (.cells #[.map (some w.heap.size)] 90))
      have C2 : Hid ((wr.alloc (.cells #[.map (some w.heap.size)] 90)).cell? ⟨wr.heap.size, 0, none⟩ = some (.map (some w.heap.size))) := Lib.hid (cell_of_row _ wr.heap.size 0 _ _ (0, 0) (heap_alloc_new wr _))
      have CC := Lib.hid (COL0.out _ _ _ _ _ C2.out OW.out NL.out)
      go_wp2_with fail
      refine CC.out.mono ?_
      rintro e w3 ⟨u, rs, rfl, ho, hb3, hnd, hmem⟩
      have HO : Hid (OwnP w3 w.heap.size u rs) := Lib.hid (own_base ho (by simp; omega))
      have B3 := Lib.hid (B2.out.trans (hb3.mono B2.out.size))
      have HND := Lib.hid hnd
      have HM := Lib.hid hmem
      clear ho hb3 hnd hmem
      go_wp2_with fail
      go_ret
      refine ⟨_, rs, rfl, HO.out, B3.out, HND.out, fun k => ?_⟩
      rw [HM.out k]
      constructor
      · rintro ⟨l, hk, hh⟩
        apply Classical.byContradiction
        intro hp
        rw [((HD.out k l hk).2 hp).2] at hh
        cases hh
      · intro hp
        have hmem := par_mem _ _ hp
        have hok : KOKP k := by
          rcases List.mem_append.1 hmem with h | h
          · exact HKA.out k h
          · exact HKB.out k h
        obtain ⟨l, hk⟩ := hok.key
        exact ⟨l, hk, ((HD.out k l hk).1 hp).2⟩
end Go.Proofs.Ytgalfhdeldjmpaa
end
