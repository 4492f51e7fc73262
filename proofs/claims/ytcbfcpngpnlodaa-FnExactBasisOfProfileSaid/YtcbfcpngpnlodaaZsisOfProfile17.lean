/-
  Joined: QLbp.
-/
import Derived.Test.YtcbfcpngpnlodaaZsisOfProfile13
import Derived.Test.YtcbfcpngpnlodaaZsisOfProfile16
import Derived.Test.YtcbfcpngpnlodaaZsisOfProfile12
section
namespace Go.Proofs.Ytcbfcpngpnlodaa
open Go Go.RowKit Go.Maps
set_option linter.unusedVariables false
set_option maxRecDepth 100000

/-- The entry's operation, its run given. -/
theorem wpList_entryQ {ops : Array Oper} {rest : List Oper} {o : Oper} {a : Act} {w : World} {Q : Exit → Act → World → Prop} (hgd : o.guard = none) (m x : Operand) (ho : o.op = .mapEntry 69 m x) (M K : Value) (hm : a.eval m = M) (hx : a.eval x = K) (v : Value) (w1 : World)
    (hrun : (Instr.mapEntry 69 M K).run Try.prog w = .ok v w1) (h : wpList Try.prog ops Q rest (a.put o.dst v) w1) : wpList Try.prog ops Q (o :: rest) a w :=
  wpList_plain hgd fun K' hK' => by
    unfold Oper.wp execOp
    simp only [ho, hm, hx, hrun, Sem.run_bind, Sem.run_pure, Result.andThen_ok]
    exact hK' _ _ h
theorem wpList_storeQ {ops : Array Oper} {rest : List Oper} {o : Oper} {a : Act} {w : World} {Q : Exit → Act → World → Prop} (hgd : o.guard = none) (m s x : Operand) (ho : o.op = .entryStore 69 m s x) (M S X : Value) (hm : a.eval m = M) (hs : a.eval s = S) (hx : a.eval x = X) (w1 : World)
    (hrun : (Instr.entryStore 69 M S X).run Try.prog w = .ok () w1) (h : wpList Try.prog ops Q rest (a.put o.dst undef) w1) : wpList Try.prog ops Q (o :: rest) a w :=
  wpList_plain hgd fun K' hK' => by
    unfold Oper.wp execOp
    simp only [ho, hm, hs, hx, hrun, Sem.run_bind, Sem.run_pure, Result.andThen_ok]
    exact hK' _ _ h

/-- The least profile of a list, and its key. -/
def lnX (r : List Int) : Nat → Int := lenF r.length (fun t => r[t]?.getD 0)
def kyX (r : List Int) : Array Value := arK (lnX r)
def okX (r : List Int) : Prop := okLen r.length (fun t => r[t]?.getD 0)
theorem lnX_range {r : List Int} (h : okX r) (i : Nat) : 0 ≤ lnX r i ∧ lnX r i ≤ 8 := by
  unfold lnX lenF
  split
  · have := h.2 i (by assumption)
    dsimp only at this
    have h2 := bl_small (x := (r[i]?.getD 0).toNat) (by omega)
    dsimp only
    omega
  · omega
theorem kyX_key {r : List Int} (h : okX r) : ∃ l, keyOf Try.prog 56 (.agg (kyX r)) = some l := by
  refine (keyQ_mk (arL (lnX r)) (arL_len _) (fun z hz => ?_)).key
  obtain ⟨i, _, rfl⟩ := List.mem_map.1 hz
  have := lnX_range h i
  simp only [Lit.wf]
  rw [Bool.and_eq_true, decide_eq_true_eq, decide_eq_true_eq]
  constructor
  · show (-9223372036854775808 : Int) ≤ _; omega
  · show _ ≤ (9223372036854775807 : Int); omega

open Classical in
/-- The rows of the first j lists with a key. -/
noncomputable def grpQ (X : Nat → List Int) (VS : Nat → Value) : Nat → Array Value → List Value
  | 0, _ => []
  | j + 1, K => if kyX (X j) = K then grpQ X VS j K ++ [VS j] else grpQ X VS j K
theorem grpQ_len (X : Nat → List Int) (VS : Nat → Value) (K : Array Value) : ∀ j, (grpQ X VS j K).length ≤ j
  | 0 => Nat.le_refl _
  | j + 1 => by
    have := grpQ_len X VS K j
    unfold grpQ
    split
    · rw [List.length_append, List.length_singleton]; omega
    · omega
theorem grpQ_some (X : Nat → List Int) (VS : Nat → Value) (K : Array Value) : ∀ j, grpQ X VS j K ≠ [] ↔ ∃ i, i < j ∧ kyX (X i) = K
  | 0 => ⟨fun h => absurd rfl h, fun ⟨i, h, _⟩ => by omega⟩
  | j + 1 => by
    unfold grpQ
    by_cases e : kyX (X j) = K
    · rw [if_pos e]
      exact ⟨fun _ => ⟨j, by omega, e⟩, fun _ => by simp⟩
    · rw [if_neg e, grpQ_some X VS K j]
      exact ⟨fun ⟨i, h1, h2⟩ => ⟨i, by omega, h2⟩, fun ⟨i, h1, h2⟩ => ⟨i, by
        by_cases c : i = j
        · subst c; exact absurd h2 e
        · omega, h2⟩⟩

/-- The map: SV K is the value at the key K (nil, if there is none), xs K its rows. -/
structure MapQ (W : World) (B gm k : Nat) (D : DataW Value) (SV : Array Value → Value) (xs : Array Value → List Value) : Prop where
  own : W.ownsMap Try.prog 56 RawQ gm k D
  low : gm < B
  at_ : ∀ K l, keyOf Try.prog 56 (.agg K) = some l → D.atKey l (.held (.slice none 0 0)) = .held (SV K)
  has_ : ∀ K l, keyOf Try.prog 56 (.agg K) = some l → (Maps.has D l = true ↔ xs K ≠ [])
  grp : ∀ K, W.ownsRow B 22 1 (SV K) (xs K).length (xs K)
  sep : ∀ K K', K ≠ K' → (SV K).ownBlock = none ∨ (SV K).ownBlock ≠ (SV K').ownBlock
theorem MapQ.start (w : World) : MapQ (w.alloc (.map #[] 0)) (w.heap.size + 1) w.heap.size 0 (.map []) (fun _ => .slice none 0 0) (fun _ => []) :=
  ⟨World.ownsMap_made w _ _ _, Nat.lt_succ_self _, fun K l _ => rfl, fun K l _ => ⟨fun h => (by cases h), fun h => absurd rfl h⟩, fun K => World.ownsRow_nil _ _ _ _, fun K K' _ => .inl rfl⟩
theorem MapQ.below {W W' : World} {B gm k : Nat} {D : DataW Value} {SV : Array Value → Value} {xs : Array Value → List Value} (h : MapQ W B gm k D SV xs) (b : Below W.heap.size W W') : MapQ W' B gm k D SV xs :=
  ⟨by
    obtain ⟨es, clock, hb, r⟩ := h.own
    exact ⟨es, clock, (b.block gm (Array.getElem?_eq_some_iff.1 hb).1).trans hb, r⟩, h.low, h.at_, h.has_, fun K => own_below (h.grp K) b, h.sep⟩
theorem MapQ.off {W U : World} {B gm k n : Nat} {D : DataW Value} {SV : Array Value → Value} {xs : Array Value → List Value} {V : Value} {ys : List Value} (h : MapQ W B gm k D SV xs) (o : U.ownsRow B 22 1 V n ys) : V.ownBlock = none ∨ V.ownBlock ≠ some gm := by
  by_cases e : V.ownBlock = some gm
  · have := (o.lt _ e).1
    have := h.low
    omega
  · exact .inr e
open Classical in
/-- A row is put: W (before) has the entry made (W1), the row appended (W2), the entry stored (W3). -/
theorem MapQ.put {W W1 W2 W3 : World} {B gm k : Nat} {D : DataW Value} {SV : Array Value → Value} {xs : Array Value → List Value} {K : Array Value} {l : Lit} {S' v : Value} (h : MapQ W B gm k D SV xs) (hk : keyOf Try.prog 56 (.agg K) = some l)
    (g1 : W.grownBy W1 (some gm)) (z1 : W1.heap.size = W.heap.size) (ho : W2.ownsRow B 22 1 S' ((xs K).length + 1) (xs K ++ [v])) (g2 : W1.grownBy W2 (SV K).ownBlock) (hlie : S'.ownBlock = (SV K).ownBlock ∨ S'.ownBlock = some W1.heap.size)
    (hm : W3.ownsMap Try.prog 56 RawQ gm (k + 1) (D.put l (.held S'))) (g3 : W2.grownBy W3 (some gm)) :
    MapQ W3 B gm (k + 1) (D.put l (.held S')) (fun z => if z = K then S' else SV z) (fun z => if z = K then xs K ++ [v] else xs z) := by
  refine ⟨hm, h.low, fun z lz hz => ?_, fun z lz hz => ?_, fun z => ?_, fun a b hab => ?_⟩
  · by_cases e : z = K
    · subst e
      rw [hk] at hz
      cases hz
      rw [if_pos rfl, atKey_put_same h.own.isMap (keyedQ.key hk)]
    · have hne : lz ≠ l := fun e1 => e (by subst e1; have := keyedQ.inj hz hk; simpa using this)
      rw [if_neg e, atKey_put_other hne, h.at_ z lz hz]
  · by_cases e : z = K
    · subst e
      rw [hk] at hz
      cases hz
      rw [if_pos rfl, has_put_same h.own.isMap (keyedQ.key hk)]
      simp
    · have hne : lz ≠ l := fun e1 => e (by subst e1; have := keyedQ.inj hz hk; simpa using this)
      rw [if_neg e, has_put_other hne, h.has_ z lz hz]
  · by_cases e : z = K
    · subst e
      simp only [if_true]
      have := ho.kept g3 (h.off ho)
      rw [List.length_append, List.length_singleton]
      exact this
    · simp only [if_neg e]
      have o0 := h.grp z
      have o1 := o0.kept g1 (h.off o0)
      have o2 := o1.kept g2 (h.sep z K e)
      exact o2.kept g3 (h.off o2)
  · have new : ∀ c, (SV c).ownBlock ≠ some W1.heap.size := fun c e => by have := ((h.grp c).lt _ e).2; omega
    by_cases e1 : a = K
    · subst e1
      have e2 : b ≠ a := fun e => hab e.symm
      simp only [if_true, if_neg e2]
      rcases hlie with l | l
      · rw [l]; exact h.sep a b hab
      · rw [l]; exact .inr fun e => new b e.symm
    · by_cases e2 : b = K
      · subst e2
        simp only [if_true, if_neg e1]
        rcases hlie with l | l
        · rw [l]; exact h.sep a b hab
        · rw [l]; exact .inr (new a)
      · simp only [if_neg e1, if_neg e2]
        exact h.sep a b hab

open Classical in
/-- A function turned at one key. -/
noncomputable def updK {β : Type} (f : Array Value → β) (K : Array Value) (x : β) (z : Array Value) : β := if z = K then x else f z
theorem MapQ.put' {W W1 W2 W3 : World} {B gm k : Nat} {D : DataW Value} {SV : Array Value → Value} {xs : Array Value → List Value} {K : Array Value} {l : Lit} {S' v : Value} (h : MapQ W B gm k D SV xs) (hk : keyOf Try.prog 56 (.agg K) = some l)
    (g1 : W.grownBy W1 (some gm)) (z1 : W1.heap.size = W.heap.size) (ho : W2.ownsRow B 22 1 S' ((xs K).length + 1) (xs K ++ [v])) (g2 : W1.grownBy W2 (SV K).ownBlock) (hlie : S'.ownBlock = (SV K).ownBlock ∨ S'.ownBlock = some W1.heap.size)
    (hm : W3.ownsMap Try.prog 56 RawQ gm (k + 1) (D.put l (.held S'))) (g3 : W2.grownBy W3 (some gm)) :
    MapQ W3 B gm (k + 1) (D.put l (.held S')) (updK SV K S') (updK xs K (xs K ++ [v])) := h.put hk g1 z1 ho g2 hlie hm g3
theorem grpQ_succ (X : Nat → List Int) (VS : Nat → Value) (i : Nat) : grpQ X VS (i + 1) = updK (grpQ X VS i) (kyX (X i)) (grpQ X VS i (kyX (X i)) ++ [VS i]) := by
  funext z
  unfold updK
  rw [grpQ]
  by_cases e : kyX (X i) = z
  · rw [if_pos e, if_pos e.symm, e]
  · rw [if_neg e, if_neg (fun h => e h.symm)]
end Go.Proofs.Ytcbfcpngpnlodaa
end
