/-
  Joined: RRange, RMarkG, KSumP.
-/
import Derived.Test.YtnmilkehggjpfaaZBMil03
import Derived.RangeFuncWrites
import Derived.RangeFuncNested
import Derived.WalkKit
import Derived.OwnWalkIn
import Derived.TacticsInMore
import Derived.LoopNIn
import Derived.LoopIn
import Derived.Test.YtnmilkehggjpfaaZBMil04
import Derived.BigRegion
section
namespace Go.Proofs.Ytnmilkehggjpfaa
open Go.RowKit
set_option linter.unusedVariables false
set_option maxRecDepth 100000

/-- The iterator's word: in round k it hands over 'enc k'; there are N rounds, unless one of them says 'no more'. J k: what holds when k rounds are over. -/
def SeqIn (P : Program) (gf : Nat) (lb : Array Value) (N : Nat) (enc : Nat → Array Value) (Kp : World → World → Prop) (w : World) : Prop :=
  ∀ (l : Nat) (J : Nat → World → Prop) (Jx : World → Prop) (W : World), Kp w W →
    (∀ k W1, k < N → J k W1 → YieldAt Fence.wide 1 P l (enc k) W1 fun e W' => (e = .returned (.bool true) ∧ J (k + 1) W' ∧ Kp W1 W') ∨ (e = .returned (.bool false) ∧ Jx W')) →
    J 0 W → CallsIn Fence.wide 2 P gf (#[.func (.yield l) #[] #[]] ++ lb) W fun e W' => (∃ v, e = .returned v) ∧ (J N W' ∨ Jx W')

/-- How a round's body is left: on with the next one, or out of a block around. -/
def RoundOut (B : Nat) (Kp : World → World → Prop) (I : World → Prop) (Ix : Nat → World → Prop) (W : World) : Exit → Act → World → Prop
  | .normal, _, W' => KeepsFrom B W W' ∧ Kp W W' ∧ I W'
  | .exit id, _, W' => KeepsFrom B W W' ∧ Ix id W'
  | _, _, _ => False

section
variable {P : Program} {ps : Array Tmp} {assign body : Code}
/-- The loop's record. -/
def recOf (fn : Nat) (t : Array Value) (ps : Array Tmp) (assign body : Code) (D : Nat) (s : LoopState) (pend : Option Code) : Loop := { state := s, pending := pend, fn := fn, tmps := t, params := ps, assign := assign, body := body, defers := D }
/-- The two blocks of a loop's own. -/
structure Marks (D : Nat) (r : Loop) (W : World) : Prop where
  lp : W.heap[D + 1]? = some (.loop r)
  df : W.heap[D]? = some (.deferred (some []))
theorem Marks.put {D : Nat} {r r' : Loop} {W : World} (h : Marks D r W) : Marks D r' (W.putObj (D + 1) (.loop r')) :=
  ⟨World.putObj_heap_same (Array.getElem?_eq_some_iff.1 h.lp).1, (World.putObj_heap_other (by omega)).trans h.df⟩
theorem Marks.keep {D B : Nat} {r : Loop} {W W' : World} (h : Marks D r W) (hB : B ≤ D) (k : KeepsFrom B W W') : Marks D r W' :=
  ⟨k.same _ _ (by omega) h.lp rfl, k.same _ _ hB h.df rfl⟩

theorem range_next {Q : Exit → Act → World → Prop} {a : Act} {w : World} {g : Operand} {gf : Nat} {lb : Array Value} (hg : a.eval g = .func (.func gf) #[] lb) (eg : ∀ args w, (callFunc gf args).run P w = .ok (.enter gf args) w)
    {N : Nat} {enc : Nat → Array Value} {Kp : World → World → Prop} (hseq : SeqIn P gf lb N enc Kp w) (hps : ∀ k, (enc k).size = ps.size)
    (kt : ∀ {A B C : World}, Kp A B → Kp B C → Kp A C) (kp : ∀ (W : World) (l : Nat) (o o' : Obj), l = w.heap.size + 1 → W.heap[l]? = some o → o.isCells = false → Kp W (W.putObj l o')) (k0 : ∀ o o', Kp w ((w.alloc o).alloc o'))
    (I : Nat → World → Prop) (Ix : Nat → World → Prop)
    (ip : ∀ k W l o o', I k W → l = w.heap.size + 1 → W.heap[l]? = some o → o.isCells = false → I k (W.putObj l o')) (ixp : ∀ id W l o o', Ix id W → l = w.heap.size + 1 → W.heap[l]? = some o → o.isCells = false → Ix id (W.putObj l o'))
    (i0 : ∀ o o', I 0 ((w.alloc o).alloc o')) (a₁ : Nat → Act)
    (hassign : ∀ (l k : Nat) (W : World) (K : Act → World → Prop), K (a₁ k) W → assign.wpIn (Fence.wide.inRound l) 1 P (Exit.then K (fun _ _ _ => False)) { tmps := (ps.zip (enc k)).foldl (fun t (p, v) => t.setIfInBounds p v) a.tmps, defers := [] } W)
    (hbody : ∀ (l k : Nat) (W : World), k < N → I k W → body.wpIn (Fence.wide.inRound l) 1 P (RoundOut w.heap.size Kp (I (k + 1)) Ix W) (a₁ k) W)
    (hdone : ∀ W, I N W → W.heap[w.heap.size]? = some (.deferred (some [])) → Q .normal { a with defers := { target := .collected w.heap.size, args := #[] } :: a.defers } W)
    (hstop : ∀ id W, Ix id W → W.heap[w.heap.size]? = some (.deferred (some [])) → (Code.exit id).wpIn Fence.wide 3 P Q { a with defers := { target := .collected w.heap.size, args := #[] } :: a.defers } W) :
    (Code.rangeFunc g ps assign body).wpIn Fence.wide 3 P Q a w := by
  refine wpIn_rangeFunc fun fn hfn => ?_
  have M1 : Marks w.heap.size (recOf fn a.tmps ps assign body w.heap.size .ready none) ((w.alloc (.deferred (some []))).alloc (.loop (recOf fn a.tmps ps assign body w.heap.size .ready none))) := by
    refine ⟨?_, (Below.heap_alloc _ _ _ (by simp)).trans (World.alloc_heap_new w _)⟩
    have := World.alloc_heap_new (w.alloc (.deferred (some []))) (.loop (recOf fn a.tmps ps assign body w.heap.size .ready none))
    rwa [World.size_alloc] at this
  refine ⟨_, _, _, _, _, gf, _, _, run_enterLoop_outer fn a.tmps ps assign body, by simp only [resolve, hg]; simp [go_sem]; exact ⟨rfl, rfl⟩, fun _ _ => trivial, by simp [invoke, go_sem, eg]; exact ⟨rfl, rfl⟩, fun h => by simp [Fence.wide] at h, ?_⟩
  refine (hseq (w.heap.size + 1) (fun k W => I k W ∧ Marks w.heap.size (recOf fn a.tmps ps assign body w.heap.size .ready none) W)
    (fun W => ∃ id, Ix id W ∧ Marks w.heap.size (recOf fn a.tmps ps assign body w.heap.size .done (some (.exit id))) W) _ (k0 _ _) ?_ ⟨i0 _ _, M1⟩).mono ?_
  · rintro k W hk ⟨hi, hm⟩
    have hy := run_yield (P := P) (args := enc k) hm.lp (hps k)
    refine ⟨fn, _, assign, body, hy, roundIn_of_wpIn hfn (hassign _ k W _ ⟨_, run_beginRound hm.lp rfl, ?_⟩)⟩
    have hm2 := hm.put (r' := recOf fn a.tmps ps assign body w.heap.size .busy none)
    have k2 := kp W (w.heap.size + 1) _ (.loop (recOf fn a.tmps ps assign body w.heap.size .busy none)) rfl hm.lp rfl
    refine wpIn_mono (hbody _ k _ hk (ip _ _ _ _ _ hi rfl hm.lp rfl)) ?_
    rintro e a3 W3 hp
    cases e with
    | normal =>
      obtain ⟨h3, h4, h5⟩ := hp
      have m3 := hm2.keep (Nat.le_refl _) h3
      exact ⟨_, _, run_endRound (P := P) none m3.lp, .inl ⟨rfl, ⟨ip _ _ _ _ _ h5 (by omega) m3.lp rfl, m3.put⟩, kt (kt k2 h4) (kp _ _ _ _ rfl m3.lp rfl)⟩⟩
    | exit id =>
      obtain ⟨h3, h5⟩ := hp
      have m3 := hm2.keep (Nat.le_refl _) h3
      exact ⟨_, _, run_endRound (P := P) (some (.exit id)) m3.lp, .inr ⟨rfl, id, ixp _ _ _ _ _ h5 (by omega) m3.lp rfl, m3.put⟩⟩
    | ret => exact hp.elim
    | goto t => exact hp.elim
    | panic ch => exact hp.elim
    | outgrown => exact hp.elim
  · rintro e W2 ⟨⟨v, rfl⟩, (⟨hi, hm⟩ | ⟨id, hi, hm⟩)⟩
    · exact ⟨none, _, run_endLoop (P := P) hm.lp (by simp [recOf]), hdone _ (ip _ _ _ _ _ hi rfl hm.lp rfl) (hm.put (r' := { recOf fn a.tmps ps assign body w.heap.size .ready none with state := .exhausted })).df⟩
    · exact ⟨some (.exit id), _, run_endLoop (P := P) hm.lp (by simp [recOf]), hstop id _ (ixp _ _ _ _ _ hi rfl hm.lp rfl) (hm.put (r' := { recOf fn a.tmps ps assign body w.heap.size .done (some (.exit id)) with state := .exhausted })).df⟩
end
end Go.Proofs.Ytnmilkehggjpfaa
end
section
namespace Go.Proofs.Ytnmilkehggjpfaa
open Go.RowKit Go.Maps
set_option linter.unusedVariables false
set_option maxRecDepth 100000

/-- A world in which one block is another. -/
structure OneOff (q : Nat) (W W' : World) : Prop where
  os : W'.os = W.os
  tape : W'.tape = W.tape
  output : W'.output = W.output
  size : W'.heap.size = W.heap.size
  block : ∀ b, b ≠ q → W'.heap[b]? = W.heap[b]?
theorem OneOff.put (W : World) (q : Nat) (o : Obj) : OneOff q W (W.putObj q o) := ⟨rfl, rfl, rfl, World.putObj_size, fun b hb => World.putObj_heap_other hb⟩
theorem OneOff.set (W : World) (q : Nat) (v : Value) : OneOff q W (W.setCell ⟨q, 0, none⟩ v) := ⟨rfl, rfl, rfl, by simp [World.setCell], fun b hb => heap_setCell_other W ⟨q, 0, none⟩ b v hb⟩

/-- A family's or a row's block is no loop's. -/
theorem own_ne_obj {W : World} {B s n q : Nat} {e : TypeId} {v : Value} {xs : List Value} (h : W.ownsRow B e s v n xs) {o : Obj} (hq : W.heap[q]? = some o) (ho : o.isCells = false) : v.ownBlock ≠ some q := by
  intro e1
  rcases h.2 with ⟨rfl, _⟩ | ⟨g, cap, cur, rfl, _, hG, _⟩
  · cases e1
  · simp only [Value.ownBlock, Option.some.injEq] at e1
    subst e1
    rw [hG] at hq
    cases hq
    cases ho
theorem own_ne_cells {W : World} {B s n q : Nat} {e t : TypeId} {v : Value} {xs : List Value} {cs : Array Value} {fr : Nat × Nat} (h : W.ownsRow B e s v n xs) (hq : W.heap[q]? = some (.cells cs t fr)) (ht : e ≠ t) : v.ownBlock ≠ some q := by
  intro e1
  rcases h.2 with ⟨rfl, _⟩ | ⟨g, cap, cur, rfl, _, hG, _⟩
  · cases e1
  · simp only [Value.ownBlock, Option.some.injEq] at e1
    subst e1
    rw [hG] at hq
    simp only [Option.some.injEq, Obj.cells.injEq] at hq
    exact ht hq.2.1

def MarksAll (DD : List Nat) (W : World) : Prop := ∀ D ∈ DD, W.heap[D]? = some (.deferred (some []))
def marksOf (DD : List Nat) : List Deferred := DD.map fun D => { target := .collected D, args := #[] }
theorem MarksAll.grown {DD : List Nat} {B s n : Nat} {e : TypeId} {v : Value} {xs : List Value} {W W' : World} (h : MarksAll DD W) (ho : W.ownsRow B e s v n xs) (hg : W.grownBy W' v.ownBlock) : MarksAll DD W' := fun D hD => by
  have h1 := h D hD
  exact (hg.block D (Array.getElem?_eq_some_iff.1 h1).1 fun e2 => own_ne_obj ho h1 rfl e2.symm).trans h1

/-- The marks at the end. -/
theorem leaves_marks {P : Program} {F : Fence} {n : Nat} {fn : Func} {tmps : Array Value} {E : Ending → World → Prop} (X : Nat → Prop) (G : World → Prop) (hp : ∀ W D, X D → G W → W.heap[D]? = some (.deferred (some [])) → G (W.putObj D (.deferred none))) (he : ∀ W, G W → LeavesIn F n P fn tmps E [] .returning W) :
    ∀ (DD : List Nat) (W : World), (∀ D ∈ DD, X D) → G W → MarksAll DD W → DD.Nodup → LeavesInM F n P fn tmps E (marksOf DD) .returning W
  | [], W, _, g, _, _ => he W g
  | D :: DD, W, hx, g, hm, hn => by
    obtain ⟨n1, n2⟩ := List.nodup_cons.1 hn
    have hD := hm D List.mem_cons_self
    refine ⟨by simp, .inl ⟨D, _, rfl, run_takeDeferred hD, leaves_marks X G hp he DD _ (fun E hE => hx E (List.mem_cons_of_mem _ hE)) (hp W D (hx D List.mem_cons_self) g hD) (fun E hE => ?_) n2⟩⟩
    exact (World.putObj_heap_other (r := D) (k := E) (fun e => n1 (e ▸ hE))).trans (hm E (List.mem_cons_of_mem _ hE))
end Go.Proofs.Ytnmilkehggjpfaa
end
section
namespace Go.Proofs.Ytnmilkehggjpfaa
open Go.RowKit Go.Maps
set_option linter.unusedVariables false
set_option maxRecDepth 100000

theorem keyedP : Keyed Try.prog 157 := Keyed.of_law (deep_law_laid laidP (m := 3) (by omega) (of_decide_eq_true (by kernel_rfl)) (by kernel_rfl) (by kernel_rfl))
theorem sizeP : (Try.prog.info? 157).map (·.size) = some 8 := by kernel_rfl

theorem listP {zs : List Int} (h : zs.length = 8) : ∃ z0 z1 z2 z3 z4 z5 z6 z7, zs = [z0, z1, z2, z3, z4, z5, z6, z7] := by
  match zs, h with
  | [z0, z1, z2, z3, z4, z5, z6, z7], _ => exact ⟨z0, z1, z2, z3, z4, z5, z6, z7, rfl⟩

/-- A key's cells. -/
structure KOKP (k : Array Value) : Prop where
  ints : ∃ zs : List Int, zs.length = 8 ∧ k = (zs.map (Value.int .u8)).toArray
  key : ∃ l, keyOf Try.prog 157 (.agg k) = some l
theorem KOKP.lit {k : Array Value} (h : KOKP k) : ∃ z0 z1 z2 z3 z4 z5 z6 z7 : Int, k = #[Value.int .u8 z0, Value.int .u8 z1, Value.int .u8 z2, Value.int .u8 z3, Value.int .u8 z4, Value.int .u8 z5, Value.int .u8 z6, Value.int .u8 z7] := by
  obtain ⟨zs, hz, e⟩ := h.ints
  obtain ⟨z0, z1, z2, z3, z4, z5, z6, z7, rfl⟩ := listP hz
  exact ⟨z0, z1, z2, z3, z4, z5, z6, z7, e⟩

/-- v reads as the keys ks. -/
def RdP (w : World) (v : Value) (ks : List (Array Value)) : Prop :=
  ∃ a cap, v = .slice a ks.length cap ∧ ks.length ≤ maxLen ∧ (ks.length = 0 ∨ ∃ b off, a = some ⟨b, off, none⟩ ∧ b < w.heap.size ∧ ∀ i, i < ks.length → w.rangeAt b (off + i * 8) (ks[i]?.getD #[]).toList)
theorem RdP.below {w w' : World} {v : Value} {ks : List (Array Value)} (h : RdP w v ks) (k : Below w.heap.size w w') : RdP w' v ks := by
  obtain ⟨a, cap, e, hm, hc⟩ := h
  refine ⟨a, cap, e, hm, ?_⟩
  rcases hc with h0 | ⟨b, off, e, hb, hc⟩
  · exact .inl h0
  · exact .inr ⟨b, off, e, Nat.lt_of_lt_of_le hb k.size, fun i hi j u hj => (k.cell (p := ⟨b, off + i * 8 + j, none⟩) hb).trans (hc i hi j u hj)⟩

theorem loadP (w : World) (b o : Nat) (k : Array Value) (h : w.rangeAt b o k.toList) (hs : k.size = 8) : (Instr.loadAt 157 (.pointer (some ⟨b, o, none⟩))).run Try.prog w = .ok (.agg k) w := by
  have := run_loadAt_mid w b o 157 k.toList _ h Try.underlying157 rfl (by rw [sizeP]; simp [hs])
  simpa using this
theorem KOKP.size {k : Array Value} (h : KOKP k) : k.size = 8 := by
  obtain ⟨zs, hz, rfl⟩ := h.ints
  simp [hz]
theorem KOKP.one {k : Array Value} (h : KOKP k) : k.all (·.oneCell') = true := by
  obtain ⟨zs, hz, rfl⟩ := h.ints
  simp [Value.oneCell']

theorem loadCP (w : World) (b o : Nat) (k : Array Value) (h : w.rangeAt b o k.toList) (hs : k.size = 8) : (loadCellsFrom ⟨b, o, none⟩ 0 8 #[]).run Try.prog w = .ok k w := by
  have := run_loadCells_list (P := Try.prog) w ⟨b, o, none⟩ k.toList (fun j v hv => by rw [Addr.add_mid]; exact h j v hv)
  simpa [loadCells, hs] using this
theorem loadNewP (w : World) (k : Array Value) (hs : k.size = 8) : (w.alloc (.cells k 157)).rangeAt w.heap.size 0 k.toList := by
  intro j v hv
  rw [Nat.zero_add, cell_of_row _ w.heap.size j k 157 (0, 0) (heap_alloc_new w _)]
  simpa using hv

/-- A key is loaded whole. -/
theorem ldKP {ops : Array Oper} {rest : List Oper} {op : Oper} {a : Act} {w : World} {Q : Exit → Act → World → Prop} (hgd : op.guard = none) (x : Operand) (ho : op.op = .load 157 x)
    (b o : Nat) (hx : a.eval x = .pointer (some ⟨b, o, none⟩)) (k : Array Value) (hc : w.rangeAt b o k.toList) (hs : k.size = 8) (h : wpList Try.prog ops Q rest (a.put op.dst (.agg k)) w) : wpList Try.prog ops Q (op :: rest) a w :=
  wpList_load_mid hgd 157 x ho b o hx k.toList _ hc Try.underlying157 rfl (by rw [sizeP]; simp [hs]) (by simpa using h)
/-- A key is stored into the variable that was made last. -/
theorem stKP {ops : Array Oper} {rest : List Oper} {op : Oper} {a : Act} {Q : Exit → Act → World → Prop} (w : World) (hgd : op.guard = none) (x y : Operand) (ho : op.op = .store 157 x y)
    (hx : a.eval x = .pointer (some ⟨w.heap.size, 0, none⟩)) (k : Array Value) (hy : a.eval y = .agg k) (hs : k.size = 8) (h1 : k.all (·.oneCell') = true)
    (h : wpList Try.prog ops Q rest (a.put op.dst undef) (w.alloc (.cells k 157))) : wpList Try.prog ops Q (op :: rest) a (w.alloc (.cells #[Value.int .u8 0, Value.int .u8 0, Value.int .u8 0, Value.int .u8 0, Value.int .u8 0, Value.int .u8 0, Value.int .u8 0, Value.int .u8 0] 157)) := by
  refine wpList_plain hgd fun K' hK' => ?_
  unfold Oper.wp execOp
  simp only [ho, hx, hy, run_storeAt_new (P := Try.prog) w 157 #[Value.int .u8 0, Value.int .u8 0, Value.int .u8 0, Value.int .u8 0, Value.int .u8 0, Value.int .u8 0, Value.int .u8 0, Value.int .u8 0] k (by rw [sizeP, hs]) (by rw [hs]; rfl) h1, Sem.run_bind, Sem.run_pure, Result.andThen_ok]
  exact hK' _ _ h

/-- The state between two rounds. -/
structure StP (w : World) (va vb : Value) (p : List (Array Value)) (wr : World) : Prop where
  map : ∃ (D : DataW Unit) (n : Nat), wr.ownsMap Try.prog 157 (plainElem Try.prog 4) w.heap.size n D ∧ n ≤ p.length ∧ MapIs 157 D p
  bel : Below w.heap.size w wr
  two : wr.heap[w.heap.size + 1]? = some (.cells #[va, vb] 151 (0, 0))
  big : w.heap.size + 2 ≤ wr.heap.size
end Go.Proofs.Ytnmilkehggjpfaa
end
