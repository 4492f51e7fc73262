/-
  Joined: KLits, KKeyP, KKeysP, KAppP.
-/
import Derived.Test.YtldlpeohdindaaaZeneratorForm03
import Derived.Test.YtldlpeohdindaaaZeneratorForm14
import Derived.RangeFuncNested
import Derived.RangeFuncBound
import Derived.RangeFuncBox
import Derived.RangeFuncStops
import Derived.Shelf.Abstract
import Derived.WalkKit
import Derived.OwnWalkIn
import Derived.TacticsInMore
import Derived.RegionIn
import Derived.LoopNIn
import Derived.LoopIn
import Derived.Sort.MapsRangeIn
import Derived.Maps.OwnIn
import Derived.Maps.AppendAt
import Derived.Shelf.AbstractIn
section
namespace Go.Proofs.Ytldlpeohdindaaa
open Go.RowKit Go.Maps
set_option linter.unusedVariables false
set_option maxRecDepth 100000

theorem mapM_each {α β : Type} {f : α → Option β} : ∀ {L : List α} {ys : List β}, L.mapM f = some ys → ∀ x ∈ L, ∃ a, f x = some a
  | [], _, _, x, hx => by cases hx
  | y :: r, ys, h, x, hx => by
    rw [List.mapM_cons] at h
    cases hy : f y with
    | none => simp [hy] at h
    | some a =>
      cases hr : r.mapM f with
      | none => simp [hy, hr] at h
      | some b =>
        rcases List.mem_cons.1 hx with rfl | hx
        · exact ⟨a, hy⟩
        · exact mapM_each hr x hx
theorem mapM_mk {α β : Type} {f : α → Option β} : ∀ {L : List α}, (∀ x ∈ L, ∃ a, f x = some a) → ∃ ys, L.mapM f = some ys
  | [], _ => ⟨[], rfl⟩
  | y :: r, h => by
    obtain ⟨a, ha⟩ := h y List.mem_cons_self
    obtain ⟨b, hb⟩ := mapM_mk (f := f) (L := r) (fun x hx => h x (List.mem_cons_of_mem _ hx))
    exact ⟨a :: b, by rw [List.mapM_cons, ha, hb]; rfl⟩

section
variable {P : Program} {q : IntKind}

theorem intLits {t : TypeId} (hu : P.underlying t = some (.int q)) : ∀ {d : Nat} {cs : List Value} {l : List Lit}, P.keyLits d t cs = some l → ∃ z, cs = [.int q z] ∧ (Lit.int q z).wf = true
  | 0, _, _, h => by simp [Program.keyLits] at h
  | d + 1, cs, l, h => by
    unfold Program.keyLits at h
    rw [hu] at h
    split at h <;> simp_all
theorem intLits_mk {t : TypeId} (hu : P.underlying t = some (.int q)) (d : Nat) (z : Int) (hw : (Lit.int q z).wf = true) : ∃ l, P.keyLits (d + 1) t [.int q z] = some l := by
  unfold Program.keyLits
  rw [hu]
  exact ⟨_, if_pos ⟨rfl, hw⟩⟩

/-- All cells are integers of the kind q. -/
def Ints (q : IntKind) (cs : List Value) : Prop := ∃ zs : List Int, cs = zs.map (Value.int q) ∧ ∀ z ∈ zs, (Lit.int q z).wf = true
theorem ints_of {q : IntKind} : ∀ (cs : List Value), (∀ i, i < cs.length → ∃ z, cs[i]? = some (.int q z) ∧ (Lit.int q z).wf = true) → Ints q cs
  | [], _ => ⟨[], rfl, by intro z hz; cases hz⟩
  | c :: r, h => by
    obtain ⟨z, hz, hw⟩ := h 0 (by simp)
    obtain ⟨zs, e, hzs⟩ := ints_of r (fun i hi => h (i + 1) (by simpa using hi))
    refine ⟨z :: zs, by simp at hz; rw [hz, e]; rfl, fun y hy => ?_⟩
    rcases List.mem_cons.1 hy with rfl | hy
    · exact hw
    · exact hzs y hy

theorem arrLits {t e : TypeId} {n : Nat} (hu : P.underlying t = some (.array n e)) (he : P.underlying e = some (.int q)) (hc : P.cellsOf e = 1) (hn : P.cellsOf t = n) {d : Nat} {cs : List Value} {l : List Lit} (h : P.keyLits d t cs = some l) : cs.length = n ∧ Ints q cs := by
  cases d with
  | zero => simp [Program.keyLits] at h
  | succ d =>
    unfold Program.keyLits at h
    rw [hu] at h
    simp only [hn, hc] at h
    split at h
    · rename_i hl
      cases hm : (List.range n).mapM (fun i => P.keyLits d e ((cs.drop (i * 1)).take 1)) with
      | none => rw [hm] at h; cases h
      | some ys =>
        refine ⟨hl, ints_of cs fun i hi => ?_⟩
        obtain ⟨a, ha⟩ := mapM_each hm i (List.mem_range.2 (by omega))
        obtain ⟨z, hz, hw⟩ := intLits he ha
        refine ⟨z, ?_, hw⟩
        have h1 := congrArg (fun xs => xs[0]?) hz
        simpa using h1
    · cases h
theorem arrLits_mk {t e : TypeId} {n : Nat} (hu : P.underlying t = some (.array n e)) (he : P.underlying e = some (.int q)) (hc : P.cellsOf e = 1) (hn : P.cellsOf t = n) (d : Nat) {cs : List Value} (hl : cs.length = n) (h : Ints q cs) : ∃ l, P.keyLits (d + 2) t cs = some l := by
  obtain ⟨zs, rfl, hw⟩ := h
  rw [List.length_map] at hl
  unfold Program.keyLits
  rw [hu]
  simp only [hn, hc, List.length_map, hl, if_true]
  obtain ⟨ys, has⟩ := mapM_mk (f := fun i => P.keyLits (d + 1) e (((zs.map (Value.int q)).drop (i * 1)).take 1)) (L := List.range n) (fun i hi => by
    have hi' : i < zs.length := by have := List.mem_range.1 hi; omega
    have e1 : ((zs.map (Value.int q)).drop (i * 1)).take 1 = [.int q zs[i]] := by
      rw [Nat.mul_one, ← List.map_drop, ← List.map_take, List.drop_eq_getElem_cons hi']
      rfl
    rw [e1]
    exact intLits_mk he d _ (hw _ (List.getElem_mem hi')))
  rw [has]
  exact ⟨_, rfl⟩
end
end Go.Proofs.Ytldlpeohdindaaa
end
section
namespace Go.Proofs.Ytldlpeohdindaaa
open Go.RowKit Go.Maps
set_option linter.unusedVariables false
set_option maxRecDepth 100000

theorem litsP {d : Nat} {cs : List Value} {l : List Lit} (h : Try.prog.keyLits d 72 cs = some l) : cs.length = 8 ∧ Ints .u8 cs := arrLits Try.underlying72 Try.underlying5 (by kernel_rfl) (by kernel_rfl) h

theorem litsP_mk (d : Nat) {cs : List Value} (hl : cs.length = 8) (h : Ints .u8 cs) : ∃ l, Try.prog.keyLits (d + 3) 72 cs = some l := arrLits_mk Try.underlying72 Try.underlying5 (by kernel_rfl) (by kernel_rfl) (d + 1) hl h

/-- Whatever reads as a key is one. -/
theorem keyP_inv {v : Value} {l : Lit} (h : keyOf Try.prog 72 v = some l) : ∃ k, v = .agg k ∧ KOKP k := by
  obtain ⟨xs, L, rfl, hL, _⟩ := keyOf_top (by kernel_rfl) h
  obtain ⟨h1, zs, h2, _⟩ := litsP hL
  refine ⟨xs, rfl, ⟨zs, ?_, ?_⟩, l, h⟩
  · rw [h2, List.length_map] at h1; exact h1
  · rw [← h2]

theorem keyP_mk (zs : List Int) (hl : zs.length = 8) (hw : ∀ z ∈ zs, (Lit.int .u8 z).wf = true) : KOKP (zs.map (Value.int .u8)).toArray := by
  refine ⟨⟨zs, hl, rfl⟩, ?_⟩
  obtain ⟨L, hL⟩ := litsP_mk (Try.prog.types.size - 2) (cs := zs.map (Value.int .u8)) (by rw [List.length_map]; exact hl) ⟨zs, rfl, hw⟩
  have hts : Try.prog.types.size - 2 + 3 = Try.prog.types.size + 1 := by kernel_rfl
  rw [hts] at hL
  have hk : Try.prog.keyType 72 = true := by kernel_rfl
  have hf : (Value.agg (zs.map (Value.int .u8)).toArray).formed Try.prog 72 = true := by
    have hc : Try.prog.cellsOf 72 = 8 := by kernel_rfl
    simp [Value.formed, Try.underlying72, hc, hl]
  refine ⟨.string (keyBytes L), ?_⟩
  unfold keyOf
  rw [Try.underlying72]
  simp only [hk, hf, Bool.and_self, if_true]
  have e : (Value.agg (zs.map (Value.int .u8)).toArray).cells.toList = zs.map (Value.int .u8) := by simp [Value.cells]
  rw [e, hL]
  rfl
end Go.Proofs.Ytldlpeohdindaaa
end
section
namespace Go.Proofs.Ytldlpeohdindaaa
open Go.RowKit Go.Maps Go.Shelf
set_option linter.unusedVariables false
set_option maxRecDepth 100000

theorem ldKIP {F : Fence} {n : Nat} {ops : Array Oper} {rest : List Oper} {o : Oper} {a : Act} {w : World} {Q : Exit → Act → World → Prop} (hgd : o.guard = none) (x : Operand) (ho : o.op = .load 72 x)
    (b p : Nat) (hx : a.eval x = .pointer (some ⟨b, p, none⟩)) (k : Array Value) (hc : w.rangeAt b p k.toList) (hs : k.size = 8) (h : wpListIn F n Try.prog ops Q rest (a.put o.dst (.agg k)) w) : wpListIn F n Try.prog ops Q (o :: rest) a w := by
  refine wpListIn_plain hgd fun K' hK' => ?_
  unfold Oper.wpIn
  refine ⟨?_, ?_⟩
  · simp [Oper.about, ho]
  · rw [Oper.semAt_plain F _ _ (by rw [ho]; intro c hc'; cases hc')]
    unfold execOp
    simp only [ho, hx, loadP w b p k hc hs, Sem.run_bind, Sem.run_pure, Result.andThen_ok]
    exact hK' _ _ h
theorem stKIP {F : Fence} {n : Nat} {ops : Array Oper} {rest : List Oper} {o : Oper} {a : Act} {Q : Exit → Act → World → Prop} (w : World) (hgd : o.guard = none) (x y : Operand) (ho : o.op = .store 72 x y)
    (hx : a.eval x = .pointer (some ⟨w.heap.size, 0, none⟩)) (k : Array Value) (hy : a.eval y = .agg k) (hs : k.size = 8) (h1 : k.all (·.oneCell') = true)
    (h : wpListIn F n Try.prog ops Q rest (a.put o.dst undef) (w.alloc (.cells k 72))) : wpListIn F n Try.prog ops Q (o :: rest) a (w.alloc (.cells #[Value.int .u8 0, Value.int .u8 0, Value.int .u8 0, Value.int .u8 0, Value.int .u8 0, Value.int .u8 0, Value.int .u8 0, Value.int .u8 0] 72)) := by
  refine wpListIn_plain hgd fun K' hK' => ?_
  unfold Oper.wpIn
  refine ⟨?_, ?_⟩
  · simp [Oper.about, ho]
  · rw [Oper.semAt_plain F _ _ (by rw [ho]; intro c hc'; cases hc')]
    unfold execOp
    simp only [ho, hx, hy, run_storeAt_new (P := Try.prog) w 72 #[Value.int .u8 0, Value.int .u8 0, Value.int .u8 0, Value.int .u8 0, Value.int .u8 0, Value.int .u8 0, Value.int .u8 0, Value.int .u8 0] k (by rw [sizeP, hs]) (by rw [hs]; rfl) h1, Sem.run_bind, Sem.run_pure, Result.andThen_ok]
    exact hK' _ _ h

/-- A key. -/
abbrev KTP := { k : Array Value // KOKP k }

/-- What has come of the keys. -/
def GotP (D0 : DataW Unit) (left : Lit → Bool) (ss : List KTP) : Prop := ss.Nodup ∧ ∀ (k : KTP) l, keyOf Try.prog 72 (.agg k.1) = some l → (k ∈ ss ↔ (has D0 l = true ∧ left l = false))
theorem GotP.start (D0 : DataW Unit) : GotP D0 (has D0) [] := ⟨List.nodup_nil, fun k l _ => by cases has D0 l <;> simp⟩
theorem GotP.step {D0 : DataW Unit} {left : Lit → Bool} {ss : List KTP} (h : GotP D0 left ss) {x : KTP} {kl : Lit} (hx : keyOf Try.prog 72 (.agg x.1) = some kl) {y : DataW Unit} (hlk : left kl = true) (hat : ∀ zd, D0.atKey kl zd = y) :
    GotP D0 (fun z => left z && !z.sameKey kl) (ss ++ [x]) := by
  have hhas : has D0 kl = true := has_true_of_atKey hat
  have hnew : x ∉ ss := fun hm => by have := ((h.2 x kl hx).1 hm).2; rw [hlk] at this; cases this
  refine ⟨List.nodup_append.2 ⟨h.1, by simp, fun a ha b hb => by simp at hb; subst hb; exact fun e => hnew (e ▸ ha)⟩, fun k l hk => ?_⟩
  by_cases e : k = x
  · subst e
    rw [hx] at hk
    cases hk
    simp [hhas, WideAt.sameKey_self (keyedP.key hx)]
  · have hne : l.sameKey kl = false := by
      cases hs : l.sameKey kl with
      | false => rfl
      | true =>
        have e1 := WideAt.sameKey_eq hs
        subst e1
        exact absurd (Subtype.ext (by have := keyedP.inj hk hx; simpa using this)) e
    simp [h.2 k l hk, e, hne]

set_option maxHeartbeats 1000000 in
theorem keysItP (F : Fence) (n : Nat) (hF : F.fn 85) (hro : F.round = none) (hn : 1 ≤ n) (l Bm b nn : Nat) (D0 : DataW Unit) (J Jx : List KTP → World → Prop)
    (hY : ∀ pre x W, J pre W → pre.length < Maps.size D0 → YieldAt F (n - 1) Try.prog l #[.agg x.1] W fun e W' => (e = .returned (.bool true) ∧ J (pre ++ [x]) W' ∧ KeepsWalks W W') ∨ (e = .returned (.bool false) ∧ Jx (pre ++ [x]) W'))
    (W : World) (hJ : AbidesFrom W.heap.size J) (hm : W.cell? ⟨Bm, 0, none⟩ = some (.map (some b))) (hown : W.ownsMap Try.prog 72 (plainElem Try.prog 4) b nn D0) (h0 : J [] W) :
    CallsIn F n Try.prog 85 #[.func (.yield l) #[] #[], .pointer (some ⟨Bm, 0, none⟩)] W fun e W' => (∃ v, e = .returned v) ∧
      ((∃ ss : List KTP, (ss.Nodup ∧ ∀ (k : KTP) l, keyOf Try.prog 72 (.agg k.1) = some l → (k ∈ ss ↔ has D0 l = true)) ∧ J ss W') ∨ (∃ pre : List KTP, True ∧ Jx pre W')) := by
  refine callsIn_of_wp Try.func85 rfl hF ?_ hro
  simp only [Try.ntmps85, List.size_toArray, List.length_cons, List.length_nil, Nat.reduceAdd, Nat.reduceSub, Array.replicate_succ, Array.replicate_zero, List.push_toArray, List.append_toArray, List.nil_append, List.cons_append]
  gi_wp2_with (first
    | (gi_at_range; refine wpListIn_range_own _ rfl _ 93 rfl 72 4 keyedP Try.underlying93 _ b nn _ rfl hown ?_; intro w0 hrg0 hg0 hs0)
    | gi_in)
  go_frame
  gi_loopw [3] (fun _ wr => ∃ (left : Lit → Bool) (cnt : Nat) (ss : List KTP), wr.ranges Try.prog 72 (plainElem Try.prog 4) b W.heap.size nn D0 left cnt ∧ ss.length + cnt ≤ Maps.size D0 ∧ GotP D0 left ss ∧ J ss wr)
    (fun _ wr => wr.rangeLeft b W.heap.size)
  case atStart =>
    exact ⟨_, _, [], hrg0, by simp, GotP.start D0, hJ [] W w0 none h0 hg0 (fun r e => by cases e)⟩
  case round =>
    obtain ⟨left, cnt, ss, hrg, hcs, hC, hJs⟩ := hrel
    gi_wp2_with (first
      | (gi_at_next; refine wpListIn_next_ranges _ rfl _ rfl 72 keyedP (plainElem Try.prog 4) (fun x : KTP => .agg x.1) id (fun key kl hk => by obtain ⟨k, e, hk'⟩ := keyP_inv hk; exact ⟨⟨k, hk'⟩, e⟩) (fun v _ _ => ⟨v, rfl⟩) b W.heap.size nn _ _ _ rfl hrg ?_ ?_)
      | gi_in)
    · intro hc0 hl0
      gi_wp2
      go_end0
      exact ⟨⟨_, rfl⟩, .inl ⟨ss, ⟨hC.1, fun k l hk => by rw [hC.2 k l hk, hl0]; simp⟩, hJs⟩⟩
    · intro k hk c kl yd yp w2 cnt2 hkey hlk hv hat hrg2 hlt hg2 hs2 hen
      have hC2 := hC.step (x := ⟨k, hk⟩) hkey hlk hat
      have hJ2 : J ss w2 := hJ ss wr w2 (some W.heap.size) hJs hg2 (fun r e => by cases e; exact ⟨Nat.le_refl _, hrg.iter_walk⟩)
      have hJ3 : J ss (w2.alloc (.cells k 72)) := hJ ss w2 _ none hJ2 (World.grownBy_alloc w2 _ none) (fun r e => by cases e)
      have hrg3 := hrg2.alloc (.cells k 72)
      obtain ⟨fn, tmps, assign, body, hy, hR⟩ := hY ss ⟨k, hk⟩ _ hJ3 (by omega)
      have HSZ := Lib.hid hk.size
      have HONE := Lib.hid hk.one
      have HNW := Lib.hid (loadNewP w2 k HSZ.out)
      clear hs2
      gi_wp2_with (first
        | (refine ldKIP rfl _ rfl w2.heap.size 0 rfl k HNW.out HSZ.out ?_)
        | (refine stKIP w2 rfl _ _ rfl rfl k rfl HSZ.out HONE.out ?_))
      refine hR.mono ?_
      rintro e W3 (⟨rfl, hJ3', hk3⟩ | ⟨rfl, hJx3⟩)
      · gi_wp2
        have hrg4 := hrg3.of_walks hk3
        go_roundw
        case rel => exact ⟨_, cnt2, ss ++ [⟨k, hk⟩], hrg4, by simp; omega, hC2, hJ3'⟩
        case measure => rw [hrg4.left_eq, hrg.left_eq]; exact hlt
      · gi_wp2
        refine bodyPost_ret (results_none rfl _ _ _) rfl ?_
        exact ⟨⟨_, rfl⟩, .inr ⟨ss ++ [⟨k, hk⟩], trivial, hJx3⟩⟩

/-- **maps.Keys(m) hands back a value that 'SeqStops'.** -/
theorem keysStopsP (F : Fence) (n : Nat) (hF : F.fn 85) (hro : F.round = none) (hn : 1 ≤ n) (Bm b nn : Nat) (D0 : DataW Unit) (w : World) (hBm : Bm < w.heap.size)
    (hm : w.cell? ⟨Bm, 0, none⟩ = some (.map (some b))) (hown : w.ownsMap Try.prog 72 (plainElem Try.prog 4) b nn D0) :
    SeqStopsK F n Try.prog 85 #[.pointer (some ⟨Bm, 0, none⟩)] (fun x : KTP => #[Value.agg x.1]) KeepsWalks (fun ss => ss.Nodup ∧ ∀ (k : KTP) l, keyOf Try.prog 72 (.agg k.1) = some l → (k ∈ ss ↔ has D0 l = true)) (fun _ => True) (Maps.size D0) w := fun l J Jx W hW hJ _ hY h0 => by
  have hown' : W.ownsMap Try.prog 72 (plainElem Try.prog 4) b nn D0 := by
    have hbl := hown.lt
    obtain ⟨es, clock, hb, Ft, hs, hD⟩ := hown
    exact ⟨es, clock, (hW.block b hbl).trans hb, Ft, hs, hD⟩
  exact keysItP F n hF hro hn l Bm b nn D0 J Jx hY W hJ ((hW.cell (p := ⟨Bm, 0, none⟩) hBm).trans hm) hown' h0
end Go.Proofs.Ytldlpeohdindaaa
end
section
namespace Go.Proofs.Ytldlpeohdindaaa
open Go.RowKit Go.Maps Go.Shelf
attribute [local go_sem] Oper.semAt_some
set_option linter.unusedVariables false
set_option maxRecDepth 100000

theorem infoEP : (Try.prog.info? 72).map (fun i => (i.zero, i.size, i.bytes)) = some (some (.agg #[Value.int .u8 0, Value.int .u8 0, Value.int .u8 0, Value.int .u8 0, Value.int .u8 0, Value.int .u8 0, Value.int .u8 0, Value.int .u8 0]), 8, 8) := by kernel_rfl

/-- The cells of the keys that have come. -/
def flatP (ss : List KTP) : List Value := ss.flatMap fun x => x.1.toList
theorem flatP_snoc (ss : List KTP) (x : KTP) : flatP (ss ++ [x]) = flatP ss ++ x.1.toList := by simp [flatP]

theorem rangeOfP {w : World} {b : Nat} {k : Array Value} {t : TypeId} (h : w.heap[b]? = some (.cells k t (0, 0))) : w.rangeAt b 0 k.toList := by
  intro j v hv
  rw [Nat.zero_add, cell_of_row _ b j k t (0, 0) h]
  simpa using hv

theorem bsRunP (w : World) (k : Array Value) (hk : KOKP k) : (Instr.buildSlice 70 1 #[(0, .agg k)]).run Try.prog w = .ok (.slice (some ⟨w.heap.size, 0, none⟩) 1 1) (w.alloc (.cells k 72)) := by
  obtain ⟨z0, z1, z2, z3, z4, z5, z6, z7, rfl⟩ := hk.lit
  first
    | kernel_rfl
    | (simp [Instr.buildSlice]; done)
theorem bsKIP {F : Fence} {n : Nat} {ops : Array Oper} {rest : List Oper} {o : Oper} {a : Act} {Q : Exit → Act → World → Prop} (w : World) (hgd : o.guard = none) (x : Operand) (ho : o.op = .buildSlice 70 1 #[(0, x)])
    (k : Array Value) (hx : a.eval x = .agg k) (hk : KOKP k) (h : wpListIn F n Try.prog ops Q rest (a.put o.dst (.slice (some ⟨w.heap.size, 0, none⟩) 1 1)) (w.alloc (.cells k 72))) : wpListIn F n Try.prog ops Q (o :: rest) a w := by
  refine wpListIn_plain hgd fun K' hK' => ?_
  unfold Oper.wpIn
  refine ⟨?_, ?_⟩
  · simp [Oper.about, ho]
  · rw [Oper.semAt_plain F _ _ (by rw [ho]; intro c hc'; cases hc')]
    have hr := bsRunP w k hk
    unfold execOp
    simp only [ho, List.map_toArray, List.map_cons, List.map_nil, hx, hr, Sem.run_bind, Sem.run_pure, Result.andThen_ok]
    exact hK' _ _ h

set_option maxHeartbeats 1000000 in
theorem appSeqP (F : Fence) (n : Nat) (hA : F.fn 84) (hF : F.fn 85) (hro : F.round = none) (hn : 3 ≤ n) (Bm b nn : Nat) (D0 : DataW Unit) (w : World) (hBm : Bm < w.heap.size)
    (hm : w.cell? ⟨Bm, 0, none⟩ = some (.map (some b))) (hown : w.ownsMap Try.prog 72 (plainElem Try.prog 4) b nn D0) (hnn : nn ≤ 1000000000) :
    CallsIn F n Try.prog 84 #[.slice none 0 0, .func (.func 85) #[] #[.pointer (some ⟨Bm, 0, none⟩)]] w fun e w' =>
      ∃ (u : Value) (ss : List KTP), e = .returned u ∧ (ss.Nodup ∧ ∀ (k : KTP) l, keyOf Try.prog 72 (.agg k.1) = some l → (k ∈ ss ↔ has D0 l = true)) ∧ w'.ownsRow w.heap.size 72 8 u ss.length (flatP ss) ∧ Below w.heap.size w w' := by
  have h1 : 1 ≤ n := by omega
  have hsz := hown.size_le
  obtain ⟨i0, hi, hz0, hz1, hz2⟩ := info_parts infoEP
  refine callsIn_of_wp_marks Try.func84 rfl hA ?_ hro
  simp only [Try.ntmps84, List.size_toArray, List.length_cons, List.length_nil, Nat.reduceAdd, Nat.reduceSub, Array.replicate_succ, Array.replicate_zero, List.push_toArray, List.append_toArray, List.nil_append, List.cons_append]
  gi_wp2
  have hb0 : Below w.heap.size w (w.alloc (.cells #[.slice none 0 0] 70)) := (Below.refl _ w).alloc (Nat.le_refl _) _
  refine wpIn_rangeFunc_ownH hro h1 (gf := 85) (lb := #[.pointer (some ⟨Bm, 0, none⟩)]) rfl hF (enters_of Try.func85 (by kernel_rfl) rfl)
    (keysStopsP F (n - 1) hF hro (by omega) Bm b nn D0 w hBm hm hown) walksK_t walksK_b hb0 (fun _ => rfl)
    (fun pre W => (∃ v, Boxed W w.heap.size 70 v ∧ W.ownsRow w.heap.size 72 8 v pre.length (flatP pre) ∧ True) ∧ Below w.heap.size w W)
    (fun _ _ _ => False)
    (OwnFrom.and (Own.from (holdsRow_own w.heap.size w.heap.size 70 72 8 (fun pre : List KTP => pre.length) flatP (fun _ _ => True)) _) (ownFrom_below (Nat.le_refl _) (by simp)))
    (fun _ _ _ _ _ hs _ _ => hs)
    ⟨⟨_, Boxed.new w _ _, World.ownsRow_nil _ _ _ _, trivial⟩, hb0⟩
    (fun x a' W => ∃ Bx, W.heap[Bx]? = some (.cells x.1 72 (0, 0)) ∧ a' = { tmps := #[.slice none 0 0, .func (.func 85) #[] #[.pointer (some ⟨Bm, 0, none⟩)], .pointer (some ⟨w.heap.size, 0, none⟩), undef, .slice none 0 0, .pointer (some ⟨Bx, 0, none⟩), .func (.func 85) #[] #[.pointer (some ⟨Bm, 0, none⟩)], .agg x.1, undef, undef, undef, undef, undef], defers := [] })
    (fun x a' s A B row hs hg hr => by
      obtain ⟨Bx, h2, h3⟩ := hs
      refine ⟨Bx, (hg.block Bx (Array.getElem?_eq_some_iff.1 h2).1 (fun e => ?_)).trans h2, h3⟩
      obtain ⟨_, o, ho, hc⟩ := hr Bx e.symm
      rw [h2] at ho
      cases ho
      cases hc) ?assign ?body ?done ?stop
  case assign =>
    rintro l pre ⟨k, hk⟩ W K ⟨⟨v, hv, hrow, _⟩, hB⟩ hK
    have HSZ := Lib.hid hk.size
    have HONE := Lib.hid hk.one
    gi_wp2_with (refine stKIP W rfl _ _ rfl rfl k rfl HSZ.out HONE.out ?_)
    exact hK _ _ ((KeepsOthers.alloc _ _).from _) (KeepsWalks.alloc _ _) ⟨⟨v, hv.alloc _, hrow.alloc _, trivial⟩, hB.alloc hB.size _⟩ ⟨W.heap.size, heap_alloc_new W _, rfl⟩
  case body =>
    rintro l pre ⟨k, hk⟩ a' W hl ⟨r, hr⟩ ⟨⟨v, hv, hrow, _⟩, hB⟩ ⟨Bx, hx, rfl⟩ hlt
    have HSZ := Lib.hid hk.size
    have HONE := Lib.hid hk.one
    have HX := Lib.hid (rangeOfP hx)
    have hc := hv.cell
    have hlen : pre.length < 1000000000 := by omega
    gi_wp2_with (first
      | (refine ldKIP rfl _ rfl Bx 0 rfl k HX.out HSZ.out ?_)
      | (refine bsKIP W rfl _ rfl k rfl hk ?_)
      | (gi_at_builtin; refine wpListIn_append_own _ rfl _ _ 70 rfl w.heap.size 72 i0 (.agg #[Value.int .u8 0, Value.int .u8 0, Value.int .u8 0, Value.int .u8 0, Value.int .u8 0, Value.int .u8 0, Value.int .u8 0, Value.int .u8 0]) 8 8 Try.underlying70 hi hz0 hz1 hz2 rfl (by decide) _ _ _ rfl (hrow.alloc _) ⟨W.heap.size, 0, none⟩ 1 1 k.toList rfl (by rw [Array.length_toList, HSZ.out]) (fun j u hu => by have h := (loadNewP W k HSZ.out) j u hu; rw [Addr.add_mid]; exact h) (fun u hu => (Array.all_eq_true_iff_forall_mem.1 HONE.out) u (by simpa using hu)) (by unfold maxLen; omega) (by omega) (by have := hB.size; simp; omega) ?_))
    intro v' w1 hown' hgrow _
    obtain ⟨g', cap', rfl⟩ := ownsRow_succ hown'
    obtain ⟨hv1, hv2, hr2, hk2, hb2⟩ := hv.appended (by decide) hrow hB.size (Nat.le_refl _) hown' hgrow
    have hc1 := hv1.cell
    have hf1 := hv1.frozen
    have HR2 := Lib.hid hr2
    have HB2 := Lib.hid (hB.trans hb2)
    have HK2 := Lib.hid hk2
    have HV2 := Lib.hid hv2
    clear hr2 hb2 hk2 hv2 hgrow hown' hc
    gi_wp2
    refine ⟨HK2.out.from _, HK2.out.walks, ⟨_, HV2.out, ?_, trivial⟩, HB2.out⟩
    rw [flatP_snoc, List.length_append, List.length_singleton]
    exact HR2.out
  case done =>
    rintro D ys W hD hS ⟨⟨v, hv, hrow, _⟩, hB⟩ hK
    have hc := hv.cell
    gi_wp2
    refine ⟨by simp, .inl ⟨_, _, rfl, run_takeDeferred hK, ?_⟩⟩
    refine ⟨_, results_tmp rfl _ _ _, _, ys, rfl, hS, ownsRow_putObj hrow _ hK rfl, ?_⟩
    have hg : W.grownBy (W.putObj D (.deferred none)) (some D) := grownBy_putObj' _ _ _
    exact hB.grown hg hB.size (fun k e => by cases e; simp at hD; omega)
  case stop =>
    rintro D c pre W _ _ h _
    exact h.elim

theorem collsP (F : Fence) (n : Nat) (h8 : F.fn 69) (hA : F.fn 84) (hF : F.fn 85) (hro : F.round = none) (hn : 4 ≤ n) (Bm b nn : Nat) (D0 : DataW Unit) (w : World) (hBm : Bm < w.heap.size)
    (hm : w.cell? ⟨Bm, 0, none⟩ = some (.map (some b))) (hown : w.ownsMap Try.prog 72 (plainElem Try.prog 4) b nn D0) (hnn : nn ≤ 1000000000) :
    CallsIn F n Try.prog 69 #[.func (.func 85) #[] #[.pointer (some ⟨Bm, 0, none⟩)]] w fun e w' =>
      ∃ (u : Value) (ss : List KTP), e = .returned u ∧ (ss.Nodup ∧ ∀ (k : KTP) l, keyOf Try.prog 72 (.agg k.1) = some l → (k ∈ ss ↔ has D0 l = true)) ∧ w'.ownsRow w.heap.size 72 8 u ss.length (flatP ss) ∧ Below w.heap.size w w' := by
  have h1 : 1 ≤ n := by omega
  have A := Lib.hid (appSeqP F (n - 1) hA hF hro (by omega) Bm b nn D0 w hBm hm hown hnn)
  have e11 : ∀ args w, (callFunc 84 args).run Try.prog w = .ok (.enter 84 args) w := enters_of Try.func84 (by kernel_rfl) rfl
  clear hm hown
  refine callsIn_of_wp Try.func69 rfl h8 ?_ hro
  simp only [Try.ntmps69, List.size_toArray, List.length_cons, List.length_nil, Nat.reduceAdd, Nat.reduceSub, Array.replicate_succ, Array.replicate_zero, List.push_toArray, List.append_toArray, List.nil_append, List.cons_append]
  gi_wp2_with (gi_at_fn 84; refine A.out.mono ?_; rintro e w' ⟨u, ss, rfl, hS, hrow, hb⟩)
  go_ret
  exact ⟨u, ss, rfl, hS, hrow, hb⟩

theorem colP : ColAllP := by
  intro w Bm m n D hm hown hn
  refine (callsIn_wide (n := 4)).1 ((collsP Fence.wide 4 trivial trivial trivial rfl (by omega) Bm m n D w (World.block_lt_of_cell? w _ hm) hm hown hn).mono ?_)
  rintro e w' ⟨u, ss, rfl, ⟨hnd, hmem⟩, hrow, hb⟩
  refine ⟨u, ss.map (·.1), rfl, ?_, hb, ?_, fun k => ?_⟩
  · unfold OwnP
    rw [List.length_map, List.flatMap_map]
    exact hrow
  · exact List.pairwise_map.2 (hnd.imp fun hne e => hne (Subtype.ext e))
  · constructor
    · intro hk
      obtain ⟨x, hx, rfl⟩ := List.mem_map.1 hk
      obtain ⟨l, hl⟩ := x.2.key
      exact ⟨l, hl, (hmem x l hl).1 hx⟩
    · rintro ⟨l, hl, hh⟩
      obtain ⟨k', e, hk'⟩ := keyP_inv hl
      cases e
      exact List.mem_map.2 ⟨⟨k, hk'⟩, (hmem ⟨k, hk'⟩ l hl).2 hh, rfl⟩
end Go.Proofs.Ytldlpeohdindaaa
end
