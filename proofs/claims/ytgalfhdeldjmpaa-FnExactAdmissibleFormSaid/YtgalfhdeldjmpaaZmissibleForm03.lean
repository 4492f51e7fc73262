/-
  Joined: KLits, KKeyP, KKeysP.
-/
import Derived.Test.YtgalfhdeldjmpaaZmissibleForm02
import Derived.RangeFuncNested
import Derived.RangeFuncBound
import Derived.RangeFuncBox
import Derived.RangeFuncStops
import Derived.Shelf.Abstract
import Derived.WalkKit
import Derived.OwnWalkIn
import Derived.TacticsInMore
import Derived.RegionIn
import Derived.LoopNIn
import Derived.LoopIn
import Derived.Sort.MapsRangeIn
import Derived.Maps.OwnIn
section
namespace Go.Proofs.Ytgalfhdeldjmpaa
open Go.RowKit Go.Maps
set_option linter.unusedVariables false
set_option maxRecDepth 100000

theorem mapM_each {α β : Type} {f : α → Option β} : ∀ {L : List α} {ys : List β}, L.mapM f = some ys → ∀ x ∈ L, ∃ a, f x = some a
  | [], _, _, x, hx => by cases hx
  | y :: r, ys, h, x, hx => by
    rw [List.mapM_cons] at h
    cases hy : f y with
    | none => simp [hy] at h
    | some a =>
      cases hr : r.mapM f with
      | none => simp [hy, hr] at h
      | some b =>
        rcases List.mem_cons.1 hx with rfl | hx
        · exact ⟨a, hy⟩
        · exact mapM_each hr x hx
theorem mapM_mk {α β : Type} {f : α → Option β} : ∀ {L : List α}, (∀ x ∈ L, ∃ a, f x = some a) → ∃ ys, L.mapM f = some ys
  | [], _ => ⟨[], rfl⟩
  | y :: r, h => by
    obtain ⟨a, ha⟩ := h y List.mem_cons_self
    obtain ⟨b, hb⟩ := mapM_mk (f := f) (L := r) (fun x hx => h x (List.mem_cons_of_mem _ hx))
    exact ⟨a :: b, by rw [List.mapM_cons, ha, hb]; rfl⟩

section
variable {P : Program} {q : IntKind}

theorem intLits {t : TypeId} (hu : P.underlying t = some (.int q)) : ∀ {d : Nat} {cs : List Value} {l : List Lit}, P.keyLits d t cs = some l → ∃ z, cs = [.int q z] ∧ (Lit.int q z).wf = true
  | 0, _, _, h => by simp [Program.keyLits] at h
  | d + 1, cs, l, h => by
    unfold Program.keyLits at h
    rw [hu] at h
    split at h <;> simp_all
theorem intLits_mk {t : TypeId} (hu : P.underlying t = some (.int q)) (d : Nat) (z : Int) (hw : (Lit.int q z).wf = true) : ∃ l, P.keyLits (d + 1) t [.int q z] = some l := by
  unfold Program.keyLits
  rw [hu]
  exact ⟨_, if_pos ⟨rfl, hw⟩⟩

/-- All cells are integers of the kind q. -/
def Ints (q : IntKind) (cs : List Value) : Prop := ∃ zs : List Int, cs = zs.map (Value.int q) ∧ ∀ z ∈ zs, (Lit.int q z).wf = true
theorem ints_of {q : IntKind} : ∀ (cs : List Value), (∀ i, i < cs.length → ∃ z, cs[i]? = some (.int q z) ∧ (Lit.int q z).wf = true) → Ints q cs
  | [], _ => ⟨[], rfl, by intro z hz; cases hz⟩
  | c :: r, h => by
    obtain ⟨z, hz, hw⟩ := h 0 (by simp)
    obtain ⟨zs, e, hzs⟩ := ints_of r (fun i hi => h (i + 1) (by simpa using hi))
    refine ⟨z :: zs, by simp at hz; rw [hz, e]; rfl, fun y hy => ?_⟩
    rcases List.mem_cons.1 hy with rfl | hy
    · exact hw
    · exact hzs y hy

theorem arrLits {t e : TypeId} {n : Nat} (hu : P.underlying t = some (.array n e)) (he : P.underlying e = some (.int q)) (hc : P.cellsOf e = 1) (hn : P.cellsOf t = n) {d : Nat} {cs : List Value} {l : List Lit} (h : P.keyLits d t cs = some l) : cs.length = n ∧ Ints q cs := by
  cases d with
  | zero => simp [Program.keyLits] at h
  | succ d =>
    unfold Program.keyLits at h
    rw [hu] at h
    simp only [hn, hc] at h
    split at h
    · rename_i hl
      cases hm : (List.range n).mapM (fun i => P.keyLits d e ((cs.drop (i * 1)).take 1)) with
      | none => rw [hm] at h; cases h
      | some ys =>
        refine ⟨hl, ints_of cs fun i hi => ?_⟩
        obtain ⟨a, ha⟩ := mapM_each hm i (List.mem_range.2 (by omega))
        obtain ⟨z, hz, hw⟩ := intLits he ha
        refine ⟨z, ?_, hw⟩
        have h1 := congrArg (fun xs => xs[0]?) hz
        simpa using h1
    · cases h
theorem arrLits_mk {t e : TypeId} {n : Nat} (hu : P.underlying t = some (.array n e)) (he : P.underlying e = some (.int q)) (hc : P.cellsOf e = 1) (hn : P.cellsOf t = n) (d : Nat) {cs : List Value} (hl : cs.length = n) (h : Ints q cs) : ∃ l, P.keyLits (d + 2) t cs = some l := by
  obtain ⟨zs, rfl, hw⟩ := h
  rw [List.length_map] at hl
  unfold Program.keyLits
  rw [hu]
  simp only [hn, hc, List.length_map, hl, if_true]
  obtain ⟨ys, has⟩ := mapM_mk (f := fun i => P.keyLits (d + 1) e (((zs.map (Value.int q)).drop (i * 1)).take 1)) (L := List.range n) (fun i hi => by
    have hi' : i < zs.length := by have := List.mem_range.1 hi; omega
    have e1 : ((zs.map (Value.int q)).drop (i * 1)).take 1 = [.int q zs[i]] := by
      rw [Nat.mul_one, ← List.map_drop, ← List.map_take, List.drop_eq_getElem_cons hi']
      rfl
    rw [e1]
    exact intLits_mk he d _ (hw _ (List.getElem_mem hi')))
  rw [has]
  exact ⟨_, rfl⟩
end
end Go.Proofs.Ytgalfhdeldjmpaa
end
section
namespace Go.Proofs.Ytgalfhdeldjmpaa
open Go.RowKit Go.Maps
set_option linter.unusedVariables false
set_option maxRecDepth 100000

theorem litsP {d : Nat} {cs : List Value} {l : List Lit} (h : Try.prog.keyLits d 64 cs = some l) : cs.length = 8 ∧ Ints .u8 cs := arrLits Try.underlying64 Try.underlying5 (by kernel_rfl) (by kernel_rfl) h

theorem litsP_mk (d : Nat) {cs : List Value} (hl : cs.length = 8) (h : Ints .u8 cs) : ∃ l, Try.prog.keyLits (d + 3) 64 cs = some l := arrLits_mk Try.underlying64 Try.underlying5 (by kernel_rfl) (by kernel_rfl) (d + 1) hl h

/-- Whatever reads as a key is one. -/
theorem keyP_inv {v : Value} {l : Lit} (h : keyOf Try.prog 64 v = some l) : ∃ k, v = .agg k ∧ KOKP k := by
  obtain ⟨xs, L, rfl, hL, _⟩ := keyOf_top (by kernel_rfl) h
  obtain ⟨h1, zs, h2, _⟩ := litsP hL
  refine ⟨xs, rfl, ⟨zs, ?_, ?_⟩, l, h⟩
  · rw [h2, List.length_map] at h1; exact h1
  · rw [← h2]

theorem keyP_mk (zs : List Int) (hl : zs.length = 8) (hw : ∀ z ∈ zs, (Lit.int .u8 z).wf = true) : KOKP (zs.map (Value.int .u8)).toArray := by
  refine ⟨⟨zs, hl, rfl⟩, ?_⟩
  obtain ⟨L, hL⟩ := litsP_mk (Try.prog.types.size - 2) (cs := zs.map (Value.int .u8)) (by rw [List.length_map]; exact hl) ⟨zs, rfl, hw⟩
  have hts : Try.prog.types.size - 2 + 3 = Try.prog.types.size + 1 := by kernel_rfl
  rw [hts] at hL
  have hk : Try.prog.keyType 64 = true := by kernel_rfl
  have hf : (Value.agg (zs.map (Value.int .u8)).toArray).formed Try.prog 64 = true := by
    have hc : Try.prog.cellsOf 64 = 8 := by kernel_rfl
    simp [Value.formed, Try.underlying64, hc, hl]
  refine ⟨.string (keyBytes L), ?_⟩
  unfold keyOf
  rw [Try.underlying64]
  simp only [hk, hf, Bool.and_self, if_true]
  have e : (Value.agg (zs.map (Value.int .u8)).toArray).cells.toList = zs.map (Value.int .u8) := by simp [Value.cells]
  rw [e, hL]
  rfl
end Go.Proofs.Ytgalfhdeldjmpaa
end
section
namespace Go.Proofs.Ytgalfhdeldjmpaa
open Go.RowKit Go.Maps Go.Shelf
set_option linter.unusedVariables false
set_option maxRecDepth 100000

theorem ldKIP {F : Fence} {n : Nat} {ops : Array Oper} {rest : List Oper} {o : Oper} {a : Act} {w : World} {Q : Exit → Act → World → Prop} (hgd : o.guard = none) (x : Operand) (ho : o.op = .load 64 x)
    (b p : Nat) (hx : a.eval x = .pointer (some ⟨b, p, none⟩)) (k : Array Value) (hc : w.rangeAt b p k.toList) (hs : k.size = 8) (h : wpListIn F n Try.prog ops Q rest (a.put o.dst (.agg k)) w) : wpListIn F n Try.prog ops Q (o :: rest) a w := by
  refine wpListIn_plain hgd fun K' hK' => ?_
  unfold Oper.wpIn
  refine ⟨?_, ?_⟩
  · simp [Oper.about, ho]
  · rw [Oper.semAt_plain F _ _ (by rw [ho]; intro c hc'; cases hc')]
    unfold execOp
    simp only [ho, hx, loadP w b p k hc hs, Sem.run_bind, Sem.run_pure, Result.andThen_ok]
    exact hK' _ _ h
theorem stKIP {F : Fence} {n : Nat} {ops : Array Oper} {rest : List Oper} {o : Oper} {a : Act} {Q : Exit → Act → World → Prop} (w : World) (hgd : o.guard = none) (x y : Operand) (ho : o.op = .store 64 x y)
    (hx : a.eval x = .pointer (some ⟨w.heap.size, 0, none⟩)) (k : Array Value) (hy : a.eval y = .agg k) (hs : k.size = 8) (h1 : k.all (·.oneCell') = true)
    (h : wpListIn F n Try.prog ops Q rest (a.put o.dst undef) (w.alloc (.cells k 64))) : wpListIn F n Try.prog ops Q (o :: rest) a (w.alloc (.cells #[Value.int .u8 0, Value.int .u8 0, Value.int .u8 0, Value.int .u8 0, Value.int .u8 0, Value.int .u8 0, Value.int .u8 0, Value.int .u8 0] 64)) := by
  refine wpListIn_plain hgd fun K' hK' => ?_
  unfold Oper.wpIn
  refine ⟨?_, ?_⟩
  · simp [Oper.about, ho]
  · rw [Oper.semAt_plain F _ _ (by rw [ho]; intro c hc'; cases hc')]
    unfold execOp
    simp only [ho, hx, hy, run_storeAt_new (P := Try.prog) w 64 #[Value.int .u8 0, Value.int .u8 0, Value.int .u8 0, Value.int .u8 0, Value.int .u8 0, Value.int .u8 0, Value.int .u8 0, Value.int .u8 0] k (by rw [sizeP, hs]) (by rw [hs]; rfl) h1, Sem.run_bind, Sem.run_pure, Result.andThen_ok]
    exact hK' _ _ h

/-- A key. -/
abbrev KTP := { k : Array Value // KOKP k }

/-- What has come of the keys. -/
def GotP (D0 : DataW Unit) (left : Lit → Bool) (ss : List KTP) : Prop := ss.Nodup ∧ ∀ (k : KTP) l, keyOf Try.prog 64 (.agg k.1) = some l → (k ∈ ss ↔ (has D0 l = true ∧ left l = false))
theorem GotP.start (D0 : DataW Unit) : GotP D0 (has D0) [] := ⟨List.nodup_nil, fun k l _ => by cases has D0 l <;> simp⟩
theorem GotP.step {D0 : DataW Unit} {left : Lit → Bool} {ss : List KTP} (h : GotP D0 left ss) {x : KTP} {kl : Lit} (hx : keyOf Try.prog 64 (.agg x.1) = some kl) {y : DataW Unit} (hlk : left kl = true) (hat : ∀ zd, D0.atKey kl zd = y) :
    GotP D0 (fun z => left z && !z.sameKey kl) (ss ++ [x]) := by
  have hhas : has D0 kl = true := has_true_of_atKey hat
  have hnew : x ∉ ss := fun hm => by have := ((h.2 x kl hx).1 hm).2; rw [hlk] at this; cases this
  refine ⟨List.nodup_append.2 ⟨h.1, by simp, fun a ha b hb => by simp at hb; subst hb; exact fun e => hnew (e ▸ ha)⟩, fun k l hk => ?_⟩
  by_cases e : k = x
  · subst e
    rw [hx] at hk
    cases hk
    simp [hhas, WideAt.sameKey_self (keyedP.key hx)]
  · have hne : l.sameKey kl = false := by
      cases hs : l.sameKey kl with
      | false => rfl
      | true =>
        have e1 := WideAt.sameKey_eq hs
        subst e1
        exact absurd (Subtype.ext (by have := keyedP.inj hk hx; simpa using this)) e
    simp [h.2 k l hk, e, hne]

set_option maxHeartbeats 1000000 in
theorem keysItP (F : Fence) (n : Nat) (hF : F.fn 85) (hro : F.round = none) (hn : 1 ≤ n) (l Bm b nn : Nat) (D0 : DataW Unit) (J Jx : List KTP → World → Prop)
    (hY : ∀ pre x W, J pre W → pre.length < Maps.size D0 → YieldAt F (n - 1) Try.prog l #[.agg x.1] W fun e W' => (e = .returned (.bool true) ∧ J (pre ++ [x]) W' ∧ KeepsWalks W W') ∨ (e = .returned (.bool false) ∧ Jx (pre ++ [x]) W'))
    (W : World) (hJ : AbidesFrom W.heap.size J) (hm : W.cell? ⟨Bm, 0, none⟩ = some (.map (some b))) (hown : W.ownsMap Try.prog 64 (plainElem Try.prog 4) b nn D0) (h0 : J [] W) :
    CallsIn F n Try.prog 85 #[.func (.yield l) #[] #[], .pointer (some ⟨Bm, 0, none⟩)] W fun e W' => (∃ v, e = .returned v) ∧
      ((∃ ss : List KTP, (ss.Nodup ∧ ∀ (k : KTP) l, keyOf Try.prog 64 (.agg k.1) = some l → (k ∈ ss ↔ has D0 l = true)) ∧ J ss W') ∨ (∃ pre : List KTP, True ∧ Jx pre W')) := by
  refine callsIn_of_wp Try.func85 rfl hF ?_ hro
  simp only [Try.ntmps85, List.size_toArray, List.length_cons, List.length_nil, Nat.reduceAdd, Nat.reduceSub, Array.replicate_succ, Array.replicate_zero, List.push_toArray, List.append_toArray, List.nil_append, List.cons_append]
  gi_wp2_with (first
    | (gi_at_range; refine wpListIn_range_own _ rfl _ 90 rfl 64 4 keyedP Try.underlying90 _ b nn _ rfl hown ?_; intro w0 hrg0 hg0 hs0)
    | gi_in)
  go_frame
  gi_loopw [3] (fun _ wr => ∃ (left : Lit → Bool) (cnt : Nat) (ss : List KTP), wr.ranges Try.prog 64 (plainElem Try.prog 4) b W.heap.size nn D0 left cnt ∧ ss.length + cnt ≤ Maps.size D0 ∧ GotP D0 left ss ∧ J ss wr)
    (fun _ wr => wr.rangeLeft b W.heap.size)
  case atStart =>
    exact ⟨_, _, [], hrg0, by simp, GotP.start D0, hJ [] W w0 none h0 hg0 (fun r e => by cases e)⟩
  case round =>
    obtain ⟨left, cnt, ss, hrg, hcs, hC, hJs⟩ := hrel
    gi_wp2_with (first
      | (gi_at_next; refine wpListIn_next_ranges _ rfl _ rfl 64 keyedP (plainElem Try.prog 4) (fun x : KTP => .agg x.1) id (fun key kl hk => by obtain ⟨k, e, hk'⟩ := keyP_inv hk; exact ⟨⟨k, hk'⟩, e⟩) (fun v _ _ => ⟨v, rfl⟩) b W.heap.size nn _ _ _ rfl hrg ?_ ?_)
      | gi_in)
    · intro hc0 hl0
      gi_wp2
      go_end0
      exact ⟨⟨_, rfl⟩, .inl ⟨ss, ⟨hC.1, fun k l hk => by rw [hC.2 k l hk, hl0]; simp⟩, hJs⟩⟩
    · intro k hk c kl yd yp w2 cnt2 hkey hlk hv hat hrg2 hlt hg2 hs2 hen
      have hC2 := hC.step (x := ⟨k, hk⟩) hkey hlk hat
      have hJ2 : J ss w2 := hJ ss wr w2 (some W.heap.size) hJs hg2 (fun r e => by cases e; exact ⟨Nat.le_refl _, hrg.iter_walk⟩)
      have hJ3 : J ss (w2.alloc (.cells k 64)) := hJ ss w2 _ none hJ2 (World.grownBy_alloc w2 _ none) (fun r e => by cases e)
      have hrg3 := hrg2.alloc (.cells k 64)
      obtain ⟨fn, tmps, assign, body, hy, hR⟩ := hY ss ⟨k, hk⟩ _ hJ3 (by omega)
      have HSZ := Lib.hid hk.size
      have HONE := Lib.hid hk.one
      have HNW := Lib.hid (loadNewP w2 k HSZ.out)
      clear hs2
      gi_wp2_with (first
        | (refine ldKIP rfl _ rfl w2.heap.size 0 rfl k HNW.out HSZ.out ?_)
        | (refine stKIP w2 rfl _ _ rfl rfl k rfl HSZ.out HONE.out ?_))
      refine hR.mono ?_
      rintro e W3 (⟨rfl, hJ3', hk3⟩ | ⟨rfl, hJx3⟩)
      · gi_wp2
        have hrg4 := hrg3.of_walks hk3
        go_roundw
        case rel => exact ⟨_, cnt2, ss ++ [⟨k, hk⟩], hrg4, by simp; omega, hC2, hJ3'⟩
        case measure => rw [hrg4.left_eq, hrg.left_eq]; exact hlt
      · gi_wp2
        refine bodyPost_ret (results_none rfl _ _ _) rfl ?_
        exact ⟨⟨_, rfl⟩, .inr ⟨ss ++ [⟨k, hk⟩], trivial, hJx3⟩⟩

/-- **maps.Keys(m) hands back a value that 'SeqStops'.** -/
theorem keysStopsP (F : Fence) (n : Nat) (hF : F.fn 85) (hro : F.round = none) (hn : 1 ≤ n) (Bm b nn : Nat) (D0 : DataW Unit) (w : World) (hBm : Bm < w.heap.size)
    (hm : w.cell? ⟨Bm, 0, none⟩ = some (.map (some b))) (hown : w.ownsMap Try.prog 64 (plainElem Try.prog 4) b nn D0) :
    SeqStopsK F n Try.prog 85 #[.pointer (some ⟨Bm, 0, none⟩)] (fun x : KTP => #[Value.agg x.1]) KeepsWalks (fun ss => ss.Nodup ∧ ∀ (k : KTP) l, keyOf Try.prog 64 (.agg k.1) = some l → (k ∈ ss ↔ has D0 l = true)) (fun _ => True) (Maps.size D0) w := fun l J Jx W hW hJ _ hY h0 => by
  have hown' : W.ownsMap Try.prog 64 (plainElem Try.prog 4) b nn D0 := by
    have hbl := hown.lt
    obtain ⟨es, clock, hb, Ft, hs, hD⟩ := hown
    exact ⟨es, clock, (hW.block b hbl).trans hb, Ft, hs, hD⟩
  exact keysItP F n hF hro hn l Bm b nn D0 J Jx hY W hJ ((hW.cell (p := ⟨Bm, 0, none⟩) hBm).trans hm) hown' h0
end Go.Proofs.Ytgalfhdeldjmpaa
end
