/-
  Joined: PSt, PRst.
-/
import Derived.Test.YtnmilkehggjpfaaZBMil25
import Derived.Test.YtnmilkehggjpfaaZBMil03
import Derived.Test.YtnmilkehggjpfaaZBMil07
section
namespace Go.Proofs.Ytnmilkehggjpfaa
open Go.RowKit
set_option linter.unusedVariables false
set_option maxRecDepth 100000

theorem OffB.put (W : World) (q : Nat) (o : Obj) : OffB q W (W.putObj q o) := ⟨rfl, rfl, rfl, World.putObj_size, fun b hb => World.putObj_heap_other hb⟩

structure TmSt (w : World) (va vb : Value) (DD : List Nat) (S : Value) (VS : Nat → Value) (A : List (List Int)) (W : World) : Prop where
  bel : Below w.heap.size w W
  bA : Box1 W w.heap.size 45 va
  bB : Box1 W (w.heap.size + 1) 45 vb
  bR : Box1 W (w.heap.size + 2) 45 (.slice none 0 0)
  bT : Box1 W (w.heap.size + 3) 22 S
  fam : FamL W (w.heap.size + 4) S VS A
  mks : MarksAll DD W
  low : ∀ D ∈ DD, w.heap.size + 4 ≤ D ∧ D < W.heap.size
  nd : DD.Nodup

/-- Block q is none of its rows'. -/
def Free (S : Value) (VS : Nat → Value) (n q : Nat) : Prop := S.ownBlock ≠ some q ∧ ∀ i, i < n → (VS i).ownBlock ≠ some q

section
variable {w : World} {va vb : Value} {DD : List Nat} {S : Value} {VS : Nat → Value} {A : List (List Int)} {W W' : World}
theorem TmSt.big (h : TmSt w va vb DD S VS A W) : w.heap.size + 4 ≤ W.heap.size := by have := h.bT.lt; omega
theorem MarksAll.up (h : MarksAll DD W) (k : Below W.heap.size W W') : MarksAll DD W' := fun D hD => (k.block D (Array.getElem?_eq_some_iff.1 (h D hD)).1).trans (h D hD)
theorem TmSt.up (h : TmSt w va vb DD S VS A W) (k : Below W.heap.size W W') : TmSt w va vb DD S VS A W' :=
  ⟨h.bel.step1 k, h.bA.up k, h.bB.up k, h.bR.up k, h.bT.up k, Fam.below h.fam k, h.mks.up k, fun D hD => ⟨(h.low D hD).1, Nat.lt_of_lt_of_le (h.low D hD).2 k.size⟩, h.nd⟩
theorem TmSt.off {q : Nat} (h : TmSt w va vb DD S VS A W) (k : OffB q W W') (hq : w.heap.size + 4 ≤ q) (hd : q ∉ DD) (hf : Free S VS A.length q) : TmSt w va vb DD S VS A W' := by
  refine ⟨⟨k.os.trans h.bel.os, k.tape.trans h.bel.tape, k.output.trans h.bel.output, by rw [k.size]; exact h.bel.size, fun b hb => (k.block b (by omega)).trans (h.bel.block b hb)⟩,
    (k.block _ (by omega)).trans h.bA, (k.block _ (by omega)).trans h.bB, (k.block _ (by omega)).trans h.bR, (k.block _ (by omega)).trans h.bT, ⟨?_, fun i hi => ?_⟩, fun D hD => (k.block D (fun e => hd (e ▸ hD))).trans (h.mks D hD), fun D hD => by rw [k.size]; exact h.low D hD, h.nd⟩
  · exact own_sameblock h.fam.out fun g hg => k.block g fun e => hf.1 (e ▸ hg)
  · exact own_sameblock (h.fam.inn i hi) fun g hg => k.block g fun e => hf.2 i hi (e ▸ hg)
theorem TmSt.free_obj {q : Nat} {o : Obj} (h : TmSt w va vb DD S VS A W) (hq : W.heap[q]? = some o) (ho : o.isCells = false) : Free S VS A.length q :=
  ⟨own_ne_obj h.fam.out hq ho, fun i hi => own_ne_obj (h.fam.inn i hi) hq ho⟩
theorem TmSt.free_new {q : Nat} (h : TmSt w va vb DD S VS A W) (hq : W.heap.size ≤ q) : Free S VS A.length q :=
  ⟨fun e => by have := (h.fam.out.lt q e).2; omega, fun i hi e => by have := ((h.fam.inn i hi).lt q e).2; omega⟩
theorem TmSt.put {q : Nat} {o : Obj} (h : TmSt w va vb DD S VS A W) (hq : W.heap[q]? = some o) (ho : o.isCells = false) (h4 : w.heap.size + 4 ≤ q) (hd : q ∉ DD) (o' : Obj) : TmSt w va vb DD S VS A (W.putObj q o') :=
  h.off (OffB.put W q o') h4 hd (h.free_obj hq ho)
theorem TmSt.mark {D : Nat} (h : TmSt w va vb DD S VS A W) (hm : W.heap[D]? = some (.deferred (some []))) (h4 : w.heap.size + 4 ≤ D) (hd : D ∉ DD) : TmSt w va vb (D :: DD) S VS A W :=
  ⟨h.bel, h.bA, h.bB, h.bR, h.bT, h.fam, fun E hE => (List.mem_cons.1 hE).elim (fun e => e ▸ hm) (h.mks E), fun E hE => (List.mem_cons.1 hE).elim (fun e => e ▸ ⟨h4, (Array.getElem?_eq_some_iff.1 hm).1⟩) (h.low E), List.nodup_cons.2 ⟨hd, h.nd⟩⟩
/-- A result more. -/
theorem TmSt.app {W1 W3 : World} {u S' : Value} {x : List Int} {q : Nat} (h : TmSt w va vb DD S VS A W) (hb : Below W.heap.size W W1) (hu : W1.ownsRow W.heap.size 2 1 u x.length (x.map (Value.int .i64)))
    (ho : W3.ownsRow (w.heap.size + 4) 65 1 S' (A.length + 1) ((List.range A.length).map VS ++ [u])) (hg : (W1.alloc (.cells #[u] 65)).grownBy W3 S.ownBlock) (hl : S'.ownBlock = S.ownBlock ∨ S'.ownBlock = some (W1.heap.size + 1))
    (hf : Free S VS A.length q) (hq : q < W.heap.size) :
    Box1 W3 (w.heap.size + 3) 22 S ∧ TmSt w va vb DD S' (ext VS A.length u) (A ++ [x]) (W3.setCell ⟨w.heap.size + 3, 0, none⟩ S') ∧ Free S' (ext VS A.length u) (A ++ [x]).length q ∧
      KeepsFrom (w.heap.size + 4) W (W3.setCell ⟨w.heap.size + 3, 0, none⟩ S') ∧ W.heap.size ≤ W3.heap.size ∧ ∀ b, b < W.heap.size → S.ownBlock ≠ some b → b ≠ w.heap.size + 3 → (W3.setCell ⟨w.heap.size + 3, 0, none⟩ S').heap[b]? = W.heap[b]? := by
  have h1 := h.up hb
  have hbig := h.big
  have hb2 : Below W1.heap.size W1 (W1.alloc (.cells #[u] 65)) := (Below.refl _ W1).alloc (Nat.le_refl _) _
  have hS2 := own_below h1.fam.out hb2
  have K3 : KeepI none W1 W3 := (KeepI.below hb2 none).trans (KeepI.row hS2 hg none)
  have N3 := K3.own (own_base hu hbig) (Classical.em _)
  have F3 : FamL W3 (w.heap.size + 4) S' (ext VS A.length u) (A ++ [x]) := FamL.push h1.fam (fun _ _ => Classical.em _) K3 ho N3 rfl
  have s1 := hb.size
  have s3 : W1.heap.size + 1 ≤ W3.heap.size := by have := hg.size; simpa using this
  have blk : ∀ b, b < W1.heap.size → S.ownBlock ≠ some b → W3.heap[b]? = W1.heap[b]? := fun b hb1 hne => by
    rw [hg.block b (by simp; omega) (fun e => hne e.symm), heap_alloc_old _ _ hb1]
  have nb : ∀ b, b < w.heap.size + 4 → S.ownBlock ≠ some b := fun b hb1 e => by have := (h.fam.out.lt b e).1; omega
  have bx : ∀ {g : Nat} {t : TypeId} {v : Value}, g < w.heap.size + 4 → Box1 W1 g t v → Box1 W3 g t v := fun hg' hB => (blk _ hB.lt (nb _ hg')).trans hB
  have kT := OffB.set (w.heap.size + 3) W3 0 S'
  have bT3 := bx (by omega) h1.bT
  have hgn := h.free_new (q := W.heap.size) (Nat.le_refl _)
  refine ⟨bT3, ⟨?_, (kT.block _ (by omega)).trans (bx (by omega) h1.bA), (kT.block _ (by omega)).trans (bx (by omega) h1.bB), (kT.block _ (by omega)).trans (bx (by omega) h1.bR), bT3.set S', ?_, fun D hD => ?_, fun D hD => ?_, h.nd⟩, ⟨?_, ?_⟩, ⟨?_, ?_⟩, by omega, ?_⟩
  · refine ⟨kT.os.trans (hg.os.trans h1.bel.os), kT.tape.trans (hg.tape.trans h1.bel.tape), kT.output.trans (hg.output.trans h1.bel.output), by rw [kT.size]; have := h1.bel.size; omega, fun b hb1 => ?_⟩
    rw [kT.block b (by omega), blk b (by omega) (nb b (by omega))]
    exact h1.bel.block b hb1
  · exact Fam.same F3 fun g hg1 _ => kT.block g (by omega)
  · have hl1 := h1.low D hD
    rw [kT.block D (by omega), blk D hl1.2 (own_ne_obj h1.fam.out (h1.mks D hD) rfl)]
    exact h1.mks D hD
  · have hl1 := h.low D hD
    rw [kT.size]; omega
  · rcases hl with e | e
    · rw [e]; exact hf.1
    · rw [e]; intro e2; have := Option.some.inj e2; omega
  · intro i hi
    rw [List.length_append, List.length_singleton] at hi
    by_cases c : i < A.length
    · rw [ext, if_pos c]; exact hf.2 i c
    · rw [ext, if_neg c]
      intro e2
      have := (hu.lt q e2).1
      omega
  · rw [kT.size]; omega
  · intro k o hk ho1 hc
    have hlt := (Array.getElem?_eq_some_iff.1 ho1).1
    rw [kT.block k (by omega), blk k (by omega) (own_ne_obj h.fam.out ho1 hc), hb.block k hlt]
    exact ho1
  · intro b hb1 hne hb3
    rw [kT.block b hb3, blk b (by omega) hne, hb.block b hb1]
theorem TmSt.start (w : World) (va vb : Value) : TmSt w va vb [] (.slice none 0 0) (fun _ => undef) [] ((((w.alloc (.cells #[va] 45)).alloc (.cells #[vb] 45)).alloc (.cells #[.slice none 0 0] 45)).alloc (.cells #[.slice none 0 0] 22)) := by
  refine ⟨((((Below.refl w.heap.size w).alloc (Nat.le_refl _) _).alloc (by simp) _).alloc (by simp; omega) _).alloc (by simp; omega) _, (((Box1.new w _ _).alloc _).alloc _).alloc _, ?_, ?_, ?_, ⟨World.ownsRow_nil _ _ _ _, fun i hi => absurd hi (Nat.not_lt_zero _)⟩, fun D hD => absurd hD List.not_mem_nil, fun D hD => absurd hD List.not_mem_nil, List.nodup_nil⟩
  · have := ((Box1.new (w.alloc (.cells #[va] 45)) 45 vb).alloc (.cells #[.slice none 0 0] 45)).alloc (.cells #[.slice none 0 0] 22)
    simpa using this
  · have := (Box1.new ((w.alloc (.cells #[va] 45)).alloc (.cells #[vb] 45)) 45 (.slice none 0 0)).alloc (.cells #[.slice none 0 0] 22)
    simpa using this
  · have := Box1.new (((w.alloc (.cells #[va] 45)).alloc (.cells #[vb] 45)).alloc (.cells #[.slice none 0 0] 45)) 22 (.slice none 0 0)
    simpa using this
end

/-! ### The counter's tables -/
/-- All tables of a product, in the counter's order. -/
def cTabs (r s : List Int) : List Tab := allE posI (T0 r s)
structure CTab (r s : List Int) (L : List Tab) : Prop where
  pos : 0 < L.length
  first : tabOf L 0 = T0 r s
  next : ∀ k, k < L.length → advG posI (tabOf L k) = if k + 1 < L.length then tabOf L (k + 1) else T0 r s
  other : ∀ k, 0 < k → k < L.length → sameTab (tabOf L k) (T0 r s) = false
  small : ∀ k, k < L.length → ∀ a b, 0 ≤ tabOf L k a b ∧ tabOf L k a b ≤ 1000000
  res : L.filterMap resI = cntL r s
theorem tabOf_mem {L : List Tab} {k : Nat} (hk : k < L.length) : tabOf L k ∈ L := by
  unfold tabOf
  rw [List.getElem?_eq_getElem hk]
  exact List.getElem_mem hk
theorem ctab_gen (ps : List (Nat × Nat)) (e : ps = posI) {r s : List Int} (hr : goodE r) (hs : goodE s) : CTab r s (allE ps (T0 r s)) := by
  have hin : ∀ p ∈ ps, inP p := fun p h => posI_in p (e ▸ h)
  have hnd : ps.Nodup := e ▸ posI_nodup
  have h0 : ∀ p ∈ ps, T0 r s p.1 p.2 = 0 := fun p h => T0_pos r s p (e ▸ h)
  obtain ⟨l, el, hl⟩ := allE_head ps (T0 r s) hin hnd (T0_ok hr hs) h0
  have hst := steps_next (allE ps (T0 r s)) (allE_steps ps (T0 r s) hin hnd (T0_ok hr hs) h0)
  refine ⟨by rw [el]; simp, by rw [el]; rfl, fun k hk => by rw [← e]; exact hst k hk, fun k h1 h2 => ?_, fun k hk a b => ?_, by rw [e]; rfl⟩
  · obtain ⟨k', rfl⟩ : ∃ k', k = k' + 1 := ⟨k - 1, by omega⟩
    have hm : tabOf (allE ps (T0 r s)) (k' + 1) ∈ l := by
      rw [el] at h2 ⊢
      have : tabOf (T0 r s :: l) (k' + 1) = tabOf l k' := rfl
      rw [this]
      exact tabOf_mem (by simpa using h2)
    obtain ⟨p, hp, hne⟩ := hl _ hm
    have hp5 := posI_low p (e ▸ hp)
    cases c : sameTab (tabOf (allE ps (T0 r s)) (k' + 1)) (T0 r s) with
    | false => rfl
    | true =>
      have := (sameTab_iff _ _).1 c p.1 (by omega) p.2 (by omega)
      rw [h0 p hp] at this
      exact absurd this hne
  · exact (tabs_nice hr hs ps e _ (tabOf_mem hk)).sm a b
theorem ctab {r s : List Int} (hr : goodE r) (hs : goodE s) : CTab r s (cTabs r s) := ctab_gen posI rfl hr hs

/-- The range's word. -/
theorem tabs_seq {r s : List Int} {L : List Tab} (hL : CTab r s L) (lr : r.length ≤ 5) (ls : s.length ≤ 5) (br bs : Nat) (vr vs : Value) (w : World) (hbr : Box1 w br 65 vr) (hbs : Box1 w bs 65 vs) (hr : RdI w vr r.length (fun j => r[j]?.getD 0)) (hs : RdI w vs s.length (fun j => s[j]?.getD 0)) :
    SeqT Try.prog 160 #[.pointer (some ⟨br, 0, none⟩), .pointer (some ⟨bs, 0, none⟩)] L.length (encT L) w := fun l J Jx W hW J0b Jo hY h0 =>
  tabs_in Fence.wide 2 trivial trivial trivial rfl (by omega) l br bs vr vs (T0 r s) W (hbr.up hW) (hbs.up hW) (callsIn_wide.2 (first_any vr vs r s W (hr.below hW) (hs.below hW) lr ls)) L hL.pos hL.first hL.next hL.other
    (fun k w hk ht => callsIn_wide.2 (advance_any _ _ w ht (hL.small k hk))) J Jx J0b Jo hY h0

/-! ### The results are short lists of small numbers -/
theorem trimTo_sub (l : List Int) : ∀ j, ∃ i, trimTo l j = l.take i
  | 0 => ⟨0, rfl⟩
  | j + 1 => by
    unfold trimTo
    split
    · exact trimTo_sub l j
    · exact ⟨j + 1, rfl⟩
theorem dia_small {T : Tab} (hT : ∀ a b, 0 ≤ T a b ∧ T a b ≤ 1000000) (k : Nat) : ∀ z ∈ dia T k, 0 ≤ z ∧ z ≤ 1000000 := fun z hz => by
  obtain ⟨a, b, e⟩ := dia_mem hz
  rw [e]; exact hT a b
theorem resI_ok {T : Tab} (hT : ∀ a b, 0 ≤ T a b ∧ T a b ≤ 1000000) {x : List Int} (h : resI T = some x) : x.length ≤ 5 ∧ ∀ z ∈ x, 0 ≤ z ∧ z ≤ 10000000 := by
  unfold resI at h
  split at h
  · cases h
    obtain ⟨i, e⟩ := trimTo_sub ((List.range 5).map fun k => sm (dia T (k + 1))) ((List.range 5).map fun k => sm (dia T (k + 1))).length
    unfold trim
    rw [e]
    refine ⟨by rw [List.length_take, List.length_map, List.length_range]; omega, fun z hz => ?_⟩
    obtain ⟨k, hk, rfl⟩ := List.mem_map.1 (List.mem_of_mem_take hz)
    have hk5 := List.mem_range.1 hk
    have hl : (dia T (k + 1)).length = k + 2 := by simp [dia]
    have := smTo_bound (dia_small hT (k + 1)) (dia T (k + 1)).length (Nat.le_refl _)
    unfold sm
    rw [hl] at this ⊢
    omega
  · cases h
theorem cntL_ok {r s : List Int} (hr : goodE r) (hs : goodE s) : ∀ x ∈ cntL r s, x.length ≤ 5 ∧ ∀ z ∈ x, 0 ≤ z ∧ z ≤ 10000000 := fun x hx => by
  obtain ⟨y, hy, e⟩ := List.mem_filterMap.1 hx
  exact resI_ok (tabs_nice hr hs posI rfl y hy).sm e
theorem call_ok {X Y : Nat → List Int} {p q : Nat} (hX : okMl X p) (hY : okMl Y q) : ∀ x ∈ call X Y q p, x.length ≤ 5 ∧ ∀ z ∈ x, 0 ≤ z ∧ z ≤ 10000000 := fun x hx => by
  obtain ⟨i, hi, hx⟩ := List.mem_flatMap.1 hx
  obtain ⟨k, hk, hx⟩ := List.mem_flatMap.1 hx
  exact cntL_ok (hX.2 i (List.mem_range.1 hi)).1 (hY.2 k (List.mem_range.1 hk)).1 x hx
theorem call_all_few {X Y : Nat → List Int} {p q : Nat} (hX : okMl X p) (hY : okMl Y q) (hd : 0 < p → 0 < q → dgL (X 0) + dgL (Y 0) ≤ 40) : (call X Y q p).length ≤ 15000 := by
  cases p with
  | zero => simp [call]
  | succ p =>
    have := call_few hX hY hd p q (by omega) (Nat.le_refl _)
    rw [call_succ]
    exact this

theorem tablesOf_any (ar as' : Option Addr) (nr ns cr cs : Nat) (w : World) : Calls Try.prog 136 #[.slice ar nr cr, .slice as' ns cs] w fun e w' => e = .returned (.func (.func 160) #[] #[.pointer (some ⟨w.heap.size, 0, none⟩), .pointer (some ⟨w.heap.size + 1, 0, none⟩)]) ∧
    w' = (w.alloc (.cells #[.slice ar nr cr] 65)).alloc (.cells #[.slice as' ns cs] 65) := by
  go_enter Try.func136, Try.ntmps136
  go_wp2_with fail
  go_ret
  exact ⟨rfl, rfl⟩
end Go.Proofs.Ytnmilkehggjpfaa
end
section
namespace Go.Proofs.Ytnmilkehggjpfaa
open Go.RowKit
set_option linter.unusedVariables false
set_option maxRecDepth 100000

noncomputable def tabTo (L : List Tab) (k : Nat) : List (List Int) := (L.take k).filterMap resI
theorem tabTo_zero (L : List Tab) : tabTo L 0 = [] := rfl
theorem tabTo_all (L : List Tab) : tabTo L L.length = L.filterMap resI := by unfold tabTo; rw [List.take_length]
theorem take_tab {L : List Tab} {k : Nat} (hk : k < L.length) : L.take (k + 1) = L.take k ++ [tabOf L k] := by
  rw [List.take_succ_eq_append_getElem hk]
  unfold tabOf
  rw [List.getElem?_eq_getElem hk]
  rfl
theorem tabTo_none {L : List Tab} {k : Nat} (hk : k < L.length) (h : resI (tabOf L k) = none) : tabTo L (k + 1) = tabTo L k := by
  unfold tabTo
  rw [take_tab hk, List.filterMap_append, List.filterMap_cons_none h]
  simp
theorem tabTo_some {L : List Tab} {k : Nat} (hk : k < L.length) {x : List Int} (h : resI (tabOf L k) = some x) : tabTo L (k + 1) = tabTo L k ++ [x] := by
  unfold tabTo
  rw [take_tab hk, List.filterMap_append, List.filterMap_cons_some h]
  simp
theorem tabTo_len (L : List Tab) (k : Nat) : (tabTo L k).length ≤ (L.filterMap resI).length := by
  unfold tabTo
  exact ((List.take_sublist k L).filterMap resI).length_le

/-- What holds when k rounds are over; n0: how many blocks there were ahead of the range. -/
structure RngI (w : World) (va vb : Value) (DD : List Nat) (n0 : Nat) (B : List (List Int)) (W : World) : Prop where
  ex : ∃ S VS, TmSt w va vb DD S VS B W ∧ Free S VS B.length (n0 + 4) ∧ Free S VS B.length (n0 + 5)
  big : n0 ≤ W.heap.size
section
variable {w : World} {va vb : Value} {DD : List Nat} {n0 : Nat} {B : List (List Int)} {W W' : World}
theorem RngI.put (h : RngI w va vb DD n0 B W) (h4 : w.heap.size + 4 ≤ n0) (hD : ∀ D ∈ DD, D < n0) {o : Obj} (o' : Obj) (hq : W.heap[n0 + 1]? = some o) (ho : o.isCells = false) : RngI w va vb DD n0 B (W.putObj (n0 + 1) o') := by
  obtain ⟨S, VS, h1, h2, h3⟩ := h.ex
  exact ⟨⟨S, VS, h1.put hq ho (by omega) (fun hd => by have := hD _ hd; omega) o', h2, h3⟩, by simpa using h.big⟩
theorem RngI.up (h : RngI w va vb DD n0 B W) (k : Below W.heap.size W W') : RngI w va vb DD n0 B W' := by
  obtain ⟨S, VS, h1, h2, h3⟩ := h.ex
  exact ⟨⟨S, VS, h1.up k, h2, h3⟩, Nat.le_trans h.big k.size⟩
theorem RngI.off (h : RngI w va vb DD n0 B W) (h4 : w.heap.size + 4 ≤ n0) (hD : ∀ D ∈ DD, D < n0) (k : OffB (n0 + 5) W W') : RngI w va vb DD n0 B W' := by
  obtain ⟨S, VS, h1, h2, h3⟩ := h.ex
  exact ⟨⟨S, VS, h1.off k (by omega) (fun hd => by have := hD _ hd; omega) h3, h2, h3⟩, by rw [k.size]; exact h.big⟩
theorem RngI.start {S : Value} {VS : Nat → Value} (h : TmSt w va vb DD S VS B W) (hn : n0 = W.heap.size) (k : Below W.heap.size W W') : RngI w va vb DD n0 B W' := by
  subst hn
  exact ⟨⟨S, VS, h.up k, h.free_new (by omega), h.free_new (by omega)⟩, k.size⟩
theorem KeepT.below (n : Nat) (k : Below W.heap.size W W') : KeepT n W W' := ⟨k.size, fun b _ _ h => k.block b h⟩
theorem KeepsFrom.below {m : Nat} (k : Below W.heap.size W W') : KeepsFrom m W W' := ⟨k.size, fun q o _ h1 _ => (k.block q (Array.getElem?_eq_some_iff.1 h1).1).trans h1⟩
/-- A result more. -/
theorem RngI.app {S S' : Value} {VS : Nat → Value} {W1 W3 : World} {u : Value} {x : List Int} (h : TmSt w va vb DD S VS B W) (f4 : Free S VS B.length (n0 + 4)) (f5 : Free S VS B.length (n0 + 5)) (hn : n0 + 6 ≤ W.heap.size) (h4 : w.heap.size + 4 ≤ n0)
    (hb : Below W.heap.size W W1) (hu : W1.ownsRow W.heap.size 2 1 u x.length (x.map (Value.int .i64)))
    (ho : W3.ownsRow (w.heap.size + 4) 65 1 S' (B.length + 1) ((List.range B.length).map VS ++ [u])) (hg : (W1.alloc (.cells #[u] 65)).grownBy W3 S.ownBlock) (hl : S'.ownBlock = S.ownBlock ∨ S'.ownBlock = some (W1.heap.size + 1)) :
    Box1 W3 (w.heap.size + 3) 22 S ∧ RngI w va vb DD n0 (B ++ [x]) (W3.setCell ⟨w.heap.size + 3, 0, none⟩ S') ∧ KeepsFrom n0 W (W3.setCell ⟨w.heap.size + 3, 0, none⟩ S') ∧ KeepT (n0 + 2) W (W3.setCell ⟨w.heap.size + 3, 0, none⟩ S') := by
  obtain ⟨a1, a2, a3, a4, a5, a6⟩ := h.app (q := n0 + 4) hb hu ho hg hl f4 (by omega)
  obtain ⟨_, _, b3, _, _, _⟩ := h.app (q := n0 + 5) hb hu ho hg hl f5 (by omega)
  have hsz : (W3.setCell ⟨w.heap.size + 3, 0, none⟩ S').heap.size = W3.heap.size := by simp [World.setCell]
  refine ⟨a1, ⟨⟨_, _, a2, a3, b3⟩, by rw [hsz]; omega⟩, ⟨a4.size, fun k o hk h1 h2 => a4.same k o (by omega) h1 h2⟩, by rw [hsz]; exact a5, fun b hb1 hb2 hb3 => a6 b hb3 (fun e => ?_) (by omega)⟩
  by_cases e4 : b = n0 + 4
  · exact f4.1 (e4 ▸ e)
  · exact f5.1 (show b = n0 + 5 by omega ▸ e)
end
end Go.Proofs.Ytnmilkehggjpfaa
end
