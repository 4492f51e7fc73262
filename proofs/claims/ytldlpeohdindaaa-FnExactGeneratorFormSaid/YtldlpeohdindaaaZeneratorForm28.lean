/-
  Joined: RRange, RBack, RMark.
-/
import Derived.Test.YtldlpeohdindaaaZeneratorForm27
import Derived.RangeFuncWrites
import Derived.RangeFuncNested
import Derived.WalkKit
import Derived.OwnWalkIn
import Derived.TacticsInMore
import Derived.LoopNIn
import Derived.LoopIn
import Derived.Test.YtldlpeohdindaaaZeneratorForm12
section
namespace Go.Proofs.Ytldlpeohdindaaa
open Go.RowKit
set_option linter.unusedVariables false
set_option maxRecDepth 100000

/-- The iterator's word: in round k it hands over 'enc k'; there are N rounds, unless one of them says 'no more'. J k: what holds when k rounds are over. -/
def SeqIn (P : Program) (gf : Nat) (lb : Array Value) (N : Nat) (enc : Nat → Array Value) (Kp : World → World → Prop) (w : World) : Prop :=
  ∀ (l : Nat) (J : Nat → World → Prop) (Jx : World → Prop) (W : World), Kp w W →
    (∀ k W1, k < N → J k W1 → YieldAt Fence.wide 1 P l (enc k) W1 fun e W' => (e = .returned (.bool true) ∧ J (k + 1) W' ∧ Kp W1 W') ∨ (e = .returned (.bool false) ∧ Jx W')) →
    J 0 W → CallsIn Fence.wide 2 P gf (#[.func (.yield l) #[] #[]] ++ lb) W fun e W' => (∃ v, e = .returned v) ∧ (J N W' ∨ Jx W')

/-- How a round's body is left: on with the next one, or out of a block around. -/
def RoundOut (B : Nat) (Kp : World → World → Prop) (I : World → Prop) (Ix : Nat → World → Prop) (W : World) : Exit → Act → World → Prop
  | .normal, _, W' => KeepsFrom B W W' ∧ Kp W W' ∧ I W'
  | .exit id, _, W' => KeepsFrom B W W' ∧ Ix id W'
  | _, _, _ => False

section
variable {P : Program} {ps : Array Tmp} {assign body : Code}
/-- The loop's record. -/
def recOf (fn : Nat) (t : Array Value) (ps : Array Tmp) (assign body : Code) (D : Nat) (s : LoopState) (pend : Option Code) : Loop := { state := s, pending := pend, fn := fn, tmps := t, params := ps, assign := assign, body := body, defers := D }
/-- The two blocks of a loop's own. -/
structure Marks (D : Nat) (r : Loop) (W : World) : Prop where
  lp : W.heap[D + 1]? = some (.loop r)
  df : W.heap[D]? = some (.deferred (some []))
theorem Marks.put {D : Nat} {r r' : Loop} {W : World} (h : Marks D r W) : Marks D r' (W.putObj (D + 1) (.loop r')) :=
  ⟨World.putObj_heap_same (Array.getElem?_eq_some_iff.1 h.lp).1, (World.putObj_heap_other (by omega)).trans h.df⟩
theorem Marks.keep {D B : Nat} {r : Loop} {W W' : World} (h : Marks D r W) (hB : B ≤ D) (k : KeepsFrom B W W') : Marks D r W' :=
  ⟨k.same _ _ (by omega) h.lp rfl, k.same _ _ hB h.df rfl⟩

theorem range_next {Q : Exit → Act → World → Prop} {a : Act} {w : World} {g : Operand} {gf : Nat} {lb : Array Value} (hg : a.eval g = .func (.func gf) #[] lb) (eg : ∀ args w, (callFunc gf args).run P w = .ok (.enter gf args) w)
    {N : Nat} {enc : Nat → Array Value} {Kp : World → World → Prop} (hseq : SeqIn P gf lb N enc Kp w) (hps : ∀ k, (enc k).size = ps.size)
    (kt : ∀ {A B C : World}, Kp A B → Kp B C → Kp A C) (kp : ∀ (W : World) (l : Nat) (o o' : Obj), l = w.heap.size + 1 → W.heap[l]? = some o → o.isCells = false → Kp W (W.putObj l o')) (k0 : ∀ o o', Kp w ((w.alloc o).alloc o'))
    (I : Nat → World → Prop) (Ix : Nat → World → Prop)
    (ip : ∀ k W l o o', I k W → l = w.heap.size + 1 → W.heap[l]? = some o → o.isCells = false → I k (W.putObj l o')) (ixp : ∀ id W l o o', Ix id W → l = w.heap.size + 1 → W.heap[l]? = some o → o.isCells = false → Ix id (W.putObj l o'))
    (i0 : ∀ o o', I 0 ((w.alloc o).alloc o')) (a₁ : Nat → Act)
    (hassign : ∀ (l k : Nat) (W : World) (K : Act → World → Prop), K (a₁ k) W → assign.wpIn (Fence.wide.inRound l) 1 P (Exit.then K (fun _ _ _ => False)) { tmps := (ps.zip (enc k)).foldl (fun t (p, v) => t.setIfInBounds p v) a.tmps, defers := [] } W)
    (hbody : ∀ (l k : Nat) (W : World), k < N → I k W → body.wpIn (Fence.wide.inRound l) 1 P (RoundOut w.heap.size Kp (I (k + 1)) Ix W) (a₁ k) W)
    (hdone : ∀ W, I N W → W.heap[w.heap.size]? = some (.deferred (some [])) → Q .normal { a with defers := { target := .collected w.heap.size, args := #[] } :: a.defers } W)
    (hstop : ∀ id W, Ix id W → W.heap[w.heap.size]? = some (.deferred (some [])) → (Code.exit id).wpIn Fence.wide 3 P Q { a with defers := { target := .collected w.heap.size, args := #[] } :: a.defers } W) :
    (Code.rangeFunc g ps assign body).wpIn Fence.wide 3 P Q a w := by
  refine wpIn_rangeFunc fun fn hfn => ?_
  have M1 : Marks w.heap.size (recOf fn a.tmps ps assign body w.heap.size .ready none) ((w.alloc (.deferred (some []))).alloc (.loop (recOf fn a.tmps ps assign body w.heap.size .ready none))) := by
    refine ⟨?_, (Below.heap_alloc _ _ _ (by simp)).trans (World.alloc_heap_new w _)⟩
    have := World.alloc_heap_new (w.alloc (.deferred (some []))) (.loop (recOf fn a.tmps ps assign body w.heap.size .ready none))
    rwa [World.size_alloc] at this
  refine ⟨_, _, _, _, _, gf, _, _, run_enterLoop_outer fn a.tmps ps assign body, by simp only [resolve, hg]; simp [go_sem]; exact ⟨rfl, rfl⟩, fun _ _ => trivial, by simp [invoke, go_sem, eg]; exact ⟨rfl, rfl⟩, fun h => by simp [Fence.wide] at h, ?_⟩
  refine (hseq (w.heap.size + 1) (fun k W => I k W ∧ Marks w.heap.size (recOf fn a.tmps ps assign body w.heap.size .ready none) W)
    (fun W => ∃ id, Ix id W ∧ Marks w.heap.size (recOf fn a.tmps ps assign body w.heap.size .done (some (.exit id))) W) _ (k0 _ _) ?_ ⟨i0 _ _, M1⟩).mono ?_
  · rintro k W hk ⟨hi, hm⟩
    have hy := run_yield (P := P) (args := enc k) hm.lp (hps k)
    refine ⟨fn, _, assign, body, hy, roundIn_of_wpIn hfn (hassign _ k W _ ⟨_, run_beginRound hm.lp rfl, ?_⟩)⟩
    have hm2 := hm.put (r' := recOf fn a.tmps ps assign body w.heap.size .busy none)
    have k2 := kp W (w.heap.size + 1) _ (.loop (recOf fn a.tmps ps assign body w.heap.size .busy none)) rfl hm.lp rfl
    refine wpIn_mono (hbody _ k _ hk (ip _ _ _ _ _ hi rfl hm.lp rfl)) ?_
    rintro e a3 W3 hp
    cases e with
    | normal =>
      obtain ⟨h3, h4, h5⟩ := hp
      have m3 := hm2.keep (Nat.le_refl _) h3
      exact ⟨_, _, run_endRound (P := P) none m3.lp, .inl ⟨rfl, ⟨ip _ _ _ _ _ h5 (by omega) m3.lp rfl, m3.put⟩, kt (kt k2 h4) (kp _ _ _ _ rfl m3.lp rfl)⟩⟩
    | exit id =>
      obtain ⟨h3, h5⟩ := hp
      have m3 := hm2.keep (Nat.le_refl _) h3
      exact ⟨_, _, run_endRound (P := P) (some (.exit id)) m3.lp, .inr ⟨rfl, id, ixp _ _ _ _ _ h5 (by omega) m3.lp rfl, m3.put⟩⟩
    | ret => exact hp.elim
    | goto t => exact hp.elim
    | panic ch => exact hp.elim
    | outgrown => exact hp.elim
  · rintro e W2 ⟨⟨v, rfl⟩, (⟨hi, hm⟩ | ⟨id, hi, hm⟩)⟩
    · exact ⟨none, _, run_endLoop (P := P) hm.lp (by simp [recOf]), hdone _ (ip _ _ _ _ _ hi rfl hm.lp rfl) (hm.put (r' := { recOf fn a.tmps ps assign body w.heap.size .ready none with state := .exhausted })).df⟩
    · exact ⟨some (.exit id), _, run_endLoop (P := P) hm.lp (by simp [recOf]), hstop id _ (ixp _ _ _ _ _ hi rfl hm.lp rfl) (hm.put (r' := { recOf fn a.tmps ps assign body w.heap.size .done (some (.exit id)) with state := .exhausted })).df⟩
end
end Go.Proofs.Ytldlpeohdindaaa
end
section
namespace Go.Proofs.Ytldlpeohdindaaa
open Go.RowKit
set_option linter.unusedVariables false
set_option maxRecDepth 100000

/-- Blocks below n₀ stay, but for those of Y. -/
structure KpY (n₀ : Nat) (Y : Nat → Prop) (A B : World) : Prop where
  size : A.heap.size ≤ B.heap.size
  block : ∀ b, b < n₀ → ¬ Y b → B.heap[b]? = A.heap[b]?
theorem KpY.trans {n₀ : Nat} {Y : Nat → Prop} {A B C : World} (h : KpY n₀ Y A B) (k : KpY n₀ Y B C) : KpY n₀ Y A C := ⟨Nat.le_trans h.size k.size, fun b hb hy => (k.block b hb hy).trans (h.block b hb hy)⟩
theorem KpY.refl (n₀ : Nat) (Y : Nat → Prop) (A : World) : KpY n₀ Y A A := ⟨Nat.le_refl _, fun _ _ _ => rfl⟩
/-- What the k-th round is told. -/
def encB (xs : List Int) (k : Nat) : Array Value := #[.int .i64 ((xs.length : Int) - 1 - k), .int .i64 (xs[xs.length - 1 - k]?.getD 0)]

set_option maxHeartbeats 1000000 in
theorem back1_in (F : Fence) (n : Nat) (h67 : F.fn 67) (hro : F.round = none) (hn : 1 ≤ n) (l Bs n₀ : Nat) (Y : Nat → Prop) (xs : List Int) (v : Value) (w : World) (hBs : w.heap[Bs]? = some (.cells #[v] 46 (0, 0))) (hB : Bs < n₀ ∧ ¬ Y Bs)
    (hv : RdI w v xs.length (fun j => xs[j]?.getD 0)) (hrow : 0 < xs.length → ∀ g, v.ownBlock = some g → g < n₀ ∧ ¬ Y g) (J : Nat → World → Prop) (Jx : World → Prop) (W : World) (hW : KpY n₀ Y w W)
    (hY : ∀ k W1, k < xs.length → J k W1 → YieldAt F (n - 1) Try.prog l (encB xs k) W1 fun e W' => (e = .returned (.bool true) ∧ J (k + 1) W' ∧ KpY n₀ Y W1 W') ∨ (e = .returned (.bool false) ∧ Jx W')) (h0 : J 0 W) :
    CallsIn F n Try.prog 67 #[.func (.yield l) #[] #[], .pointer (some ⟨Bs, 0, none⟩)] W fun e W' => (∃ v, e = .returned v) ∧ (J xs.length W' ∨ Jx W') := by
  obtain ⟨a, cap, rfl, hm, hc⟩ := hv
  unfold maxLen at hm
  have HC := Lib.hid hc
  have HROW := Lib.hid hrow
  have HBS := Lib.hid hBs
  have HB := Lib.hid hB
  have hn1 : IntKind.i64.wrap ((xs.length : Int) - 1) = (xs.length : Int) - 1 := by rw [IntKind.wrap_i64]; omega
  have hcB : ∀ W', KpY n₀ Y w W' → W'.cell? ⟨Bs, 0, none⟩ = some (.slice a xs.length cap) := fun W' h => by
    rw [World.cell?, h.block Bs HB.out.1 HB.out.2, HBS.out]; rfl
  have HCB := Lib.hid hcB
  have hc0 := hcB W hW
  have HK := Lib.hid hW
  clear hc hrow hBs hB hcB hW
  refine callsIn_of_wp Try.func67 rfl h67 ?_ hro
  simp only [Try.ntmps67, List.size_toArray, List.length_cons, List.length_nil, Nat.reduceAdd, Nat.reduceSub, Array.replicate_succ, Array.replicate_zero, List.push_toArray, List.append_toArray, List.nil_append, List.cons_append]
  gi_wp2
  clear hc0
  gi_loopw [3] (fun c wr => ∃ k : Nat, k ≤ xs.length ∧ c = .int .i64 ((xs.length : Int) - 1 - k) ∧ J k wr ∧ Hid (KpY n₀ Y w wr)) (fun c _ => (intOf c + 1).toNat)
  case atStart => exact ⟨0, Nat.zero_le _, by simp, h0, HK⟩
  case round =>
    obtain ⟨k, hk, rfl, hJ, hK⟩ := hrel
    by_cases hlt : k < xs.length
    · obtain ⟨i, hi⟩ : ∃ i, i + 1 + k = xs.length := ⟨xs.length - 1 - k, by omega⟩
      have e1 : (xs.length : Int) - 1 - k = (i : Int) := by omega
      obtain ⟨b, off, rfl, hcell⟩ := HC.out.resolve_left (by omega)
      have hci := hcell i (by omega)
      have hr := HROW.out (by omega) b rfl
      have c1 : wr.cell? ⟨b, off + i, none⟩ = some (.int .i64 (xs[i]?.getD 0)) := by
        rw [World.cell?, hK.out.block b hr.1 hr.2]; exact hci
      have cB := HCB.out wr hK.out
      obtain ⟨fn, tmps, assign, body, hy, hR⟩ := hY k wr hlt hJ
      have ex : encB xs k = #[.int .i64 (i : Int), .int .i64 (xs[i]?.getD 0)] := by
        unfold encB; rw [e1, show xs.length - 1 - k = i by omega]
      obtain ⟨x, hx⟩ : ∃ x, xs[i]?.getD 0 = x := ⟨_, rfl⟩
      rw [ex, hx] at hy
      rw [hx] at c1
      rw [e1]
      clear hx
      have hil : i < xs.length := by omega
      have hil' : (i : Int) < (xs.length : Int) := by omega
      clear hcell hci hr ex
      gi_wp2
      refine hR.mono ?_
      rintro e W3 (⟨rfl, hJ3, hk3⟩ | ⟨rfl, hJx3⟩)
      · have HK3 := Lib.hid (hK.out.trans hk3)
        clear hk3
        gi_wp2
        go_roundw
        case rel => exact ⟨k + 1, by omega, by go_num, hJ3, HK3⟩
        case measure => simp [intOf]
      · gi_wp2
        refine bodyPost_ret (results_none rfl _ _ _) rfl ?_
        exact ⟨⟨_, rfl⟩, .inr hJx3⟩
    · obtain rfl : k = xs.length := by omega
      rw [show (xs.length : Int) - 1 - xs.length = -1 by omega]
      gi_wp2
      go_end0
      exact ⟨⟨_, rfl⟩, .inl hJ⟩

/-- slices.Backward's function value keeps the word 'SeqIn'. -/
theorem back_seq (Bs n₀ : Nat) (Y : Nat → Prop) (xs : List Int) (v : Value) (w : World) (hBs : w.heap[Bs]? = some (.cells #[v] 46 (0, 0))) (hB : Bs < n₀ ∧ ¬ Y Bs) (hv : RdI w v xs.length (fun j => xs[j]?.getD 0)) (hrow : 0 < xs.length → ∀ g, v.ownBlock = some g → g < n₀ ∧ ¬ Y g) :
    SeqIn Try.prog 67 #[.pointer (some ⟨Bs, 0, none⟩)] xs.length (encB xs) (KpY n₀ Y) w :=
  fun l J Jx W hW hY h0 => back1_in Fence.wide 2 trivial rfl (by omega) l Bs n₀ Y xs v w hBs hB hv hrow J Jx W hW hY h0

theorem backward_any (a : Option Addr) (len cap : Nat) (w : World) :
    Calls Try.prog 52 #[.slice a len cap] w fun e w' => e = .returned (.func (.func 67) #[] #[.pointer (some ⟨w.heap.size, 0, none⟩)]) ∧ w' = w.alloc (.cells #[.slice a len cap] 46) := by
  go_enter Try.func52, Try.ntmps52
  go_wp2_with fail
  go_ret
  exact ⟨rfl, rfl⟩
end Go.Proofs.Ytldlpeohdindaaa
end
section
namespace Go.Proofs.Ytldlpeohdindaaa
open Go.RowKit Go.Maps
set_option linter.unusedVariables false
set_option maxRecDepth 100000

/-- A world in which one block is another. -/
structure OneOff (q : Nat) (W W' : World) : Prop where
  os : W'.os = W.os
  tape : W'.tape = W.tape
  output : W'.output = W.output
  size : W'.heap.size = W.heap.size
  block : ∀ b, b ≠ q → W'.heap[b]? = W.heap[b]?
theorem OneOff.put (W : World) (q : Nat) (o : Obj) : OneOff q W (W.putObj q o) := ⟨rfl, rfl, rfl, World.putObj_size, fun b hb => World.putObj_heap_other hb⟩
theorem OneOff.set (W : World) (q : Nat) (v : Value) : OneOff q W (W.setCell ⟨q, 0, none⟩ v) := ⟨rfl, rfl, rfl, by simp [World.setCell], fun b hb => heap_setCell_other W ⟨q, 0, none⟩ b v hb⟩

/-- A family's or a row's block is no loop's. -/
theorem own_ne_obj {W : World} {B s n q : Nat} {e : TypeId} {v : Value} {xs : List Value} (h : W.ownsRow B e s v n xs) {o : Obj} (hq : W.heap[q]? = some o) (ho : o.isCells = false) : v.ownBlock ≠ some q := by
  intro e1
  rcases h.2 with ⟨rfl, _⟩ | ⟨g, cap, cur, rfl, _, hG, _⟩
  · cases e1
  · simp only [Value.ownBlock, Option.some.injEq] at e1
    subst e1
    rw [hG] at hq
    cases hq
    cases ho
theorem own_ne_cells {W : World} {B s n q : Nat} {e t : TypeId} {v : Value} {xs : List Value} {cs : Array Value} {fr : Nat × Nat} (h : W.ownsRow B e s v n xs) (hq : W.heap[q]? = some (.cells cs t fr)) (ht : e ≠ t) : v.ownBlock ≠ some q := by
  intro e1
  rcases h.2 with ⟨rfl, _⟩ | ⟨g, cap, cur, rfl, _, hG, _⟩
  · cases e1
  · simp only [Value.ownBlock, Option.some.injEq] at e1
    subst e1
    rw [hG] at hq
    simp only [Option.some.injEq, Obj.cells.injEq] at hq
    exact ht hq.2.1

def MarksAll (DD : List Nat) (W : World) : Prop := ∀ D ∈ DD, W.heap[D]? = some (.deferred (some []))
def marksOf (DD : List Nat) : List Deferred := DD.map fun D => { target := .collected D, args := #[] }
theorem MarksAll.kp {DD : List Nat} {gk gp : Nat} {W W' : World} (h : MarksAll DD W) (m1 : IsMapB W gk) (m2 : IsMapB W gp) (k : Kp2 gk gp W W') : MarksAll DD W' := fun D hD => by
  have h1 := h D hD
  refine (k.block D (Array.getElem?_eq_some_iff.1 h1).1 ?_ ?_).trans h1
  · rintro rfl; obtain ⟨es, c, hb⟩ := m1; rw [hb] at h1; cases h1
  · rintro rfl; obtain ⟨es, c, hb⟩ := m2; rw [hb] at h1; cases h1
theorem MarksAll.grown {DD : List Nat} {B s n : Nat} {e : TypeId} {v : Value} {xs : List Value} {W W' : World} (h : MarksAll DD W) (ho : W.ownsRow B e s v n xs) (hg : W.grownBy W' v.ownBlock) : MarksAll DD W' := fun D hD => by
  have h1 := h D hD
  exact (hg.block D (Array.getElem?_eq_some_iff.1 h1).1 fun e2 => own_ne_obj ho h1 rfl e2.symm).trans h1

/-- What reduced keeps: the list of words, the marks of the loops that are over; X: blocks of its own that it writes. -/
structure RedSt (R K gk gp : Nat) (w : World) (X : Nat → Prop) (DD : List Nat) (T : List (List Int)) (S : Value) (A : List (List Int)) (W : World) : Prop where
  t : TSt R K gk gp X w T S A W
  mks : MarksAll DD W
  dx : ∀ D ∈ DD, X D
  nd : DD.Nodup
  low : ∀ g, X g → w.heap.size ≤ g ∧ g < W.heap.size

section
variable {R K gk gp : Nat} {w : World} {X : Nat → Prop} {DD : List Nat} {T A : List (List Int)} {S : Value} {W W' : World}
theorem RedSt.lowX (h : RedSt R K gk gp w X DD T S A W) : ∀ g, (X g ∨ S.ownBlock = some g) → g < W.heap.size := fun g hg => hg.elim (fun k => (h.low g k).2) (fun e => (h.t.own.lt g e).2)
theorem RedSt.off {q : Nat} (h : RedSt R K gk gp w X DD T S A W) (k : OneOff q W W') (hx : X q) (hd : q ∉ DD) (hs : S.ownBlock ≠ some q) : RedSt R K gk gp w X DD T S A W' := by
  have hq := (h.low q hx).1
  refine ⟨⟨own_sameblock h.t.own fun g hg => k.block g (fun e => hs (e ▸ hg)), h.t.par, h.t.fit, h.t.inv.keep (fun b hb hn => k.block b (fun e => hn (e ▸ .inl hx))) (by rw [k.size]; exact Nat.le_refl _) fun g hg => .inl hg, ?_⟩, fun D hD => (k.block D (fun e => hd (e ▸ hD))).trans (h.mks D hD), h.dx, h.nd, fun g hg => by rw [k.size]; exact h.low g hg⟩
  exact ⟨k.os.trans h.t.kp.os, k.tape.trans h.t.kp.tape, k.output.trans h.t.kp.output, by rw [k.size]; exact h.t.kp.size, fun b hb h1 h2 => (k.block b (by omega)).trans (h.t.kp.block b hb h1 h2)⟩
theorem RedSt.up (h : RedSt R K gk gp w X DD T S A W) (k : Below W.heap.size W W') : RedSt R K gk gp w X DD T S A W' :=
  ⟨h.t.up k, fun D hD => (k.block D (Array.getElem?_eq_some_iff.1 (h.mks D hD)).1).trans (h.mks D hD), h.dx, h.nd, fun g hg => ⟨(h.low g hg).1, Nat.lt_of_lt_of_le (h.low g hg).2 k.size⟩⟩
/-- More blocks of its own: new ones. -/
theorem RedSt.more {X' : Nat → Prop} (h : RedSt R K gk gp w X DD T S A W) (k : Below W.heap.size W W') (hX : ∀ g, X g → X' g) (hX' : ∀ g, X' g → X g ∨ (W.heap.size ≤ g ∧ g < W'.heap.size)) : RedSt R K gk gp w X' DD T S A W' := by
  have u := h.up k
  have hsz := h.t.kp.size
  refine ⟨⟨u.t.own, u.t.par, u.t.fit, h.t.inv.keep (fun b hb _ => k.block b hb) k.size fun g hg => ?_, u.t.kp⟩, u.mks, fun D hD => hX D (h.dx D hD), h.nd, fun g hg => ?_⟩
  · rcases hg with hg | hg
    · exact (hX' g hg).elim (fun e => .inl (.inl e)) (fun e => .inr e.1)
    · exact .inl (.inr hg)
  · rcases hX' g hg with e | e
    · exact u.low g e
    · exact ⟨by omega, e.2⟩
theorem RedSt.mark {D : Nat} (h : RedSt R K gk gp w X DD T S A W) (hm : W.heap[D]? = some (.deferred (some []))) (hx : X D) (hd : D ∉ DD) : RedSt R K gk gp w X (D :: DD) T S A W :=
  ⟨h.t, fun E hE => (List.mem_cons.1 hE).elim (fun e => e ▸ hm) (h.mks E), fun E hE => (List.mem_cons.1 hE).elim (fun e => e ▸ hx) (h.dx E), List.nodup_cons.2 ⟨hd, h.nd⟩, h.low⟩
theorem RedSt.call (h : RedSt R K gk gp w X DD T S A W) (hi : RInv R K gk gp (fun g => X g ∨ S.ownBlock = some g) W') (k : Kp2 gk gp W W') : RedSt R K gk gp w X DD T S A W' :=
  ⟨h.t.call hi k, h.mks.kp h.t.inv.m1 h.t.inv.m2 k, h.dx, h.nd, fun g hg => ⟨(h.low g hg).1, Nat.lt_of_lt_of_le (h.low g hg).2 k.size⟩⟩
theorem RedSt.app {T2 B : List (List Int)} {S' : Value} (h : RedSt R K gk gp w X DD T S A W) (ho : OwnP W' w.heap.size S' (A.map packK ++ B.map packK)) (hg : W.grownBy W' S.ownBlock) (hl : S'.ownBlock = S.ownBlock ∨ S'.ownBlock = some W.heap.size)
    (hp : ∀ y, par B y ↔ par T2 y) (hf : ∀ y ∈ B, fits y) : RedSt R K gk gp w X DD (T ++ T2) S' (A ++ B) W' :=
  ⟨h.t.app ho hg hl hp hf, h.mks.grown h.t.own hg, h.dx, h.nd, fun g hg' => ⟨(h.low g hg').1, Nat.lt_of_lt_of_le (h.low g hg').2 hg.size⟩⟩
/-- A word whose form is 0. -/
theorem RedSt.zero {T2 : List (List Int)} (h : RedSt R K gk gp w X DD T S A W) (hz : ∀ y, ¬ par T2 y) : RedSt R K gk gp w X DD (T ++ T2) S A W :=
  ⟨⟨h.t.own, fun y => by rw [h.t.par, par_append]; have := hz y; by_cases e : par T y <;> simp [e, this], h.t.fit, h.t.inv, h.t.kp⟩, h.mks, h.dx, h.nd, h.low⟩
theorem RedSt.start (h : RInv R K gk gp (fun _ => False) w) : RedSt R K gk gp w (fun _ => False) [] [] (.slice none 0 0) [] w :=
  ⟨TSt.start h (Kp2.refl gk gp w), fun D hD => absurd hD List.not_mem_nil, fun D hD => absurd hD List.not_mem_nil, List.nodup_nil, fun g hg => hg.elim⟩
end

/-- A row that is read lies in no block of one cell or of another kind. -/
theorem RdQ.off {W W' : World} {q : Nat} {u : Value} {ks : List (Array Value)} (h : RdQ W u ks) (hk : ∀ k ∈ ks, KOKP k) (k : OneOff q W W') (hq : (∃ o, W.heap[q]? = some o ∧ o.isCells = false) ∨ ∃ x t fr, W.heap[q]? = some (.cells #[x] t fr)) : RdQ W' u ks := by
  obtain ⟨a, cap, e, hm, hc⟩ := h
  refine ⟨a, cap, e, hm, ?_⟩
  rcases hc with h0 | ⟨b, off, e, hc⟩
  · exact .inl h0
  · refine .inr ⟨b, off, e, fun i hi j u hj => ?_⟩
    have hb : b ≠ q := by
      rintro rfl
      have hki : KOKP (ks[i]?.getD #[]) := by rw [List.getElem?_eq_getElem hi]; exact hk _ (List.getElem_mem _)
      have g : ∃ u, (ks[i]?.getD #[]).toList[1]? = some u := ⟨_, List.getElem?_eq_getElem (by rw [Array.length_toList, hki.size]; omega)⟩
      obtain ⟨u1, hu1⟩ := g
      have h1 := hc i hi 1 u1 hu1
      rcases hq with ⟨o, ho, hn⟩ | ⟨x, t, fr, ho⟩
      · cases o <;> simp [World.cell?, ho] at h1
        cases hn
      · simp [World.cell?, ho] at h1
    exact (World.cell?_of_block (w := W) (a := ⟨b, off + i * 8 + j, none⟩) (k.block b hb)).trans (hc i hi j u hj)

/-- A form is 0 where a part of it is. -/
theorem form_zero : ∀ (i : Nat) (xs : List Int), (∀ y, ¬ par (formF (xs.drop i)) y) → ∀ y, ¬ par (formF xs) y
  | 0, _, h => h
  | i + 1, [], h => by simpa using h
  | i + 1, x :: r, h => by
    have h1 := form_zero i r (by simpa using h)
    intro y hy
    have := (par_flatMap (admF 1700 x) y (formF r) [] fun z => by have := h1 z; simp [this, par]).1 hy
    simp [par] at this

/-- The marks at the end. -/
theorem leaves_marks {P : Program} {F : Fence} {n : Nat} {fn : Func} {tmps : Array Value} {E : Ending → World → Prop} (X : Nat → Prop) (G : World → Prop) (hp : ∀ W D, X D → G W → W.heap[D]? = some (.deferred (some [])) → G (W.putObj D (.deferred none))) (he : ∀ W, G W → LeavesIn F n P fn tmps E [] .returning W) :
    ∀ (DD : List Nat) (W : World), (∀ D ∈ DD, X D) → G W → MarksAll DD W → DD.Nodup → LeavesInM F n P fn tmps E (marksOf DD) .returning W
  | [], W, _, g, _, _ => he W g
  | D :: DD, W, hx, g, hm, hn => by
    obtain ⟨n1, n2⟩ := List.nodup_cons.1 hn
    have hD := hm D List.mem_cons_self
    refine ⟨by simp, .inl ⟨D, _, rfl, run_takeDeferred hD, leaves_marks X G hp he DD _ (fun E hE => hx E (List.mem_cons_of_mem _ hE)) (hp W D (hx D List.mem_cons_self) g hD) (fun E hE => ?_) n2⟩⟩
    exact (World.putObj_heap_other (r := D) (k := E) (fun e => n1 (e ▸ hE))).trans (hm E (List.mem_cons_of_mem _ hE))
end Go.Proofs.Ytldlpeohdindaaa
end
