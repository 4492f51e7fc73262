/-
  The draws of matrices: spec.l02With, spec.l02Draw.
-/
import Derived.Test.YtdojblmffmefgaaDoorDSrc
import Derived.Test.YtdojblmffmefgaaDoorMFew
import Derived.Test.YtdojblmffmefgaaDoorDRows
import Derived.BigRegion
namespace Go.Proofs.YtdojblmffmefgaaDoor
open Go.RowKit
set_option linter.unusedVariables false
set_option maxRecDepth 100000

/-- What a draw of a number does to the memory. -/
def GRes (B g : Nat) (P : Int → Prop) (w : World) (e : Ending) (w' : World) : Prop :=
  ∃ x : Int, e = .returned (.int .i64 x) ∧ P x ∧ Src w' g B ∧ w.grownBy w' (some g)

theorem grown_src {w w' : World} {g B : Nat} (b : Below B w w') (k : ∀ q, q ≠ g → w'.heap[q]? = w.heap[q]?) : w.grownBy w' (some g) :=
  ⟨b.os, b.tape, b.output, b.size, fun i hi hne => k i (by simpa using hne)⟩
theorem next_g (g B : Nat) (n : Int) (w : World) (hs : Src w g B) (h1 : 1 ≤ n) (h2 : n ≤ 2000000000000000) :
    Calls Tryd.prog 74 #[.pointer (some ⟨g, 0, none⟩), .int .i64 n] w (GRes B g (fun x => 0 ≤ x ∧ x < n) w) :=
  (l01Next_any g B n w hs h1 h2).mono fun e w' ⟨x, e1, a, b, c, d, k⟩ => ⟨x, e1, ⟨a, b⟩, d, grown_src c k⟩
theorem pick_g (g B cap : Nat) (zs : List Int) (w : World) (hs : Src w g B) (h1 : 1 ≤ zs.length) (h2 : zs.length ≤ 4) :
    Calls Tryd.prog 111 #[.pointer (some ⟨g, 0, none⟩), .slice (some ⟨w.heap.size, 0, none⟩) zs.length cap] (w.alloc (.cells (zs.map (Value.int .i64)).toArray 2)) (GRes B g (fun x => x ∈ zs) w) :=
  (l01Pick_any g B w.heap.size cap zs _ (hs.alloc _) (heap_alloc_new w _) (by have := hs.lt; omega) h1 h2).mono fun e w' ⟨x, e1, a, c, d, k⟩ => ⟨x, e1, a, d, grown_trans (grown_of_below ((Below.refl _ _).alloc (Nat.le_refl _) _) _) (grown_src c k)⟩

theorem Src.other {w : World} {g B : Nat} (h : Src w g B) (a : Addr) (v : Value) (hb : B ≤ a.block) (hne : g ≠ a.block) : Src (w.setCell a v) g B := by
  obtain ⟨hB, a', m, cap, at_, x, hc, hm, ha, hblk⟩ := h
  exact ⟨hB, a', m, cap, at_, x, hc.below ((Below.refl B w).setCell hb v), hm, ha, (heap_setCell_other w a g v hne).trans hblk⟩
theorem Src.grownRow {w w' : World} {g B n : Nat} {v : Value} {B' : Nat} {xs : List Value} (h : Src w g B) (k : w.grownBy w' v.ownBlock) (o : w.ownsRow B' 2 1 v n xs) (hg : g < B') : Src w' g B := by
  have hl := h.lt
  obtain ⟨hB, a, m, cap, at_, x, hc, hm, ha, hblk⟩ := h
  have b : Below B w w' := ⟨k.os, k.tape, k.output, k.size, fun i hi => k.block i (by omega) (fun e => by have := (o.lt i e.symm).1; omega)⟩
  exact ⟨hB, a, m, cap, at_, x, hc.below b, hm, ha, (k.block g hl.2 (fun e => by have := (o.lt g e.symm).1; omega)).trans hblk⟩
theorem grown_row {w0 w w' : World} {g n : Nat} {v : Value} {xs : List Value} (h : w0.grownBy w (some g)) (k : w.grownBy w' v.ownBlock) (o : w.ownsRow w0.heap.size 2 1 v n xs) : w0.grownBy w' (some g) :=
  ⟨k.os.trans h.os, k.tape.trans h.tape, k.output.trans h.output, Nat.le_trans h.size k.size, fun i hi hne => (k.block i (Nat.lt_of_lt_of_le hi h.size) (fun e => by have := (o.lt i e.symm).1; omega)).trans (h.block i hi hne)⟩

/-- A matrix that is being made: its box gO, the result's box gR, the source g. -/
structure Mk (w0 : World) (g B gR gO : Nat) (C : Int) (v : Value) (L : List Int) (w : World) : Prop where
  src : Src w g B
  gr : w0.grownBy w (some g)
  bR : Box w gR 26 (.int .i64 0) (.slice none 0 0)
  bO : Box w gO 26 (.int .i64 C) v
  own : w.ownsRow w0.heap.size 2 1 v L.length (L.map (Value.int .i64))
  gl : g < w0.heap.size
  gR0 : w0.heap.size ≤ gR
  gO0 : w0.heap.size ≤ gO
  ne : gR ≠ gO
section
variable {w0 w w' : World} {g B gR gO : Nat} {C : Int} {v v' : Value} {L : List Int}
theorem Mk.grown (h : Mk w0 g B gR gO C v L w) (s : Src w' g B) (k : w.grownBy w' (some g)) : Mk w0 g B gR gO C v L w' :=
  ⟨s, grown_trans h.gr k, h.bR.grownG k (by have := h.gl; have := h.gR0; omega), h.bO.grownG k (by have := h.gl; have := h.gO0; omega), h.own.kept k (by
    cases hv : v.ownBlock with
    | none => exact .inl rfl
    | some q => exact .inr (fun e => by have := (h.own.lt q hv).1; have := h.gl; injection e with e; omega)), h.gl, h.gR0, h.gO0, h.ne⟩
theorem Mk.up (h : Mk w0 g B gR gO C v L w) (k : Below w.heap.size w w') : Mk w0 g B gR gO C v L w' :=
  h.grown (h.src.news k) (grown_of_below k _)
theorem Mk.alloc (h : Mk w0 g B gR gO C v L w) (o : Obj) : Mk w0 g B gR gO C v L (w.alloc o) := h.up ((Below.refl _ _).alloc (Nat.le_refl _) _)
/-- Behind the append, ahead of the store. -/
structure Mk2 (w0 : World) (g B gR gO : Nat) (C : Int) (v v' : Value) (L : List Int) (w : World) : Prop where
  src : Src w g B
  gr : w0.grownBy w (some g)
  bR : Box w gR 26 (.int .i64 0) (.slice none 0 0)
  bO : Box w gO 26 (.int .i64 C) v
  own : w.ownsRow w0.heap.size 2 1 v' L.length (L.map (Value.int .i64))
theorem Mk.app {r : Int} (h : Mk w0 g B gR gO C v L w) (ho : w'.ownsRow w0.heap.size 2 1 v' (L.length + 1) ((L ++ [r]).map (Value.int .i64))) (k : w.grownBy w' v.ownBlock) :
    Mk2 w0 g B gR gO C v v' (L ++ [r]) w' :=
  ⟨h.src.grownRow k h.own h.gl, grown_row h.gr k h.own, h.bR.grown k (h.bR.ne_row h.own (by decide)), h.bO.grown k (h.bO.ne_row h.own (by decide)), by rw [List.length_append]; exact ho⟩
theorem Mk2.store {L' : List Int} (h0 : Mk w0 g B gR gO C v L w) (h : Mk2 w0 g B gR gO C v v' L' w') : Mk w0 g B gR gO C v' L' (w'.setCell ⟨gO, 1, none⟩ v') :=
  ⟨h.src.other _ _ (by have := h0.gO0; have := h0.gl; have := h.src.lt; simp; omega) (by have := h0.gO0; have := h0.gl; simp; omega), grown_new h.gr h0.gO0, h.bR.other _ _ h0.ne, h.bO.set1 _, own_setBox h.bO h.own (by decide), h0.gl, h0.gR0, h0.gO0, h0.ne⟩
theorem Mk.setC (h : Mk w0 g B gR gO C v L w) (x : Int) : Mk w0 g B gR gO x v L (w.setCell ⟨gO, 0, none⟩ (.int .i64 x)) :=
  ⟨h.src.other _ _ (by have := h.gO0; have := h.gl; have := h.src.lt; simp; omega) (by have := h.gO0; have := h.gl; simp; omega), grown_new h.gr h.gO0, h.bR.other _ _ h.ne, h.bO.set0 _, own_setBox h.bO h.own (by decide), h.gl, h.gR0, h.gO0, h.ne⟩
theorem Mk.setRow {b n cap : Nat} (h : Mk w0 g B gR gO C (.slice (some ⟨b, 0, none⟩) n cap) L w) (hn : n = L.length) (i : Nat) (x : Int) : Mk w0 g B gR gO C (.slice (some ⟨b, 0, none⟩) n cap) (L.set i x) (w.setCell ⟨b, i, none⟩ (.int .i64 x)) := by
  subst hn
  have hb := h.own.lt b rfl
  have o := (h.own.stored i (.int .i64 x)).1
  have hne : ∀ q y z, Box w q 26 y z → q ≠ b := fun q y z hq e => hq.ne_row h.own (by decide) (by rw [e]; rfl)
  refine ⟨h.src.other _ _ (by have := h.gl; have := h.src.lt; simp; omega) (by have := h.gl; simp; omega), grown_new h.gr hb.1, h.bR.other _ _ (hne _ _ _ h.bR), h.bO.other _ _ (hne _ _ _ h.bO), ?_, h.gl, h.gR0, h.gO0, h.ne⟩
  rw [List.length_set, List.map_set]
  exact o
theorem Mk.fin (h : Mk w0 g B gR gO C v L w) : Box ((w.setCell ⟨gR, 0, none⟩ (.int .i64 C)).setCell ⟨gR, 1, none⟩ v) gR 26 (.int .i64 C) v ∧
    ((w.setCell ⟨gR, 0, none⟩ (.int .i64 C)).setCell ⟨gR, 1, none⟩ v).ownsRow w0.heap.size 2 1 v L.length (L.map (Value.int .i64)) ∧ Src ((w.setCell ⟨gR, 0, none⟩ (.int .i64 C)).setCell ⟨gR, 1, none⟩ v) g B ∧ w0.grownBy ((w.setCell ⟨gR, 0, none⟩ (.int .i64 C)).setCell ⟨gR, 1, none⟩ v) (some g) :=
  ⟨(h.bR.set0 _).set1 _, own_setBox (h.bR.set0 _) (own_setBox h.bR h.own (by decide)) (by decide),
    (h.src.other _ _ (by have := h.gR0; have := h.gl; have := h.src.lt; simp; omega) (by have := h.gR0; have := h.gl; simp; omega)).other _ _ (by have := h.gR0; have := h.gl; have := h.src.lt; simp; omega) (by have := h.gR0; have := h.gl; simp; omega),
    grown_new (grown_new h.gr h.gR0) h.gR0⟩
end

/-- A drawn matrix. -/
def WithRes (B g N : Nat) (P : Int → Prop) (w : World) (e : Ending) (w' : World) : Prop :=
  ∃ (C : Int) (L : List Int) (u : Value), e = .returned (.agg #[.int .i64 C, u]) ∧ P C ∧ L.length ≤ N ∧ w'.ownsRow w.heap.size 2 1 u L.length (L.map (Value.int .i64)) ∧ Src w' g B ∧ w.grownBy w' (some g)

/-- A drawn matrix with as many rows as told. -/
def WithEq (B g N : Nat) (P : Int → Prop) (w : World) (e : Ending) (w' : World) : Prop :=
  ∃ (C : Int) (L : List Int) (u : Value), e = .returned (.agg #[.int .i64 C, u]) ∧ P C ∧ L.length = N ∧ w'.ownsRow w.heap.size 2 1 u L.length (L.map (Value.int .i64)) ∧ Src w' g B ∧ w.grownBy w' (some g)

set_option maxHeartbeats 4000000 in
theorem l02With_eq (g B r c : Nat) (w : World) (hs : Src w g B) (hr : r ≤ 1000) (hc : c ≤ 60) :
    Calls Tryd.prog 83 #[.pointer (some ⟨g, 0, none⟩), .int .i64 r, .int .i64 c] w (WithEq B g r (fun x => x = (c : Int)) w) := by
  have t2 := Tryd.underlying26
  have W3 : ∃ w3, w3 = ((w.alloc (.cells #[.int .i64 0, .slice none 0 0] 26)).alloc (.cells #[.int .i64 c, .slice none 0 0] 26)) := ⟨_, rfl⟩
  obtain ⟨w3, hw3⟩ := W3
  have M3 : Hid (Mk w g B w.heap.size (w.heap.size + 1) c (.slice none 0 0) [] w3) := Lib.hid (by
    have b : Below w.heap.size w w3 := by rw [hw3]; exact ((Below.refl w.heap.size w).alloc (Nat.le_refl _) _).alloc (by simp) _
    refine ⟨hs.news b, grown_of_below b _, ?_, ?_, World.ownsRow_nil _ _ _ _, hs.lt.2, by omega, by omega, by omega⟩
    · rw [hw3]; exact (Box.new w _ _ _).alloc _
    · rw [hw3]; have := Box.new (w.alloc (.cells #[.int .i64 0, .slice none 0 0] 26)) 26 (.int .i64 c) (.slice none 0 0); simpa using this)
  clear hs
  go_enter Tryd.func83, Tryd.ntmps83
  go_wp2
  rw [← hw3]
  clear hw3
  go_loopw [1, 8, 9] (fun t _ _ wr => ∃ (j : Nat) (L : List Int) (v : Value), t = .int .i64 j ∧ L.length + j = r ∧ Hid (Mk w g B w.heap.size (w.heap.size + 1) c v L wr)) (fun t _ _ _ => (intOf t).toNat)
  case atStart => exact ⟨r, [], _, rfl, by simp, M3⟩
  case round =>
    clear M3
    obtain ⟨j, L, v, rfl, hj, M⟩ := hrel
    by_cases hlt : 0 < j
    · have hlt' : (0 : Int) < (j : Int) := by omega
      go_wp2
      obtain ⟨wo, hwo⟩ : ∃ wo, wo = wr := ⟨_, rfl⟩
      subst hwo
      go_loopw [8, 9] (fun z q wr => ∃ (x : Int) (k : Nat), z = .int .i64 x ∧ q = .int .i64 k ∧ k ≤ c ∧ Hid (Mk w g B w.heap.size (w.heap.size + 1) c v L wr)) (fun _ q _ => c - (intOf q).toNat)
      case atStart => exact ⟨0, 0, rfl, rfl, by omega, M⟩
      case round =>
        clear M
        obtain ⟨x, k, rfl, rfl, hk, M⟩ := hrel
        by_cases hkc : k < c
        · have hkc' : (k : Int) < (c : Int) := by omega
          have P := Lib.hid (pick_g g B 3 [0, 0, 1] wr M.out.src (by simp) (by simp))
          go_wp2_with fail
          refine P.out.mono ?_
          rintro e w4 ⟨y, rfl, hy, s4, k4⟩
          have M4 := Lib.hid (M.out.grown s4 k4)
          clear s4 k4 hy P M
          go_wp2
          go_roundw
          case rel => exact ⟨_, k + 1, rfl, by go_num, by omega, M4⟩
          case measure => simp [intOf]; omega
        · obtain rfl : k = c := by omega
          have o0 := M.out.own
          obtain ⟨va, vc, rfl⟩ := o0.shape
          clear o0
          have d1 := M.out.bO.c1
          have A := Lib.hid (M.out.alloc (.cells #[.int .i64 x] 2))
          have LL : L.length ≤ 1000 := by omega
          go_wp2_with (at_builtin; refine wpList_append1 rfl _ _ rfl w.heap.size _ L.length L rfl A.out.own _ _ 1 rfl (World.cell?_alloc_new _ _ _ _) ?c1 ?c2 ?_)
          case c1 => omega
          case c2 => exact A.out.gr.size
          intro v' w2 ho hg
          obtain ⟨va', vc', rfl⟩ := ho.shape
          have A2 := Lib.hid (A.out.app (r := x) (by rw [List.map_append]; exact ho) hg)
          have F := Lib.hid (Mk2.store A.out A2.out)
          have e0 := A2.out.bO.c1
          have e1 := A2.out.bO.fr 1
          clear ho hg
          go_wp2
          go_roundw
          case rel => exact ⟨j - 1, L ++ [x], _, by go_num, by simp; omega, F⟩
          case measure => simp [intOf]; omega
    · obtain rfl : j = 0 := by omega
      have o0 := M.out.own
      obtain ⟨va, vc, rfl⟩ := o0.shape
      clear o0
      have HLr : Hid (L.length = r) := Lib.hid (by omega)
      have hle : L.length ≤ 1000 := by omega
      clear hj hlt
      have d0 := M.out.bO.c0
      have d1 := M.out.bO.c1
      by_cases h2 : 2 < L.length
      · have h2' : (2 : Int) < (L.length : Int) := by omega
        have N := Lib.hid (next_g g B 3 wr M.out.src (by omega) (by omega))
        go_wp2_with fail
        refine N.out.mono ?_
        rintro e w4 ⟨y, rfl, ⟨y0, y1⟩, s4, k4⟩
        have MM := Lib.hid (M.out.grown s4 k4)
        clear s4 k4 N M d0 d1
        by_cases hy : y = 0
        · subst hy
          have O := MM.out.own
          rcases O.2 with ⟨h0, _⟩ | ⟨b, cap, cur, h0, _⟩
          · injection h0 with _ e2 _; omega
          · injection h0 with e1 _ e3
            subst e1 e3
            have x0 := O.cellAt 0 (by omega)
            have x1 := O.cellAt 1 (by omega)
            have x2 := O.cellAt (L.length - 1) (by omega)
            have f2 := O.frozenAt (L.length - 1)
            have e1 : (L.map (Value.int .i64))[0]? = some (.int .i64 (L.getD 0 0)) := by simp [List.getD_eq_getElem?_getD, show 0 < L.length by omega]
            have e2 : (L.map (Value.int .i64))[1]? = some (.int .i64 (L.getD 1 0)) := by simp [List.getD_eq_getElem?_getD, show 1 < L.length by omega]
            have e3 : (L.map (Value.int .i64))[L.length - 1]? = some (.int .i64 (L.getD (L.length - 1) 0)) := by simp [List.getD_eq_getElem?_getD, show L.length - 1 < L.length by omega]
            rw [e1] at x0
            rw [e2] at x1
            rw [e3] at x2
            clear e1 e2 e3 O
            have esub : (L.length : Int) - 1 = ((L.length - 1 : Nat) : Int) := by omega
            have hlast : ((L.length - 1 : Nat) : Int) < (L.length : Int) := by omega
            have SR := Lib.hid ((MM.out.setRow rfl (L.length - 1) (bits .xor .i64 (L.getD 0 0) (L.getD 1 0))).up (Below.refl _ _).drew)
            have d1 := MM.out.bO.c1
            generalize L.getD 0 0 = y0 at *
            generalize L.getD 1 0 = y1 at *
            generalize L.getD (L.length - 1) 0 = y2 at *
            go_wp2
            go_region
            have MM := SR
            clear d1 x0 x1 x2 f2 SR
            generalize ((w4.setCell ⟨b, L.length - 1, none⟩ (.int .i64 (bits .xor .i64 y0 y1))).drew) = w5 at *
            have d0 := MM.out.bO.c0
            have d1 := MM.out.bO.c1
            have cR0 := MM.out.bR.c0
            have cR1 := MM.out.bR.c1
            have fR0 := MM.out.bR.fr 0
            have fR1 := MM.out.bR.fr 1
            obtain ⟨F1, F2, F3, F4⟩ := MM.out.fin
            have F1 := Lib.hid F1
            have F2 := Lib.hid F2
            have F3 := Lib.hid F3
            have F4 := Lib.hid F4
            go_wp2
            refine bodyPost_ret (results_cell_row rfl _ _ w.heap.size 26 _ (0, 0) _ rfl F1.out t2 rfl (by kernel_rfl)) rfl ?_
            exact ⟨_, L.set (L.length - 1) (bits .xor .i64 y0 y1), _, rfl, rfl, by rw [List.length_set]; exact HLr.out, F2.out, F3.out, F4.out⟩
        · have hy' : (y == 0) = false := by rw [beq_eq_false_iff_ne]; exact hy
          have d0 := MM.out.bO.c0
          have d1 := MM.out.bO.c1
          have cR0 := MM.out.bR.c0
          have cR1 := MM.out.bR.c1
          have fR0 := MM.out.bR.fr 0
          have fR1 := MM.out.bR.fr 1
          obtain ⟨F1, F2, F3, F4⟩ := MM.out.fin
          have F1 := Lib.hid F1
          have F2 := Lib.hid F2
          have F3 := Lib.hid F3
          have F4 := Lib.hid F4
          go_wp2
          refine bodyPost_ret (results_cell_row rfl _ _ w.heap.size 26 _ (0, 0) _ rfl F1.out t2 rfl (by kernel_rfl)) rfl ?_
          exact ⟨_, L, _, rfl, rfl, HLr.out, F2.out, F3.out, F4.out⟩
      · have h2' : ¬ (2 : Int) < (L.length : Int) := by omega
        have MM := M
        have d0 := MM.out.bO.c0
        have d1 := MM.out.bO.c1
        have cR0 := MM.out.bR.c0
        have cR1 := MM.out.bR.c1
        have fR0 := MM.out.bR.fr 0
        have fR1 := MM.out.bR.fr 1
        obtain ⟨F1, F2, F3, F4⟩ := MM.out.fin
        have F1 := Lib.hid F1
        have F2 := Lib.hid F2
        have F3 := Lib.hid F3
        have F4 := Lib.hid F4
        go_wp2
        refine bodyPost_ret (results_cell_row rfl _ _ w.heap.size 26 _ (0, 0) _ rfl F1.out t2 rfl (by kernel_rfl)) rfl ?_
        exact ⟨_, L, _, rfl, rfl, HLr.out, F2.out, F3.out, F4.out⟩

theorem l02With_any (g B r c : Nat) (w : World) (hs : Src w g B) (hr : r ≤ 1000) (hc : c ≤ 60) :
    Calls Tryd.prog 83 #[.pointer (some ⟨g, 0, none⟩), .int .i64 r, .int .i64 c] w (WithRes B g r (fun x => x = (c : Int)) w) :=
  (l02With_eq g B r c w hs hr hc).mono fun e w' ⟨C, L, u, h1, h2, h3, h4⟩ => ⟨C, L, u, h1, h2, Nat.le_of_eq h3, h4⟩
end Go.Proofs.YtdojblmffmefgaaDoor
