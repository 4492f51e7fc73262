/-
  Joined: KMark, SBoxR, MBase.
-/
import Derived.Test.YtggebkcmokpcmaaZBHit04
import Derived.Test.YtggebkcmokpcmaaZBHit05
import Derived.Test.YtggebkcmokpcmaaZBHit02
import Derived.BigRegion
import Derived.Laws.ResultCell
section
namespace Go.Proofs.Ytggebkcmokpcmaa
open Go.RowKit
set_option linter.unusedVariables false
set_option maxRecDepth 100000

/-- All blocks are as they were but those of the rows VS. -/
def MRestK (m : Nat) (VS : Nat → Value) (w w' : World) : Prop := w.heap.size ≤ w'.heap.size ∧ ∀ b, b < w.heap.size → (∀ i, i < m → (VS i).ownBlock ≠ some b) → w'.heap[b]? = w.heap[b]?
theorem MRestK.refl (m : Nat) (VS : Nat → Value) (w : World) : MRestK m VS w w := ⟨Nat.le_refl _, fun _ _ _ => rfl⟩
theorem MRestK.grown {m : Nat} {VS : Nat → Value} {w wr w2 : World} (h : MRestK m VS w wr) {j : Nat} {vj : Value} (hj : j < m) (e : VS j = vj) (k : wr.grownBy w2 vj.ownBlock) : MRestK m VS w w2 :=
  ⟨Nat.le_trans h.1 k.size, fun b hb hn => (k.block b (Nat.lt_of_lt_of_le hb h.1) (fun e2 => hn j hj (by rw [e]; exact e2.symm))).trans (h.2 b hb hn)⟩

set_option maxHeartbeats 1000000 in
theorem markSS_from (k0 : Int) (hk0 : 0 ≤ k0) (V : Value) (m : Nat) (B : Nat) (VS : Nat → Value) (Y : Nat → List Int) (w : World) (h : Fam w B V m VS Y) (hs : Sep m VS)
    (hk : off k0 (fun i => (Y i).length) m ≤ 1152921504606846976) :
    Calls Try.prog 24 #[V, .int .i64 k0] w fun e w' => e = .returned (.int .i64 (off k0 (fun i => (Y i).length) m)) ∧ Fam w' B V m VS (mkd k0 Y m) ∧ Below B w w' ∧ MRestK m VS w w' := by
  obtain ⟨a, cap, hV, hm, hc⟩ := h.head
  unfold maxLen at hm
  by_cases h0 : m = 0
  · subst h0
    subst hV
    clear hc
    have H := Lib.hid h
    go_enter Try.func24, Try.ntmps24
    go_wp2
    refine wp_loop_rounds 1 ?_
    rw [rounds_succ]
    go_wp2
    go_ret
    exact ⟨rfl, ⟨H.out.out, fun i hi => absurd hi (by omega)⟩, Below.refl _ _, MRestK.refl _ _ _⟩
  · obtain ⟨b, rfl, hc'⟩ := hc.resolve_left h0
    have hB0 : B ≤ b := by
      have := h.out.lt b (by rw [hV]; rfl)
      exact this.1
    have HK := Lib.hid hk
    have HS := Lib.hid hs
    have H := Lib.hid h
    have HV := Lib.hid hV
    generalize hL : (fun i => (Y i).length) = L at hk ⊢
    have HL := Lib.hid hL
    clear hL hc hc' h0 hs h
    rw [HV.out]
    clear hV
    go_enter Try.func24, Try.ntmps24
    go_wp2
    go_loopw [1, 5] (fun c i wr => ∃ j : Nat, j ≤ m ∧ i = .int .i64 j ∧ c = .int .i64 (off k0 L j) ∧ Hid (Fam wr B V m VS (mkd k0 Y j)) ∧ Hid (Below B w wr) ∧ Hid (MRestK m VS w wr)) (fun _ i _ => m - (intOf i).toNat)
    case atStart => exact ⟨0, by omega, rfl, rfl, Lib.hid ⟨H.out.out, fun i hi => by rw [show mkd k0 Y 0 i = Y i by unfold mkd; rw [if_neg (by omega)]]; exact H.out.inn i hi⟩, Lib.hid (Below.refl _ _), Lib.hid (MRestK.refl _ _ _)⟩
    case round =>
      obtain ⟨j, hj, rfl, rfl, hF, hB, hR⟩ := hrel
      by_cases hlt : j < m
      · have hlt' : (j : Int) < (m : Int) := by omega
        have c1 : wr.cell? ⟨b, j, none⟩ = some (VS j) := by
          obtain ⟨a', cap', hV', _, hc'⟩ := hF.out.head
          rw [HV.out] at hV'
          cases hV'
          obtain ⟨b', e, hc''⟩ := hc'.resolve_left (by omega)
          cases e
          exact hc'' j hlt
        have hlow := off_low k0 L j
        have hup := off_le k0 L (j + 1) m (by omega)
        have hsm : off k0 L m ≤ 1152921504606846976 := by rw [← HL.out]; exact HK.out
        have hnx : off k0 L (j + 1) = off k0 L j + (L j : Int) := rfl
        have hY : mkd k0 Y j j = Y j := by unfold mkd; rw [if_neg (by omega)]
        have hLj : (Y j).length = L j := by rw [← HL.out]
        have hin := hF.out.inn j hlt
        rw [hY, hLj] at hin
        have M := Lib.hid (markInt64S_own (VS j) (L j) _ (off k0 L j) B wr (by omega) (by omega) (by omega) hin)
        have NX : Hid (off k0 L (j + 1) = off k0 L j + (L j : Int)) := Lib.hid hnx
        clear hin hY hLj hnx hup hlow hsm hk
        generalize hvj : VS j = vj at c1 M
        have HVJ := Lib.hid hvj
        clear hvj
        go_wp2_with fail
        refine M.out.mono ?_
        rintro e w2 ⟨rfl, ho2, hg2, hs2⟩
        have F2 : Hid (Fam w2 B V m VS (mkd k0 Y (j + 1))) := by
          refine Lib.hid ⟨?_, fun i hi => ?_⟩
          · refine hF.out.out.kept hg2 ?_
            rw [← HVJ.out]
            exact own_types hF.out.out (hF.out.inn j hlt) (by decide)
          · by_cases e : i = j
            · subst e
              have e2 : mkd k0 Y (i + 1) i = marks (off k0 L i) (L i) := by unfold mkd; rw [if_pos (by omega), HL.out, ← HL.out]
              rw [e2, marks_length, HVJ.out]
              exact ho2
            · have e2 : mkd k0 Y (j + 1) i = mkd k0 Y j i := by
                unfold mkd
                by_cases h1 : i < j
                · rw [if_pos h1, if_pos (by omega)]
                · rw [if_neg h1, if_neg (by omega)]
              rw [e2]
              refine (hF.out.inn i hi).kept hg2 ?_
              rw [← HVJ.out]
              exact HS.out i j hi hlt e
        have hsz : B ≤ wr.heap.size := by
          have h1 := (hF.out.out.lt b (by rw [HV.out]; rfl))
          omega
        have B2 : Hid (Below B w w2) := Lib.hid (hB.out.grown hg2 hsz (fun k hk2 => ((hF.out.inn j hlt).lt k (by rw [HVJ.out]; exact hk2.symm ▸ rfl)).1))
        have R2 : Hid (MRestK m VS w w2) := Lib.hid (hR.out.grown hlt HVJ.out hg2)
        clear hg2 ho2 hs2 hF hB hR M
        go_wp2
        go_roundw
        case rel => exact ⟨j + 1, by omega, by go_num, by rw [NX.out], F2, B2, R2⟩
        case measure => simp [intOf]; omega
      · obtain rfl : j = m := by omega
        go_wp2
        go_ret
        exact ⟨rfl, by rw [← HV.out]; exact hF.out, hB.out, hR.out⟩


theorem off_any (k : Int) (X : Nat → List Int) (m : Nat) : off k (fun i => (X i).length) m = k + (tot X m : Int) := by
  induction m with
  | zero => simp [off, tot]
  | succ m ih => rw [off, ih, tot]; omega
theorem tot_bound (X : Nat → List Int) (c m : Nat) (h : ∀ i, (X i).length ≤ c) : tot X m ≤ c * m := by
  induction m with
  | zero => exact Nat.zero_le _
  | succ m ih => rw [tot, Nat.mul_succ]; have := h m; omega

/-- The rows of two families lie apart. -/
def FApart (m : Nat) (VA : Nat → Value) (n : Nat) (VB : Nat → Value) : Prop := ∀ i j, i < m → j < n → (VA i).ownBlock = none ∨ (VA i).ownBlock ≠ (VB j).ownBlock
theorem fam_apart {w w' : World} {B : Nat} {V V' : Value} {m n : Nat} {VA VB : Nat → Value} {X Y : Nat → List Int} (h : Fam w B V m VA X) (k : Fam w' w.heap.size V' n VB Y) : FApart m VA n VB := fun i j hi hj => own_apart (h.inn i hi) (k.inn j hj)
theorem FApart.symm {m n : Nat} {VA VB : Nat → Value} (h : FApart m VA n VB) : FApart n VB m VA := fun i j hi hj => apart_swap (h j i hj hi)
theorem Fam.rest {w w' : World} {B B' : Nat} {V V' : Value} {m n : Nat} {VA VB : Nat → Value} {X Y : Nat → List Int} (h : Fam w B V m VA X) (k : Fam w B' V' n VB Y) (r : MRestK n VB w w') (ap : FApart m VA n VB) : Fam w' B V m VA X := by
  refine ⟨own_sameblock h.out fun g hg => r.2 g (h.out.lt g hg).2 fun i hi e => ?_, fun i hi => own_sameblock (h.inn i hi) fun g hg => r.2 g ((h.inn i hi).lt g hg).2 fun j hj e => ?_⟩
  · rcases own_types h.out (k.inn i hi) (by decide) with h1 | h1
    · rw [h1] at hg; cases hg
    · exact h1 (hg.trans e.symm)
  · rcases ap i j hi hj with h1 | h1
    · rw [h1] at hg; cases hg
    · exact h1 (hg.trans e.symm)
end Go.Proofs.Ytggebkcmokpcmaa
end
section
namespace Go.Proofs.Ytggebkcmokpcmaa
open Go.RowKit
set_option linter.unusedVariables false
set_option maxRecDepth 100000

/-- A struct of one cell and a number as results. -/
theorem results_box1_tmp {fn : Func} {p u : Tmp} {t : TypeId} (h : fn.results = #[.cell p t, .tmp u]) (tmps : Array Value) (w : World) (g : Nat) (x : Value) (fs : Array Field)
    (hp : tmps.getD p undef = .pointer (some ⟨g, 0, none⟩)) (hg : Box1 w g t x)
    (hu : Try.prog.underlying t = some (.struct fs)) (hi : (Try.prog.info? t).map (·.size) = some 1) :
    (results fn tmps).run Try.prog w = .ok (.tuple #[.agg #[x], tmps.getD u undef]) w := by
  rw [results_cell_tmp h, hp]
  have := run_loadVar_row (P := Try.prog) w g t t #[x] (0, 0) (.struct fs) hg hu rfl hi
  show ((loadVar t ⟨g, 0, none⟩).run Try.prog w).andThen _ = _
  rw [this]
  rfl

theorem MRestK.box {m : Nat} {VS : Nat → Value} {w w' : World} {o : Obj} (h : MRestK m VS (w.alloc o) w') : MRestK m VS w w' := by
  refine ⟨Nat.le_trans (by simp) h.1, fun b hb hn => (h.2 b (by simp; omega) hn).trans (heap_alloc_old w o hb)⟩

/-- What returns a struct of lists and a code. -/
def ResS (L : List (List Int)) (cd : Int) (w : World) (e : Ending) (w' : World) : Prop :=
  ∃ V VS, e = .returned (.tuple #[.agg #[V], .int .i64 cd]) ∧ FamL w' w.heap.size V VS L ∧ Sep L.length VS ∧ Below w.heap.size w w'

theorem famNil (w : World) (g : Nat) : FamL w g (.slice none 0 0) (fun _ => undef) [] := ⟨World.ownsRow_nil _ _ _ _, fun i hi => absurd hi (Nat.not_lt_zero _)⟩
theorem sepNil : Sep ([] : List (List Int)).length (fun _ => undef) := fun i j hi => absurd hi (Nat.not_lt_zero _)

theorem resS_nil (w : World) (cd : Int) {t : TypeId} : ResS [] cd w (.returned (.tuple #[.agg #[.slice none 0 0], .int .i64 cd])) (w.alloc (.cells #[.slice none 0 0] t)) :=
  ⟨_, fun _ => undef, rfl, ⟨World.ownsRow_nil _ _ _ _, fun i hi => absurd hi (Nat.not_lt_zero _)⟩, fun i j hi => absurd hi (Nat.not_lt_zero _), (Below.refl _ w).alloc (Nat.le_refl _) _⟩

theorem belD1 {w w' : World} (k : Below (w.drewN 1).heap.size (w.drewN 1) w') : Below w.heap.size w w' := (Below.refl _ w).drew.trans k

section
variable {w w' : World} {g : Nat} {m : Nat} {VS : Nat → Value}
/-- A box's block is no row's. -/
theorem Box1.ne_own {t : TypeId} {x v : Value} {B n : Nat} {e : TypeId} {xs : List Value} (h : Box1 w g t x) (o : w.ownsRow B e 1 v n xs) (he : e ≠ t) : ∀ q, v.ownBlock = some q → q ≠ g := by
  intro q hq eq
  subst eq
  rcases o.2 with ⟨rfl, _⟩ | ⟨q', cap', cur, rfl, _, hG, _⟩
  · cases hq
  · simp only [Value.ownBlock, Option.some.injEq] at hq
    subst hq
    unfold Box1 at h
    rw [hG] at h
    simp only [Option.some.injEq, Obj.cells.injEq] at h
    exact he h.2.1
theorem Box1.restK {t : TypeId} {x : Value} {n B B' : Nat} {V' : Value} {VB : Nat → Value} {Y : Nat → List Int} (h : Box1 w g t x) (ht : 2 ≠ t) (k : Fam w B V' n VB Y) (r : MRestK n VB w w') : Box1 w' g t x :=
  (r.2 g h.lt fun i hi e => h.ne_own (k.inn i hi) ht g e rfl).trans h
end
end Go.Proofs.Ytggebkcmokpcmaa
end
section
namespace Go.Proofs.Ytggebkcmokpcmaa
open Go.RowKit
set_option linter.unusedVariables false
set_option maxRecDepth 100000

theorem _root_.Go.World.ownsRow.shape {w : World} {B : Nat} {v : Value} {n : Nat} {xs : List Value} {e : TypeId} {s : Nat} (h : w.ownsRow B e s v n xs) : ∃ a cap, v = .slice a n cap := by
  rcases h.2 with ⟨rfl, h0⟩ | ⟨g, cap, cur, rfl, _⟩
  · exact ⟨none, 0, by rw [h0]⟩
  · exact ⟨_, cap, rfl⟩

/-- Block g holds a struct of two cells. -/
def Box (w : World) (g : Nat) (t : TypeId) (x y : Value) : Prop := w.heap[g]? = some (.cells #[x, y] t (0, 0))
section
variable {w w' : World} {g : Nat} {t : TypeId} {x y : Value}
theorem Box.lt (h : Box w g t x y) : g < w.heap.size := (Array.getElem?_eq_some_iff.1 h).1
theorem Box.c0 (h : Box w g t x y) : w.cell? ⟨g, 0, none⟩ = some x := cell_of_row w g 0 _ _ (0, 0) h
theorem Box.c1 (h : Box w g t x y) : w.cell? ⟨g, 1, none⟩ = some y := cell_of_row w g 1 _ _ (0, 0) h
theorem Box.fr (h : Box w g t x y) (i : Nat) : w.frozen? ⟨g, i, none⟩ = false := by unfold Box at h; simp [World.frozen?, h]
theorem Box.new (w : World) (t : TypeId) (x y : Value) : Box (w.alloc (.cells #[x, y] t)) w.heap.size t x y := heap_alloc_new w _
theorem Box.alloc (h : Box w g t x y) (o : Obj) : Box (w.alloc o) g t x y := (heap_alloc_old w o h.lt).trans h
theorem Box.below {B : Nat} (h : Box w g t x y) (k : Below B w w') (hg : g < B) : Box w' g t x y := (k.block g hg).trans h
theorem Box.up (h : Box w g t x y) (k : Below w.heap.size w w') : Box w' g t x y := h.below k h.lt
theorem Box.drewN (h : Box w g t x y) (q : Nat) : Box (w.drewN q) g t x y := h
theorem Box.set0 (h : Box w g t x y) (v : Value) : Box (w.setCell ⟨g, 0, none⟩ v) g t v y := heap_setCell_same w g 0 _ t v h
theorem Box.set1 (h : Box w g t x y) (v : Value) : Box (w.setCell ⟨g, 1, none⟩ v) g t x v := heap_setCell_same w g 1 _ t v h
theorem Box.other (h : Box w g t x y) (a : Addr) (v : Value) (hne : g ≠ a.block) : Box (w.setCell a v) g t x y := (heap_setCell_other w a g v hne).trans h
end

end Go.Proofs.Ytggebkcmokpcmaa
end
