/-
  Contracts: plainRows, reduceAll with the method add, spaceOf.
-/
import Derived.Test.YtdojblmffmefgaaDoorDAdd
import Derived.Test.YtdojblmffmefgaaDoorPlainKer
import Derived.OwnWalk
namespace Go.Proofs.YtdojblmffmefgaaDoor
open Go.RowKit
set_option linter.unusedVariables false
set_option maxRecDepth 100000

theorem Tryd.infoT : (Tryd.prog.info? 91).map (fun i => (i.zero, i.size, i.bytes)) = some (some (.agg #[.int .i64 0, .int .i64 0]), 2, 16) := by kernel_rfl

/-- The cells of n rows with traces. -/
def tc (R : Nat → TR) (n : Nat) : List Value := (List.range (n * 2)).map fun q => Value.int .i64 (((if q % 2 = 0 then (R (q / 2)).1 else (R (q / 2)).2 : Nat) : Nat) : Int)
theorem tc_length (R : Nat → TR) (n : Nat) : (tc R n).length = n * 2 := by simp [tc]
theorem tc_at0 (R : Nat → TR) (n i : Nat) (h : i < n) : (tc R n)[i * 2]? = some (.int .i64 (((R i).1 : Nat) : Int)) := by
  have h1 : i * 2 < n * 2 := by omega
  have h2 : i * 2 % 2 = 0 := by omega
  have h3 : i * 2 / 2 = i := by omega
  simp [tc, h1, h3]
theorem tc_at1 (R : Nat → TR) (n i : Nat) (h : i < n) : (tc R n)[i * 2 + 1]? = some (.int .i64 (((R i).2 : Nat) : Int)) := by
  have h1 : i * 2 + 1 < n * 2 := by omega
  have h2 : (i * 2 + 1) % 2 = 1 := by omega
  have h3 : (i * 2 + 1) / 2 = i := by omega
  simp [tc, h1, h2, h3]
theorem tc_congr {R S : Nat → TR} {n : Nat} (h : ∀ i, i < n → R i = S i) : tc R n = tc S n := by
  unfold tc
  apply List.map_congr_left
  intro q hq
  rw [h (q / 2) (by have := List.mem_range.1 hq; omega)]
theorem tc_set0 (R : Nat → TR) (n i x : Nat) : (tc R n).set (i * 2) (.int .i64 (x : Int)) = tc (fun j => if j = i then (x, (R i).2) else R j) n := by
  apply List.ext_getElem
  · simp [tc]
  · intro q h1 h2
    simp only [tc, List.getElem_set, List.getElem_map, List.getElem_range]
    by_cases e : i * 2 = q
    · subst e
      have h3 : i * 2 % 2 = 0 := by omega
      have h4 : i * 2 / 2 = i := by omega
      simp [h4]
    · rw [if_neg e]
      by_cases e2 : q / 2 = i
      · have h3 : q % 2 ≠ 0 := by omega
        simp [e2, h3]
      · simp [e2]
theorem tc_set1 (R : Nat → TR) (n i x : Nat) : (tc R n).set (i * 2 + 1) (.int .i64 (x : Int)) = tc (fun j => if j = i then ((R i).1, x) else R j) n := by
  apply List.ext_getElem
  · simp [tc]
  · intro q h1 h2
    simp only [tc, List.getElem_set, List.getElem_map, List.getElem_range]
    by_cases e : i * 2 + 1 = q
    · subst e
      have h3 : (i * 2 + 1) % 2 = 1 := by omega
      have h4 : (i * 2 + 1) / 2 = i := by omega
      simp [h3, h4]
    · rw [if_neg e]
      by_cases e2 : q / 2 = i
      · have h3 : q % 2 = 0 := by omega
        simp [e2, h3]
      · simp [e2]
theorem tc_set (R : Nat → TR) (n i : Nat) (r : TR) : ((tc R n).set (i * 2) (.int .i64 ((r.1 : Nat) : Int))).set (i * 2 + 1) (.int .i64 ((r.2 : Nat) : Int)) = tc (fun j => if j = i then r else R j) n := by
  rw [tc_set0, tc_set1]
  apply tc_congr
  intro j _
  by_cases e : j = i
  · simp [e]
  · simp [e]
theorem tc_made (n : Nat) : (madeCells (Value.cells (.agg #[.int .i64 0, .int .i64 0])) (n * 2)).toList = tc (fun _ => (0, 0)) n := by
  apply List.ext_getElem
  · simp [tc, madeCells]
  · intro q h1 h2
    have : q % 2 = 0 ∨ q % 2 = 1 := by omega
    rcases this with e | e <;> simp [tc, madeCells, Value.cells, e]

/-- The first j rows are in. -/
def upTo (R : Nat → TR) (j : Nat) : Nat → TR := fun i => if i < j then R i else (0, 0)
theorem upTo_zero (R : Nat → TR) : upTo R 0 = fun _ => (0, 0) := by funext i; simp [upTo]
theorem upTo_succ (R : Nat → TR) (j : Nat) : (fun i => if i = j then R j else upTo R j i) = upTo R (j + 1) := by
  funext i
  unfold upTo
  by_cases e : i = j
  · subst e; simp
  · by_cases h : i < j
    · rw [if_neg e, if_pos h, if_pos (by omega)]
    · rw [if_neg e, if_neg h, if_neg (by omega)]

theorem plainRows_any (s : Value) (L : List Nat) (w : World) (h : RdN w s L) (hl : L.length ≤ 200) :
    Calls Tryd.prog 104 #[s] w fun e w' => ∃ u, e = .returned u ∧ w'.ownsRow w.heap.size 91 2 u L.length (tc (fun i => (L.getD i 0, 0)) L.length) ∧ Below w.heap.size w w' := by
  obtain ⟨i0, hi, hz0, hz1, hz2⟩ := info_parts Tryd.infoT
  have H := Lib.hid h
  obtain ⟨a, cap, rfl, hm, hc⟩ := h
  generalize hR : (fun i => ((L.getD i 0, 0) : TR)) = R
  have HR : Hid (∀ i, R i = (L.getD i 0, 0)) := Lib.hid (fun i => by rw [← hR])
  generalize hn : L.length = n at *
  have HN := Lib.hid hn
  clear hR hn hc
  have t3 := Tryd.underlying91
  go_enter Tryd.func104, Tryd.ntmps104
  go_wp2_with (at_make; refine wpList_make_full _ rfl _ _ 95 rfl w.heap.size 91 i0 (.agg #[.int .i64 0, .int .i64 0]) 2 Tryd.underlying95 hi hz0 hz1 .i64 .i64 (n : Int) (n : Int) n rfl rfl rfl rfl (by rw [hz2]; omega) hm (Nat.le_refl _) ?_; intro w1 hown hgrow; rw [tc_made, ← upTo_zero R] at hown; have H1 := Lib.hid hown; have G1 := Lib.hid hgrow; clear hown hgrow)
  have B1 : Below w.heap.size w w1 := (Below.refl _ w).grown G1.out (Nat.le_refl _) (by intro k hk; cases hk)
  clear G1
  unfold maxLen at hm
  go_loopw [4, 5, 11] (fun _ _ c wr => ∃ j : Nat, j ≤ n ∧ c = .int .i64 j ∧ Hid (wr.ownsRow w.heap.size 91 2 (.slice (some ⟨w.heap.size, 0, none⟩) n n) n (tc (upTo R j) n)) ∧ Below w.heap.size w wr) (fun _ _ c _ => n - (intOf c).toNat)
  case atStart => exact ⟨0, by omega, rfl, H1, B1⟩
  case round =>
    clear H1 B1
    obtain ⟨j, hj, rfl, ho, hb⟩ := hrel
    by_cases hlt : j < n
    · have hlt' : (j : Int) < (n : Int) := by omega
      have RJ := H.out.below hb
      unfold RdN at RJ
      rw [HN.out] at RJ
      obtain ⟨_, _, e, _, hc⟩ := RJ
      cases e
      obtain ⟨b, off, rfl, hc2⟩ := hc.resolve_left (by omega)
      have c1 : wr.cell? ⟨b, off + j, none⟩ = some (.int .i64 ((L.getD j 0 : Nat) : Int)) := hc2 j hlt
      clear hc hc2
      have c2 := ho.out.cellAt (j * 2) (by omega)
      rw [tc_at0 _ _ _ hlt] at c2
      have f2 := ho.out.frozenAt (j * 2)
      have hst := ho.out.stored (j * 2) (.int .i64 ((L.getD j 0 : Nat) : Int))
      have ej : (L.getD j 0, (upTo R j j).2) = R j := by rw [HR.out]; simp [upTo]
      rw [tc_set0, ej, upTo_succ] at hst
      have HS := Lib.hid hst
      have BS := Lib.hid (hb.setCell (p := ⟨w.heap.size, j * 2, none⟩) (Nat.le_refl _) (.int .i64 ((L.getD j 0 : Nat) : Int)))
      clear hst ho ej
      generalize L.getD j 0 = x at *
      generalize (upTo R j j).1 = y at c2
      go_wp2
      go_roundw
      case rel => exact ⟨j + 1, by omega, by go_num, Lib.hid HS.out.1, BS.out⟩
      case measure => simp [intOf]; omega
    · obtain rfl : j = n := by omega
      have E : Hid (tc (upTo R j) j = tc R j) := Lib.hid (tc_congr fun i hi => by unfold upTo; rw [if_pos hi])
      go_wp2
      go_ret
      exact ⟨_, rfl, by rw [← E.out]; exact ho.out, hb⟩

/-- v reads as n rows with traces. -/
def RdT (w : World) (v : Value) (n : Nat) (R : Nat → TR) : Prop :=
  ∃ a cap, v = .slice a n cap ∧ (n = 0 ∨ ∃ b, a = some ⟨b, 0, none⟩ ∧ ∃ cs : Array Value, w.heap[b]? = some (.cells cs 91 (0, 0)) ∧ ∀ i, i < n → cs[i * 2]? = some (.int .i64 (((R i).1 : Nat) : Int)) ∧ cs[i * 2 + 1]? = some (.int .i64 (((R i).2 : Nat) : Int)))
theorem rdt_of_own {w : World} {B n : Nat} {v : Value} {R : Nat → TR} (h : w.ownsRow B 91 2 v n (tc R n)) : RdT w v n R := by
  rcases h.2 with ⟨rfl, h0⟩ | ⟨b, cap, cur, rfl, hb, hg, hnc, hcm, hcs, ht⟩
  · exact ⟨none, 0, by rw [h0], .inl h0⟩
  · refine ⟨_, cap, rfl, .inr ⟨b, rfl, cur, hg, fun i hi => ?_⟩⟩
    have a0 := tc_at0 R n i hi
    have a1 := tc_at1 R n i hi
    rw [← ht, List.getElem?_take, if_pos (by omega)] at a0 a1
    exact ⟨by simpa using a0, by simpa using a1⟩
theorem RdT.up {w w' : World} {v : Value} {n : Nat} {R : Nat → TR} (h : RdT w v n R) (k : Below w.heap.size w w') : RdT w' v n R := by
  obtain ⟨a, cap, e, h⟩ := h
  refine ⟨a, cap, e, ?_⟩
  rcases h with h0 | ⟨b, e2, cs, hb, hc⟩
  · exact .inl h0
  · exact .inr ⟨b, e2, cs, (k.block b (Array.getElem?_eq_some_iff.1 hb).1).trans hb, hc⟩
theorem RdT.grown {w w' : World} {v : Value} {n g : Nat} {R S : Nat → TR} (h : RdT w v n R) (hS : Sp w g S) (k : w.grownBy w' (some g)) : RdT w' v n R := by
  obtain ⟨a, cap, e, h⟩ := h
  refine ⟨a, cap, e, ?_⟩
  rcases h with h0 | ⟨b, e2, cs, hb, hc⟩
  · exact .inl h0
  · refine .inr ⟨b, e2, cs, (k.block b (Array.getElem?_eq_some_iff.1 hb).1 ?_).trans hb, hc⟩
    intro e3
    obtain rfl : b = g := by simpa using e3
    obtain ⟨cs2, h1, _⟩ := hS
    rw [hb] at h1
    simp at h1
theorem RdT.at {w : World} {a : Option Addr} {n cap i : Nat} {R : Nat → TR} (h : RdT w (.slice a n cap) n R) (hi : i < n) : ∃ b, a = some ⟨b, 0, none⟩ ∧ w.cell? ⟨b, i * 2, none⟩ = some (.int .i64 (((R i).1 : Nat) : Int)) ∧ w.cell? ⟨b, i * 2 + 1, none⟩ = some (.int .i64 (((R i).2 : Nat) : Int)) := by
  obtain ⟨a', cap', e, h⟩ := h
  cases e
  obtain ⟨b, e2, cs, hb, hc⟩ := h.resolve_left (by omega)
  exact ⟨b, e2, by rw [cell_of_row w b (i * 2) cs _ _ hb]; exact (hc i hi).1, by rw [cell_of_row w b (i * 2 + 1) cs _ _ hb]; exact (hc i hi).2⟩

/-- The array behind the joining of the first rows of R, and what is left of each row. -/
def addN (S R : Nat → TR) : Nat → (Nat → TR)
  | 0 => S
  | i + 1 => addS (addN S R i) (R i)
def lft (S R : Nat → TR) (i : Nat) : TR := rmd (addN S R i) (R i) 60
theorem addN_piv {S R : Nat → TR} (h : Piv S) (n : Nat) (hR : ∀ i, i < n → (R i).1 < 2 ^ 60 ∧ (R i).2 < 2 ^ 60) (j : Nat) (hj : j ≤ n) : Piv (addN S R j) := by
  induction j with
  | zero => exact h
  | succ j ih => exact (ih (by omega)).add (R j) (hR j (by omega)).1 (hR j (by omega)).2
theorem T0.grown {w w' : World} {g : Nat} (h : T0 w) (k : w.grownBy w' (some g)) (hg : g ≠ 0) : T0 w' := fun j hj =>
  (World.cell?_of_block (k.block 0 (World.block_lt_of_cell? w _ (h j hj)) (by simpa using Ne.symm hg))).trans (h j hj)

set_option maxHeartbeats 2000000 in
theorem reduceAdd_any (g : Nat) (S : Nat → TR) (v : Value) (n : Nat) (R : Nat → TR) (w : World) (hv : RdT w v n R) (hS : Sp w g S) (hp : Piv S) (hR : ∀ i, i < n → (R i).1 < 2 ^ 60 ∧ (R i).2 < 2 ^ 60) (hn : n ≤ 200) (hT : T0 w) (hg : g ≠ 0) :
    Calls Tryd.prog 91 #[v, .func (.func 93) #[.pointer (some ⟨g, 0, none⟩)] #[]] w fun e w' => ∃ u, e = .returned u ∧ w'.ownsRow w.heap.size 91 2 u n (tc (lft S R) n) ∧ Sp w' g (addN S R n) ∧ w.grownBy w' (some g) := by
  obtain ⟨i0, hi, hz0, hz1, hz2⟩ := info_parts Tryd.infoT
  have HV := Lib.hid hv
  have HS := Lib.hid hS
  have HR := Lib.hid hR
  have PV := Lib.hid (addN_piv hp n hR)
  have HT := Lib.hid hT
  have GL := Lib.hid hS.lt
  obtain ⟨a, cap, rfl, _⟩ := hv
  clear hS hp hR hT
  have t3 := Tryd.underlying91
  go_enter Tryd.func91, Tryd.ntmps91
  go_wp2_with (at_make; refine wpList_make_full _ rfl _ _ 95 rfl w.heap.size 91 i0 (.agg #[.int .i64 0, .int .i64 0]) 2 Tryd.underlying95 hi hz0 hz1 .i64 .i64 (n : Int) (n : Int) n rfl rfl rfl rfl (by rw [hz2]; omega) (by unfold maxLen; omega) (Nat.le_refl _) ?_; intro w1 hown hgrow; rw [tc_made, ← upTo_zero (lft S R)] at hown; have H1 := Lib.hid hown; have G1 := Lib.hid hgrow; clear hown hgrow)
  have B1 : Below w.heap.size w w1 := (Below.refl _ w).grown G1.out (Nat.le_refl _) (by intro k hk; cases hk)
  have W1 := Lib.hid (grown_of_below B1 (some g))
  have S1 := Lib.hid (HS.out.up B1)
  clear G1 B1
  go_loopw [6, 7, 13] (fun _ _ c wr => ∃ j : Nat, j ≤ n ∧ c = .int .i64 j ∧ Hid (wr.ownsRow w.heap.size 91 2 (.slice (some ⟨w.heap.size, 0, none⟩) n n) n (tc (upTo (lft S R) j) n)) ∧ Hid (Sp wr g (addN S R j)) ∧ Hid (w.grownBy wr (some g))) (fun _ _ c _ => n - (intOf c).toNat)
  case atStart => exact ⟨0, by omega, rfl, H1, S1, W1⟩
  case round =>
    clear H1 S1 W1
    obtain ⟨j, hj, rfl, ho, hs, hw⟩ := hrel
    by_cases hlt : j < n
    · have hlt' : (j : Int) < (n : Int) := by omega
      obtain ⟨b, rfl, c0, c1⟩ := (HV.out.grown HS.out hw.out).at hlt
      have rj := HR.out j hlt
      have TJ := Lib.hid ((HT.out.grown hw.out hg).below ((Below.refl wr.heap.size wr).alloc (Nat.le_refl _) (.cells #[.int .i64 (((R j).1 : Nat) : Int), .int .i64 (((R j).2 : Nat) : Int)] 91)))
      have pj := PV.out j hj
      have AD := Lib.hid (add_any g (addN S R j) (R j) _ (hs.out.up ((Below.refl wr.heap.size wr).alloc (Nat.le_refl _) (.cells #[.int .i64 (((R j).1 : Nat) : Int), .int .i64 (((R j).2 : Nat) : Int)] 91))) (fun i hi => ⟨pj.lt i hi, pj.tl i hi⟩) rj TJ.out hg)
      have EL : Hid (rmd (addN S R j) (R j) 60 = lft S R j) := Lib.hid rfl
      have EN : Hid (addS (addN S R j) (R j) = addN S R (j + 1)) := Lib.hid rfl
      have HO := Lib.hid (own_below ho.out ((Below.refl wr.heap.size wr).alloc (Nat.le_refl _) (.cells #[.int .i64 (((R j).1 : Nat) : Int), .int .i64 (((R j).2 : Nat) : Int)] 91)))
      have GA := Lib.hid (grown_trans hw.out (grown_of_below ((Below.refl wr.heap.size wr).alloc (Nat.le_refl _) (.cells #[.int .i64 (((R j).1 : Nat) : Int), .int .i64 (((R j).2 : Nat) : Int)] 91)) (some g)))
      clear ho hs hw rj pj TJ
      unfold AddRes tv at AD
      generalize R j = r at *
      go_wp2_with fail
      refine AD.out.mono ?_
      rintro e w2 ⟨rfl, s2, k2⟩
      rw [EN.out] at s2
      have HO2 := Lib.hid (HO.out.kept k2 (.inr (by show some w.heap.size ≠ some g; have := GL.out; simp; omega)))
      have GA2 := Lib.hid (grown_trans GA.out k2)
      have S2 := Lib.hid s2
      clear s2 k2 AD EN HO GA c0 c1
      generalize rmd (addN S R j) r 60 = l at *
      have x0 := HO2.out.cellAt (j * 2) (by omega)
      have x1 := HO2.out.cellAt (j * 2 + 1) (by omega)
      rw [tc_at0 _ _ _ hlt] at x0
      rw [tc_at1 _ _ _ hlt] at x1
      have f0 := HO2.out.frozenAt (j * 2)
      have f1 := HO2.out.frozenAt (j * 2 + 1)
      have O3 := ((HO2.out.stored (j * 2) (.int .i64 ((l.1 : Nat) : Int))).1.stored (j * 2 + 1) (.int .i64 ((l.2 : Nat) : Int))).1
      rw [tc_set, EL.out, upTo_succ] at O3
      rw [← EL.out] at O3
      have O3 := Lib.hid O3
      have S3 := Lib.hid ((S2.out.other ⟨w.heap.size, j * 2, none⟩ (.int .i64 ((l.1 : Nat) : Int)) (by have := GL.out; simp; omega)).other ⟨w.heap.size, j * 2 + 1, none⟩ (.int .i64 ((l.2 : Nat) : Int)) (by have := GL.out; simp; omega))
      have G3 := Lib.hid (grown_new (b := w.heap.size) (i := j * 2 + 1) (v := .int .i64 ((l.2 : Nat) : Int)) (grown_new (b := w.heap.size) (i := j * 2) (v := .int .i64 ((l.1 : Nat) : Int)) GA2.out (Nat.le_refl _)) (Nat.le_refl _))
      clear HO2 GA2 S2
      generalize (upTo (lft S R) j j).1 = y0 at x0
      generalize (upTo (lft S R) j j).2 = y1 at x1
      go_wp2
      go_roundw
      case rel => exact ⟨j + 1, by omega, by go_num, O3, S3, G3⟩
      case measure => simp [intOf]; omega
    · obtain rfl : j = n := by omega
      have E : Hid (tc (upTo (lft S R) j) j = tc (lft S R) j) := Lib.hid (tc_congr fun i hi => by unfold upTo; rw [if_pos hi])
      go_wp2
      go_ret
      exact ⟨_, rfl, by rw [← E.out]; exact ho.out, hs.out, hw.out⟩
end Go.Proofs.YtdojblmffmefgaaDoor
