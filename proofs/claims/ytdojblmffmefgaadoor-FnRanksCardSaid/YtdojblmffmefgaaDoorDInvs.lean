/-
  Contracts: unitRows, reduceAll with the method remainder; InverseMatrix, both sides.
  InverseMatrix, both sides.
  InverseMatrix: the program's side, and both together.
  InverseMatrix: the ways that answer with an error, and both sides together.
-/
import Derived.Test.YtdojblmffmefgaaDoorDSolve
import Derived.Test.YtdojblmffmefgaaDoorMLaw2
namespace Go.Proofs.YtdojblmffmefgaaDoor
open Go.RowKit
set_option linter.unusedVariables false
set_option maxRecDepth 100000

/-- Unit rows, the first j. -/
def uni (j : Nat) : Nat → TR := fun i => if i < j then (2 ^ i, 0) else (0, 0)
theorem uni_zero : uni 0 = fun _ => (0, 0) := by funext i; simp [uni]
theorem uni_succ (j : Nat) : (fun i => if i = j then (2 ^ j, (uni j j).2) else uni j i) = uni (j + 1) := by
  funext i
  unfold uni
  by_cases e : i = j
  · subst e; simp
  · by_cases h : i < j
    · rw [if_neg e, if_pos h, if_pos (by omega)]
    · rw [if_neg e, if_neg h, if_neg (by omega)]

theorem unitRows_any (n : Nat) (w : World) (hn : n ≤ 60) :
    Calls Tryd.prog 101 #[.int .i64 n] w fun e w' => ∃ u, e = .returned u ∧ w'.ownsRow w.heap.size 91 2 u n (tc (fun i => (2 ^ i, 0)) n) ∧ Below w.heap.size w w' := by
  obtain ⟨i0, hi, hz0, hz1, hz2⟩ := info_parts Tryd.infoT
  have t3 := Tryd.underlying91
  go_enter Tryd.func101, Tryd.ntmps101
  go_wp2_with (at_make; refine wpList_make_full _ rfl _ _ 95 rfl w.heap.size 91 i0 (.agg #[.int .i64 0, .int .i64 0]) 2 Tryd.underlying95 hi hz0 hz1 .i64 .i64 (n : Int) (n : Int) n rfl rfl rfl rfl (by rw [hz2]; omega) (by unfold maxLen; omega) (Nat.le_refl _) ?_; intro w1 hown hgrow; rw [tc_made, ← uni_zero] at hown; have H1 := Lib.hid hown; have G1 := Lib.hid hgrow; clear hown hgrow)
  have B1 : Below w.heap.size w w1 := (Below.refl _ w).grown G1.out (Nat.le_refl _) (by intro k hk; cases hk)
  clear G1
  go_loopw [4, 9] (fun _ c wr => ∃ j : Nat, j ≤ n ∧ c = .int .i64 j ∧ Hid (wr.ownsRow w.heap.size 91 2 (.slice (some ⟨w.heap.size, 0, none⟩) n n) n (tc (uni j) n)) ∧ Below w.heap.size w wr) (fun _ c _ => n - (intOf c).toNat)
  case atStart => exact ⟨0, by omega, rfl, H1, B1⟩
  case round =>
    clear H1 B1
    obtain ⟨j, hj, rfl, ho, hb⟩ := hrel
    by_cases hlt : j < n
    · have hlt' : (j : Int) < (n : Int) := by omega
      have c2 := ho.out.cellAt (j * 2) (by omega)
      rw [tc_at0 _ _ _ hlt] at c2
      have f2 := ho.out.frozenAt (j * 2)
      have hst := ho.out.stored (j * 2) (.int .i64 (wrap64 (2 ^ j)))
      rw [wrap_two j (by omega), tc_set0, uni_succ] at hst
      rw [← wrap_two j (by omega)] at hst
      have HS := Lib.hid hst
      have BS := Lib.hid (hb.setCell (p := ⟨w.heap.size, j * 2, none⟩) (Nat.le_refl _) (.int .i64 (wrap64 (2 ^ j))))
      clear hst ho
      generalize (uni j j).1 = y at c2
      go_wp2
      go_roundw
      case rel => exact ⟨j + 1, by omega, by go_num, Lib.hid HS.out.1, BS.out⟩
      case measure => simp [intOf]; omega
    · obtain rfl : j = n := by omega
      have E : Hid (tc (uni j) j = tc (fun i => (2 ^ i, 0)) j) := Lib.hid (tc_congr fun i hi => by unfold uni; rw [if_pos hi])
      go_wp2
      go_ret
      exact ⟨_, rfl, by rw [← E.out]; exact ho.out, hb⟩

set_option maxHeartbeats 2000000 in
theorem reduceRem_any (g : Nat) (S : Nat → TR) (v : Value) (n : Nat) (R : Nat → TR) (w : World) (hv : RdT w v n R) (hS : Sp w g S) (hp : okS S) (hR : ∀ i, i < n → (R i).1 < 2 ^ 60 ∧ (R i).2 < 2 ^ 60) (hn : n ≤ 200) :
    Calls Tryd.prog 91 #[v, .func (.func 90) #[.pointer (some ⟨g, 0, none⟩)] #[]] w fun e w' => ∃ u, e = .returned u ∧ w'.ownsRow w.heap.size 91 2 u n (tc (fun i => rmd S (R i) 60) n) ∧ Below w.heap.size w w' := by
  obtain ⟨i0, hi, hz0, hz1, hz2⟩ := info_parts Tryd.infoT
  have HV := Lib.hid hv
  have HS := Lib.hid hS
  have HR := Lib.hid hR
  have HP := Lib.hid hp
  obtain ⟨a, cap, rfl, _⟩ := hv
  generalize hF : (fun i => rmd S (R i) 60) = F0
  have HF : Hid (∀ i, rmd S (R i) 60 = F0 i) := Lib.hid (fun i => by rw [← hF])
  clear hS hp hR hF
  have t3 := Tryd.underlying91
  go_enter Tryd.func91, Tryd.ntmps91
  go_wp2_with (at_make; refine wpList_make_full _ rfl _ _ 95 rfl w.heap.size 91 i0 (.agg #[.int .i64 0, .int .i64 0]) 2 Tryd.underlying95 hi hz0 hz1 .i64 .i64 (n : Int) (n : Int) n rfl rfl rfl rfl (by rw [hz2]; omega) (by unfold maxLen; omega) (Nat.le_refl _) ?_; intro w1 hown hgrow; rw [tc_made, ← upTo_zero F0] at hown; have H1 := Lib.hid hown; have G1 := Lib.hid hgrow; clear hown hgrow)
  have B1 := Lib.hid ((Below.refl w.heap.size w).grown G1.out (Nat.le_refl _) (by intro k hk; cases hk))
  clear G1
  go_loopw [6, 7, 13] (fun _ _ c wr => ∃ j : Nat, j ≤ n ∧ c = .int .i64 j ∧ Hid (wr.ownsRow w.heap.size 91 2 (.slice (some ⟨w.heap.size, 0, none⟩) n n) n (tc (upTo F0 j) n)) ∧ Hid (Below w.heap.size w wr)) (fun _ _ c _ => n - (intOf c).toNat)
  case atStart => exact ⟨0, by omega, rfl, H1, B1⟩
  case round =>
    clear H1 B1
    obtain ⟨j, hj, rfl, ho, hb⟩ := hrel
    by_cases hlt : j < n
    · have hlt' : (j : Int) < (n : Int) := by omega
      obtain ⟨b, rfl, c0, c1⟩ := (HV.out.up hb.out).at hlt
      have rj := HR.out j hlt
      have AD := Lib.hid (remainder_any g S (R j) _ ((HS.out.up hb.out).up ((Below.refl wr.heap.size wr).alloc (Nat.le_refl _) (.cells #[.int .i64 (((R j).1 : Nat) : Int), .int .i64 (((R j).2 : Nat) : Int)] 91))) HP.out rj)
      have EL := Lib.hid (HF.out j)
      have HO := Lib.hid (own_below ho.out ((Below.refl wr.heap.size wr).alloc (Nat.le_refl _) (.cells #[.int .i64 (((R j).1 : Nat) : Int), .int .i64 (((R j).2 : Nat) : Int)] 91)))
      have GA := Lib.hid (hb.out.alloc hb.out.size (.cells #[.int .i64 (((R j).1 : Nat) : Int), .int .i64 (((R j).2 : Nat) : Int)] 91))
      clear ho hb rj
      unfold tv at AD
      generalize R j = r at *
      go_wp2_with fail
      refine AD.out.mono ?_
      rintro e w2 ⟨rfl, k2⟩
      have HO2 := Lib.hid (own_below HO.out k2)
      have GA2 := Lib.hid (GA.out.trans (k2.mono GA.out.size))
      clear k2 AD HO GA c0 c1
      generalize rmd S r 60 = l at *
      have x0 := HO2.out.cellAt (j * 2) (by omega)
      have x1 := HO2.out.cellAt (j * 2 + 1) (by omega)
      rw [tc_at0 _ _ _ hlt] at x0
      rw [tc_at1 _ _ _ hlt] at x1
      have f0 := HO2.out.frozenAt (j * 2)
      have f1 := HO2.out.frozenAt (j * 2 + 1)
      have O3 := ((HO2.out.stored (j * 2) (.int .i64 ((l.1 : Nat) : Int))).1.stored (j * 2 + 1) (.int .i64 ((l.2 : Nat) : Int))).1
      rw [tc_set, EL.out, upTo_succ] at O3
      rw [← EL.out] at O3
      have O3 := Lib.hid O3
      have G3 := Lib.hid ((GA2.out.setCell (p := ⟨w.heap.size, j * 2, none⟩) (Nat.le_refl _) (.int .i64 ((l.1 : Nat) : Int))).setCell (p := ⟨w.heap.size, j * 2 + 1, none⟩) (Nat.le_refl _) (.int .i64 ((l.2 : Nat) : Int)))
      clear HO2 GA2
      generalize (upTo F0 j j).1 = y0 at x0
      generalize (upTo F0 j j).2 = y1 at x1
      go_wp2
      go_roundw
      case rel => exact ⟨j + 1, by omega, by go_num, O3, G3⟩
      case measure => simp [intOf]; omega
    · obtain rfl : j = n := by omega
      have E : Hid (tc (upTo F0 j) j = tc F0 j) := Lib.hid (tc_congr fun i hi => by unfold upTo; rw [if_pos hi])
      go_wp2
      go_ret
      exact ⟨_, rfl, by rw [← E.out]; exact ho.out, hb.out⟩

set_option linter.unusedVariables false
set_option maxRecDepth 100000

theorem first_is (P : Nat → Prop) (n : Nat) : ∃ z, z ≤ n ∧ (∀ i, i < z → P i) ∧ (z < n → ¬ P z) := by
  induction n with
  | zero => exact ⟨0, Nat.le_refl _, fun i hi => absurd hi (Nat.not_lt_zero _), fun h => absurd h (Nat.lt_irrefl _)⟩
  | succ n ih =>
    obtain ⟨z, h1, h2, h3⟩ := ih
    by_cases hz : z < n
    · exact ⟨z, by omega, h2, fun _ => h3 hz⟩
    · have e : z = n := by omega
      subst e
      by_cases hP : P z
      · refine ⟨z + 1, Nat.le_refl _, fun i hi => ?_, fun h => absurd h (Nat.lt_irrefl _)⟩
        by_cases e : i = z
        · subst e; exact hP
        · exact h2 i (by omega)
      · exact ⟨z, by omega, h2, fun _ => hP⟩

/-- The i-th solution: what is left, and its trace. -/
def sol (R : List Nat) (i : Nat) : TR := rml (kruns (fun i => R.getD i 0) R.length).D (kruns (fun i => R.getD i 0) R.length).M (2 ^ i, 0)
def remI (R : List Nat) (i : Nat) : TR := rmd (krunS (fun i => R.getD i 0) R.length) (2 ^ i, 0) 60
def invs (f : Nat → TR) (j : Nat) : List Nat := (List.range j).map fun i => (f i).2
theorem invs_succ (f : Nat → TR) (j : Nat) : invs f (j + 1) = invs f j ++ [(f j).2] := by simp [invs, List.range_succ]
theorem invs_length (f : Nat → TR) (j : Nat) : (invs f j).length = j := by simp [invs]

structure Inv (f : Nat → TR) (n : Nat) (C : Int) (L : List Int) (cd : Int) : Prop where
  bad : (∃ i, i < n ∧ (f i).1 ≠ 0) → C = 0 ∧ L = [] ∧ cd = 5
  good : (∀ i, i < n → (f i).1 = 0) → C = n ∧ L = nI (invs f n) ∧ cd = 0

theorem Inv.both {R : List Nat} (hl : R.length ≤ 60) (hR : ∀ x ∈ R, x < 2 ^ 60) {C : Int} {L : List Int} {cd : Int} (h : Inv (sol R) R.length C L cd) : Inv (remI R) R.length C L cd := by
  have S : ∀ i, i < R.length → ((sol R i).1 = 0 ↔ (remI R i).1 = 0) ∧ ((remI R i).1 = 0 → (sol R i).2 = (remI R i).2) := fun i hi => by
    have := solve_same (fun i => R.getD i 0) R.length (2 ^ i) hl (fun i hi => getD_lt' hR i hi)
    exact ⟨this.1, fun z => (this.2 z).1⟩
  refine ⟨fun ⟨i, hi, h0⟩ => h.bad ⟨i, hi, fun z => h0 ((S i hi).1.1 z)⟩, fun hg => ?_⟩
  obtain ⟨a, b, c⟩ := h.good (fun i hi => (S i hi).1.2 (hg i hi))
  refine ⟨a, ?_, c⟩
  rw [b]
  congr 1
  apply List.map_congr_left
  intro i hi
  exact (S i (List.mem_range.1 hi)).2 (hg i (List.mem_range.1 hi))
theorem inv_ex (f : Nat → TR) (n : Nat) (hn : n ≤ 60) : ∃ C L cd, Inv f n C L cd ∧ L.length ≤ 200 := by
  by_cases h : ∀ i, i < n → (f i).1 = 0
  · exact ⟨n, nI (invs f n), 0, ⟨fun ⟨i, hi, h0⟩ => absurd (h i hi) h0, fun _ => ⟨rfl, rfl, rfl⟩⟩, by rw [nI_length, invs_length]; omega⟩
  · exact ⟨0, [], 5, ⟨fun _ => ⟨rfl, rfl, rfl⟩, fun h2 => absurd h2 h⟩, by simp⟩

set_option maxHeartbeats 2000000 in
theorem specInv_in (n : Nat) (s : Value) (G : Nat → Int) (R : List Nat) (w : World) (h : RdI w s n G) (hi : isMat n n G = true) (hn : R.length = n) (hn6 : n ≤ 60) (hR : ∀ x ∈ R, x < 2 ^ 60) (hN : ∀ (w : World) (s : Value), RdI w s n G → RdN w s R)
    (C : Int) (L' : List Int) (cd : Int) (hres : Inv (sol R) n C L' cd) :
    Calls Tryd.prog 50 #[.agg #[.int .i64 n, s]] w (MRes C L' cd w) := by
  obtain ⟨z, hz, hgood, hbad⟩ := first_is (fun i => (sol R i).1 = 0) n
  have RB : Hid (z < n → C = 0 ∧ L' = [] ∧ cd = 5) := Lib.hid (fun hlt => hres.bad ⟨z, hlt, hbad hlt⟩)
  have RG : Hid (z = n → C = n ∧ L' = nI (invs (sol R) n) ∧ cd = 0) := Lib.hid (fun e => hres.good (fun i hi => hgood i (by omega)))
  have HG := Lib.hid hgood
  have HB := Lib.hid hbad
  have H := Lib.hid h
  have SLV := Lib.hid (fun (w : World) (s : Value) (hw : RdI w s n G) (i : Nat) (hi : i < 60) => l02Solve_any s R w (hN w s hw) hR (by omega) (2 ^ i) (pow_lt60 hi))
  obtain ⟨a, cap, rfl, hm, hc⟩ := h
  clear hc hres hgood hbad hN hR
  have t2 := Tryd.underlying26
  obtain ⟨w2, hw2, B2, XA, XR, HR⟩ := box_two (c := n) H.out
  have SI := Lib.hid (specIs_any n _ n G w2 HR)
  have B2 := Lib.hid B2
  have XA := Lib.hid XA
  have XR := Lib.hid XR
  have HR := Lib.hid HR
  rw [hi] at SI
  clear hi
  go_enter Tryd.func50, Tryd.ntmps50
  go_wp2_with fail
  rw [← hw2]
  clear hw2
  refine SI.out.mono ?_
  rintro e w3 ⟨rfl, b3⟩
  have B3 := Lib.hid (B2.out.trans (b3.mono B2.out.size))
  have XA3 := Lib.hid (XA.out.up b3)
  have XR3 := Lib.hid (XR.out.up b3)
  clear b3 B2 XR XA HR SI
  have S4 : Hid (Bld w w.heap.size (w.heap.size + 1) w3.heap.size (.int .i64 n) (.slice a n cap) n (.slice none 0 0) (nI (invs (sol R) 0)) (w3.alloc (.cells #[.int .i64 n, .slice none 0 0] 26))) := Lib.hid (by
    refine ⟨B3.out.alloc (B3.out.size) _, XA3.out.alloc _, XR3.out.alloc _, Box.new w3 _ _ _, World.ownsRow_nil _ _ _ _, by omega, by omega, B3.out.size, ?_, ?_⟩
    · have := XA3.out.lt; omega
    · have := XR3.out.lt; omega)
  have a0 := XA3.out.c0
  have a1 := XA3.out.c1
  go_wp2
  generalize (w3.alloc (.cells #[.int .i64 n, .slice none 0 0] 26)) = w4 at *
  clear a0 a1 XA3 XR3 B3
  generalize w3.heap.size = gO at *
  go_loopw [5] (fun c wr => ∃ (i : Nat) (v : Value), i ≤ z ∧ c = .int .i64 i ∧ Hid (Bld w w.heap.size (w.heap.size + 1) gO (.int .i64 n) (.slice a n cap) n v (nI (invs (sol R) i)) wr)) (fun c _ => n - (intOf c).toNat)
  case atStart => exact ⟨0, _, by omega, rfl, S4⟩
  case round =>
    clear S4
    obtain ⟨i, v, hi, rfl, S⟩ := hrel
    have LL := Lib.hid (show (nI (invs (sol R) i)).length = i by rw [nI_length, invs_length])
    have o0 := S.out.own
    rw [LL.out] at o0
    obtain ⟨va, vc, rfl⟩ := o0.shape
    have O := Lib.hid o0
    clear o0
    have cA0 := S.out.bA.c0
    have cA1 := S.out.bA.c1
    by_cases hlt : i < n
    · have hlt' : (i : Int) < (n : Int) := by omega
      have SV := SLV.out wr _ (H.out.below S.out.bel) i (by omega)
      rw [← wrap_two i (by omega)] at SV
      have SV := Lib.hid SV
      have ES : Hid (rml (kruns (fun i => R.getD i 0) R.length).D (kruns (fun i => R.getD i 0) R.length).M (2 ^ i, 0) = sol R i) := Lib.hid rfl
      rw [ES.out] at SV
      go_wp2_with fail
      refine SV.out.mono ?_
      rintro e w5 ⟨rfl, b5⟩
      have S5 := Lib.hid (S.out.up b5)
      have O5 := Lib.hid (own_below O.out b5)
      clear b5 S O cA0 cA1 SV
      by_cases hiz : i < z
      · have h0 := HG.out i hiz
        have hb : ((((sol R i).1 : Nat) : Int) == 0) = true := by rw [h0]; rfl
        have E : Hid (nI (invs (sol R) (i + 1)) = nI (invs (sol R) i) ++ [(((sol R i).2 : Nat) : Int)]) := Lib.hid (by rw [invs_succ, nI_app]; rfl)
        clear h0
        generalize sol R i = q at *
        generalize nI (invs (sol R) i) = L at *
        have A := Lib.hid (S5.out.alloc (.cells #[.int .i64 ((q.2 : Nat) : Int)] 2))
        have AO := Lib.hid (own_below O5.out ((Below.refl _ _).alloc (Nat.le_refl _) (.cells #[.int .i64 ((q.2 : Nat) : Int)] 2)))
        have cO1 := S5.out.bO.c1
        go_wp2_with (at_builtin; refine wpList_append1 rfl _ _ rfl w.heap.size _ i L rfl AO.out _ _ 1 rfl (World.cell?_alloc_new _ _ _ _) ?c1 ?c2 ?_)
        case c1 => omega
        case c2 => have := S5.out.bel.size; simp; omega
        intro v' w2 ho hg
        obtain ⟨va', vc', rfl⟩ := ho.shape
        have A2 := Lib.hid (A.out.app (r := ((q.2 : Nat) : Int)) (by rw [LL.out, List.map_append]; exact ho) hg)
        have F := Lib.hid (Bld2.store A.out A2.out)
        have e0 := A2.out.bO.c1
        have e1 := A2.out.bO.fr 1
        clear ho hg
        go_wp2
        go_roundw
        case rel => exact ⟨i + 1, _, by omega, by go_num, Lib.hid (by rw [E.out]; exact F.out)⟩
        case measure => simp [intOf]; omega
      · obtain rfl : i = z := by omega
        have h0 := HB.out hlt
        have hb : ((((sol R i).1 : Nat) : Int) == 0) = false := by rw [beq_eq_false_iff_ne]; omega
        obtain ⟨E1, E2, E3⟩ := RB.out hlt
        have E1 := Lib.hid E1
        have E2 := Lib.hid E2
        have E3 := Lib.hid E3
        have cR0 := S5.out.bR.c0
        have cR1 := S5.out.bR.c1
        have fR0 := S5.out.bR.fr 0
        have fR1 := S5.out.bR.fr 1
        have X5 := Lib.hid ((S5.out.bR.set0 (.int .i64 0)).set1 (.slice none 0 0))
        have B5 := Lib.hid ((S5.out.bel.setCell (p := ⟨w.heap.size + 1, 0, none⟩) (by simp) (.int .i64 0)).setCell (p := ⟨w.heap.size + 1, 1, none⟩) (by simp) (.slice none 0 0))
        clear h0
        generalize sol R i = q at *
        go_wp2
        refine bodyPost_ret (results_box_tmp rfl _ _ (w.heap.size + 1) _ _ _ rfl X5.out t2 (by kernel_rfl)) rfl ?_
        exact ⟨_, by rw [E1.out, E3.out]; rfl, by rw [E2.out]; exact World.ownsRow_nil _ _ _ _, B5.out⟩
    · obtain rfl : i = n := by omega
      obtain ⟨E1, E2, E3⟩ := RG.out (by omega)
      have E1 := Lib.hid E1
      have E2 := Lib.hid E2
      have E3 := Lib.hid E3
      have cO0 := S.out.bO.c0
      have cO1 := S.out.bO.c1
      have cR0 := S.out.bR.c0
      have cR1 := S.out.bR.c1
      have fR0 := S.out.bR.fr 0
      have fR1 := S.out.bR.fr 1
      obtain ⟨F1, F2, F3⟩ := S.out.fin
      have F1 := Lib.hid F1
      have F2 := Lib.hid F2
      have F3 := Lib.hid F3
      go_wp2
      refine bodyPost_ret (results_box_tmp rfl _ _ (w.heap.size + 1) _ _ _ rfl F1.out t2 (by kernel_rfl)) rfl ?_
      refine ⟨_, by rw [E1.out, E3.out]; rfl, ?_, F3.out⟩
      rw [E2.out]
      exact F2.out

set_option linter.unusedVariables false
set_option maxRecDepth 100000

theorem RdT.grownI {w w' : World} {v v2 : Value} {n B m : Nat} {R : Nat → TR} {xs : List Value} (h : RdT w v n R) (o : w.ownsRow B 2 1 v2 m xs) (k : w.grownBy w' v2.ownBlock) : RdT w' v n R := by
  obtain ⟨a, cap, e, h⟩ := h
  refine ⟨a, cap, e, ?_⟩
  rcases h with h0 | ⟨b, e2, cs, hb, hc⟩
  · exact .inl h0
  · refine .inr ⟨b, e2, cs, (k.block b (Array.getElem?_eq_some_iff.1 hb).1 ?_).trans hb, hc⟩
    intro e3
    rcases o.2 with ⟨rfl, _⟩ | ⟨q, cap2, cur, rfl, _, hg, _⟩
    · cases e3
    · simp only [Value.ownBlock, Option.some.injEq] at e3
      subst e3
      rw [hb] at hg
      simp at hg
theorem RdT.setBox {w : World} {v : Value} {n g i : Nat} {R : Nat → TR} {x y u : Value} (h : RdT w v n R) (k : Box w g 26 x y) : RdT (w.setCell ⟨g, i, none⟩ u) v n R := by
  obtain ⟨a, cap, e, h⟩ := h
  refine ⟨a, cap, e, ?_⟩
  rcases h with h0 | ⟨b, e2, cs, hb, hc⟩
  · exact .inl h0
  · refine .inr ⟨b, e2, cs, (heap_setCell_other w _ b u ?_).trans hb, hc⟩
    show b ≠ g
    intro e3
    subst e3
    unfold Box at k
    rw [hb] at k
    simp at k

set_option maxHeartbeats 4000000 in
theorem implInv_in (n : Nat) (s : Value) (G : Nat → Int) (R : List Nat) (w : World) (h : RdI w s n G) (hi : isMat n n G = true) (hn : R.length = n) (hn6 : n ≤ 60) (hR : ∀ x ∈ R, x < 2 ^ 60) (hN : ∀ (w : World) (s : Value), RdI w s n G → RdN w s R) (hT : T0 w)
    (C : Int) (L' : List Int) (cd : Int) (hres : Inv (remI R) n C L' cd) :
    Calls Tryd.prog 49 #[.agg #[.int .i64 n, s]] w (MRes C L' cd w) := by
  obtain ⟨z, hz, hgood, hbad⟩ := first_is (fun i => (remI R i).1 = 0) n
  have RB : Hid (z < n → C = 0 ∧ L' = [] ∧ cd = 5) := Lib.hid (fun hlt => hres.bad ⟨z, hlt, hbad hlt⟩)
  have RG : Hid (z = n → C = n ∧ L' = nI (invs (remI R) n) ∧ cd = 0) := Lib.hid (fun e => hres.good (fun i hi => hgood i (by omega)))
  have HG := Lib.hid hgood
  have HB := Lib.hid hbad
  have H := Lib.hid h
  have HT := Lib.hid hT
  have HRR := Lib.hid hR
  have BB := both_runs (fun i => R.getD i 0) R.length (by omega) (fun i hi => getD_lt' hR i hi) R.length (Nat.le_refl _)
  have PV := Lib.hid BB.piv
  have KS2 : Hid (krunS (fun i => R.getD i 0) R.length = addN (fun _ => (0, 0)) (fun i => (R.getD i 0, 2 ^ i)) R.length) := Lib.hid (ktr_tzs _ _).1
  have RI : Hid (∀ i, rmd (krunS (fun i => R.getD i 0) R.length) (2 ^ i, 0) 60 = remI R i) := Lib.hid (fun i => rfl)
  obtain ⟨a, cap, rfl, hm, hc⟩ := h
  clear hc hres hgood hbad hR hT BB
  have t2 := Tryd.underlying26
  have t3 := Tryd.underlying91
  have t4 := Tryd.underlying94
  obtain ⟨w2, hw2, B2, XA, XR, HR⟩ := box_two (c := n) H.out
  have SI := Lib.hid (implIs_any n _ n G w2 HR)
  have B2 := Lib.hid B2
  have XA := Lib.hid XA
  have XR := Lib.hid XR
  have HR := Lib.hid HR
  rw [hi] at SI
  clear hi
  go_enter Tryd.func49, Tryd.ntmps49
  go_wp2_with fail
  rw [← hw2]
  clear hw2
  refine SI.out.mono ?_
  rintro e w3 ⟨rfl, b3⟩
  have B3 := Lib.hid (B2.out.trans (b3.mono B2.out.size))
  have XA3 := Lib.hid (XA.out.up b3)
  have XR3 := Lib.hid (XR.out.up b3)
  clear b3 B2 XR XA HR SI
  have KEEP : Hid (∀ wx, Below w3.heap.size w3 wx → (wx.cell? ⟨w.heap.size, 0, none⟩ = some (.int .i64 n) ∧ wx.cell? ⟨w.heap.size, 1, none⟩ = some (.slice a n cap) ∧ Below w3.heap.size w3 wx)) :=
    Lib.hid (fun wx hb => ⟨(XA3.out.up hb).c0, (XA3.out.up hb).c1, hb⟩)
  go_wp2_with fail
  go_region_held3 (fun wx => wx.cell? ⟨w.heap.size, 0, none⟩ = some (.int .i64 n) ∧ wx.cell? ⟨w.heap.size, 1, none⟩ = some (.slice a n cap) ∧ Below w3.heap.size w3 wx)
    (first | exact KEEP.out _ (Below.refl _ _).drew | exact KEEP.out _ (by assumption))
    (first | (go_at_call 79; refine (rowCount_any _ _ _ _ _).mono ?_; rintro e w4 ⟨rfl, b4⟩; have z4 := below_drew1 b4))
  have B4 := Lib.hid (B3.out.trans (z4.mono B3.out.size))
  have XA4 := Lib.hid (XA3.out.up z4)
  have XR4 := Lib.hid (XR3.out.up z4)
  clear z4 b4 KEEP B3 XA3 XR3
  have b5 : Below w4.heap.size w4 (w4.alloc (.cells Tryd.zeroCells94 94)) := (Below.refl _ _).alloc (Nat.le_refl _) _
  have S5 := Lib.hid (Sp.zeros w4)
  have B5 := Lib.hid (B4.out.trans (b5.mono B4.out.size))
  have XA5 := Lib.hid (XA4.out.up b5)
  have XR5 := Lib.hid (XR4.out.up b5)
  have LA := Lib.hid XA4.out.lt
  have LR := Lib.hid XR4.out.lt
  have LG := Lib.hid B4.out.size
  clear b5 B4 XA4 XR4
  have a0 := XA5.out.c0
  have a1 := XA5.out.c1
  go_wp2_with fail
  generalize (w4.alloc (.cells Tryd.zeroCells94 94)) = w5 at *
  generalize w4.heap.size = g at *
  clear a0 a1
  refine (numberedRows_any _ R w5 (hN w5 _ (H.out.below B5.out)) (by omega)).mono ?_
  rintro e w6 ⟨u6, rfl, o6, b6⟩
  have B6 := Lib.hid (B5.out.trans (b6.mono B5.out.size))
  have XA6 := Lib.hid (XA5.out.up b6)
  have XR6 := Lib.hid (XR5.out.up b6)
  have S6 := Lib.hid (S5.out.up b6)
  have O6 := Lib.hid (rdt_of_own o6)
  have T6 := Lib.hid (HT.out.below B6.out)
  have HP := Lib.hid HT.out.pos
  clear o6 b6 B5 XA5 XR5 S5
  go_wp2_with fail
  refine (reduceAdd_any g _ u6 R.length _ w6 O6.out S6.out piv_zero (fun i hi => ⟨getD_lt' HRR.out i hi, pow_lt60 (by omega)⟩) (by omega) T6.out (by have := HP.out; have := LG.out; omega)).mono ?_
  rintro e w7 ⟨u7, rfl, o7, s7, k7⟩
  rw [← KS2.out] at s7
  have B7 := Lib.hid (B6.out.grown k7 B6.out.size (fun q hq => by cases hq; exact LG.out))
  have XA7 := Lib.hid (XA6.out.grownG k7 (by have := LA.out; omega))
  have XR7 := Lib.hid (XR6.out.grownG k7 (by have := LR.out; omega))
  have S7 := Lib.hid s7
  clear o7 s7 k7 B6 XA6 XR6 S6 O6 T6
  have D8 : Hid (Bld w w.heap.size (w.heap.size + 1) w7.heap.size (.int .i64 n) (.slice a n cap) n (.slice none 0 0) (nI (invs (remI R) 0)) (w7.alloc (.cells #[.int .i64 n, .slice none 0 0] 26))) := Lib.hid (by
    refine ⟨B7.out.alloc (B7.out.size) _, XA7.out.alloc _, XR7.out.alloc _, Box.new w7 _ _ _, World.ownsRow_nil _ _ _ _, by omega, by omega, B7.out.size, ?_, ?_⟩
    · have := XA7.out.lt; omega
    · have := XR7.out.lt; omega)
  have S8 := Lib.hid (S7.out.up ((Below.refl _ _).alloc (Nat.le_refl _) (.cells #[.int .i64 n, .slice none 0 0] 26)))
  have a0 := XA7.out.c0
  have a1 := XA7.out.c1
  have a0' := D8.out.bA.c0
  have a1' := D8.out.bA.c1
  go_wp2_with fail
  generalize (w7.alloc (.cells #[.int .i64 n, .slice none 0 0] 26)) = w8 at *
  clear a0 a1 a0' a1' XA7 XR7 S7 B7
  generalize w7.heap.size = gO at *
  refine (unitRows_any n w8 hn6).mono ?_
  rintro e w9 ⟨u9, rfl, o9, b9⟩
  have D9 := Lib.hid (D8.out.up b9)
  have S9 := Lib.hid (S8.out.up b9)
  have O9 := Lib.hid (rdt_of_own o9)
  clear o9 b9 D8 S8
  go_wp2_with fail
  refine (reduceRem_any g _ u9 n _ w9 O9.out S9.out (fun i hi => ⟨PV.out.lt i hi, PV.out.tl i hi⟩) (fun i hi => ⟨pow_lt60 (by omega), Nat.two_pow_pos 60⟩) (by omega)).mono ?_
  rintro e w10 ⟨u10, rfl, o10, b10⟩
  have D10 := Lib.hid (D9.out.up b10)
  have Q10 : Hid (RdT w10 u10 n (remI R)) := Lib.hid (rdt_of_own o10)
  obtain ⟨qa, qc, rfl⟩ := o10.shape
  clear o10 b10 D9 S9 O9
  go_wp2_with fail
  go_loopw [7, 32] (fun _ c wr => ∃ (i : Nat) (v : Value), i ≤ z ∧ c = .int .i64 i ∧ Hid (Bld w w.heap.size (w.heap.size + 1) gO (.int .i64 n) (.slice a n cap) n v (nI (invs (remI R) i)) wr) ∧ Hid (RdT wr (.slice qa n qc) n (remI R))) (fun _ c _ => n - (intOf c).toNat)
  case atStart => exact ⟨0, _, by omega, rfl, D10, Q10⟩
  case round =>
    clear D10 Q10
    obtain ⟨i, v, hi, rfl, S, Q⟩ := hrel
    have LL := Lib.hid (show (nI (invs (remI R) i)).length = i by rw [nI_length, invs_length])
    have o0 := S.out.own
    rw [LL.out] at o0
    obtain ⟨va, vc, rfl⟩ := o0.shape
    have O := Lib.hid o0
    clear o0
    by_cases hlt : i < n
    · have hlt' : (i : Int) < (n : Int) := by omega
      obtain ⟨b, rfl, c0, c1⟩ := Q.out.at hlt
      have E : Hid (nI (invs (remI R) (i + 1)) = nI (invs (remI R) i) ++ [(((remI R i).2 : Nat) : Int)]) := Lib.hid (by rw [invs_succ, nI_app]; rfl)
      have A := Lib.hid (S.out.alloc (.cells #[.int .i64 (((remI R i).1 : Nat) : Int), .int .i64 (((remI R i).2 : Nat) : Int)] 91))
      by_cases hiz : i < z
      · have h0 := HG.out i hiz
        have hb : ((((remI R i).1 : Nat) : Int) != 0) = false := by rw [h0]; rfl
        clear h0
        generalize hq : remI R i = q at *
        clear hq
        generalize nI (invs (remI R) i) = L at *
        have A3 := Lib.hid (A.out.alloc (.cells #[.int .i64 ((q.2 : Nat) : Int)] 2))
        have AO := Lib.hid (own_below (own_below O.out ((Below.refl _ _).alloc (Nat.le_refl _) (.cells #[.int .i64 ((q.1 : Nat) : Int), .int .i64 ((q.2 : Nat) : Int)] 91))) ((Below.refl _ _).alloc (Nat.le_refl _) (.cells #[.int .i64 ((q.2 : Nat) : Int)] 2)))
        have Q3 := Lib.hid ((Q.out.up ((Below.refl _ _).alloc (Nat.le_refl _) (.cells #[.int .i64 ((q.1 : Nat) : Int), .int .i64 ((q.2 : Nat) : Int)] 91))).up ((Below.refl _ _).alloc (Nat.le_refl _) (.cells #[.int .i64 ((q.2 : Nat) : Int)] 2)))
        have CN : Hid (((wr.alloc (.cells #[.int .i64 ((q.1 : Nat) : Int), .int .i64 ((q.2 : Nat) : Int)] 91)).alloc (.cells #[.int .i64 ((q.2 : Nat) : Int)] 2)).cell? ⟨wr.heap.size + 1, 0, none⟩ = some (.int .i64 ((q.2 : Nat) : Int))) := Lib.hid (by simp)
        have cO1 := A.out.bO.c1
        go_wp2_with (at_builtin; refine wpList_append1 rfl _ _ rfl w.heap.size _ i L rfl AO.out _ _ 1 rfl CN.out ?c1 ?c2 ?_)
        case c1 => omega
        case c2 => exact A3.out.bel.size
        intro v' w2 ho hg
        obtain ⟨va', vc', rfl⟩ := ho.shape
        have A2 := Lib.hid (A3.out.app (r := ((q.2 : Nat) : Int)) (by rw [LL.out, List.map_append]; exact ho) hg)
        have F := Lib.hid (Bld2.store A3.out A2.out)
        have QF := Lib.hid ((Q3.out.grownI AO.out hg).setBox (i := 1) (u := .slice va' (i + 1) vc') A2.out.bO)
        have e0 := A2.out.bO.c1
        have e1 := A2.out.bO.fr 1
        clear ho hg
        go_wp2
        go_roundw
        case rel => exact ⟨i + 1, _, by omega, by go_num, Lib.hid (by rw [E.out]; exact F.out), QF⟩
        case measure => simp [intOf]; omega
      · obtain rfl : i = z := by omega
        have h0 := HB.out hlt
        have hb : ((((remI R i).1 : Nat) : Int) != 0) = true := by rw [bne_iff_ne]; omega
        obtain ⟨E1, E2, E3⟩ := RB.out hlt
        have E1 := Lib.hid E1
        have E2 := Lib.hid E2
        have E3 := Lib.hid E3
        have cR0 := A.out.bR.c0
        have cR1 := A.out.bR.c1
        have fR0 := A.out.bR.fr 0
        have fR1 := A.out.bR.fr 1
        have X5 := Lib.hid ((A.out.bR.set0 (.int .i64 0)).set1 (.slice none 0 0))
        have B5 := Lib.hid ((A.out.bel.setCell (p := ⟨w.heap.size + 1, 0, none⟩) (by simp) (.int .i64 0)).setCell (p := ⟨w.heap.size + 1, 1, none⟩) (by simp) (.slice none 0 0))
        clear h0
        generalize remI R i = q at *
        go_wp2
        refine bodyPost_ret (results_box_tmp rfl _ _ (w.heap.size + 1) _ _ _ rfl X5.out t2 (by kernel_rfl)) rfl ?_
        exact ⟨_, by rw [E1.out, E3.out]; rfl, by rw [E2.out]; exact World.ownsRow_nil _ _ _ _, B5.out⟩
    · obtain rfl : i = n := by omega
      obtain ⟨E1, E2, E3⟩ := RG.out (by omega)
      have E1 := Lib.hid E1
      have E2 := Lib.hid E2
      have E3 := Lib.hid E3
      have cO0 := S.out.bO.c0
      have cO1 := S.out.bO.c1
      have cR0 := S.out.bR.c0
      have cR1 := S.out.bR.c1
      have fR0 := S.out.bR.fr 0
      have fR1 := S.out.bR.fr 1
      obtain ⟨F1, F2, F3⟩ := S.out.fin
      have F1 := Lib.hid F1
      have F2 := Lib.hid F2
      have F3 := Lib.hid F3
      go_wp2
      refine bodyPost_ret (results_box_tmp rfl _ _ (w.heap.size + 1) _ _ _ rfl F1.out t2 (by kernel_rfl)) rfl ?_
      refine ⟨_, by rw [E1.out, E3.out]; rfl, ?_, F3.out⟩
      rw [E2.out]
      exact F2.out

set_option linter.unusedVariables false
set_option maxRecDepth 100000

set_option maxHeartbeats 1000000 in
theorem specInv_no (c : Int) (s : Value) (n : Nat) (G : Nat → Int) (w : World) (h : RdI w s n G) (hi : isMat c n G = false) :
    Calls Tryd.prog 50 #[.agg #[.int .i64 c, s]] w (MRes 0 [] 1 w) := by
  have H := Lib.hid h
  obtain ⟨a, cap, rfl, hm, hc⟩ := h
  clear hc
  have t2 := Tryd.underlying26
  obtain ⟨w2, hw2, B2, XA, XR, HR⟩ := box_two (c := c) H.out
  have SI := Lib.hid (specIs_any c _ n G w2 HR)
  have B2 := Lib.hid B2
  have XR := Lib.hid XR
  rw [hi] at SI
  clear hi XA HR
  go_enter Tryd.func50, Tryd.ntmps50
  go_wp2_with fail
  rw [← hw2]
  clear hw2
  refine SI.out.mono ?_
  rintro e w3 ⟨rfl, b3⟩
  have B3 := Lib.hid (B2.out.trans (b3.mono B2.out.size))
  have XR3 := Lib.hid (XR.out.up b3)
  clear b3 B2 XR
  have cR0 := XR3.out.c0
  have cR1 := XR3.out.c1
  have fR0 := XR3.out.fr 0
  have fR1 := XR3.out.fr 1
  have X5 := Lib.hid ((XR3.out.set0 (.int .i64 0)).set1 (.slice none 0 0))
  have B5 := Lib.hid ((B3.out.setCell (p := ⟨w.heap.size + 1, 0, none⟩) (by simp) (.int .i64 0)).setCell (p := ⟨w.heap.size + 1, 1, none⟩) (by simp) (.slice none 0 0))
  go_wp2_with fail
  refine bodyPost_ret (results_box_tmp rfl _ _ (w.heap.size + 1) _ _ _ rfl X5.out t2 (by kernel_rfl)) rfl ?_
  exact ⟨_, rfl, World.ownsRow_nil _ _ _ _, B5.out⟩

set_option maxHeartbeats 1000000 in
theorem implInv_no (c : Int) (s : Value) (n : Nat) (G : Nat → Int) (w : World) (h : RdI w s n G) (hi : isMat c n G = false) :
    Calls Tryd.prog 49 #[.agg #[.int .i64 c, s]] w (MRes 0 [] 1 w) := by
  have H := Lib.hid h
  obtain ⟨a, cap, rfl, hm, hc⟩ := h
  clear hc
  have t2 := Tryd.underlying26
  obtain ⟨w2, hw2, B2, XA, XR, HR⟩ := box_two (c := c) H.out
  have SI := Lib.hid (implIs_any c _ n G w2 HR)
  have B2 := Lib.hid B2
  have XR := Lib.hid XR
  rw [hi] at SI
  clear hi XA HR
  go_enter Tryd.func49, Tryd.ntmps49
  go_wp2_with fail
  rw [← hw2]
  clear hw2
  refine SI.out.mono ?_
  rintro e w3 ⟨rfl, b3⟩
  have B3 := Lib.hid (B2.out.trans (b3.mono B2.out.size))
  have XR3 := Lib.hid (XR.out.up b3)
  clear b3 B2 XR
  have cR0 := XR3.out.c0
  have cR1 := XR3.out.c1
  have fR0 := XR3.out.fr 0
  have fR1 := XR3.out.fr 1
  have X5 := Lib.hid ((XR3.out.set0 (.int .i64 0)).set1 (.slice none 0 0))
  have B5 := Lib.hid ((B3.out.setCell (p := ⟨w.heap.size + 1, 0, none⟩) (by simp) (.int .i64 0)).setCell (p := ⟨w.heap.size + 1, 1, none⟩) (by simp) (.slice none 0 0))
  go_wp2_with fail
  refine bodyPost_ret (results_box_tmp rfl _ _ (w.heap.size + 1) _ _ _ rfl X5.out t2 (by kernel_rfl)) rfl ?_
  exact ⟨_, rfl, World.ownsRow_nil _ _ _ _, B5.out⟩

set_option maxHeartbeats 1000000 in
theorem specInv_off (c : Int) (s : Value) (n : Nat) (G : Nat → Int) (w : World) (h : RdI w s n G) (hi : isMat c n G = true) (hcn : c ≠ (n : Int)) :
    Calls Tryd.prog 50 #[.agg #[.int .i64 c, s]] w (MRes 0 [] 2 w) := by
  have H := Lib.hid h
  obtain ⟨a, cap, rfl, hm, hc⟩ := h
  clear hc
  have t2 := Tryd.underlying26
  obtain ⟨w2, hw2, B2, XA, XR, HR⟩ := box_two (c := c) H.out
  have SI := Lib.hid (specIs_any c _ n G w2 HR)
  have B2 := Lib.hid B2
  have XR := Lib.hid XR
  rw [hi] at SI
  have XA := Lib.hid XA
  have hne : (c != (n : Int)) = true := by rw [bne_iff_ne]; exact hcn
  clear hi HR hcn
  go_enter Tryd.func50, Tryd.ntmps50
  go_wp2_with fail
  rw [← hw2]
  clear hw2
  refine SI.out.mono ?_
  rintro e w3 ⟨rfl, b3⟩
  have B3 := Lib.hid (B2.out.trans (b3.mono B2.out.size))
  have XR3 := Lib.hid (XR.out.up b3)
  have XA3 := Lib.hid (XA.out.up b3)
  have cA0 := XA3.out.c0
  have cA1 := XA3.out.c1
  clear b3 B2 XR
  have cR0 := XR3.out.c0
  have cR1 := XR3.out.c1
  have fR0 := XR3.out.fr 0
  have fR1 := XR3.out.fr 1
  have X5 := Lib.hid ((XR3.out.set0 (.int .i64 0)).set1 (.slice none 0 0))
  have B5 := Lib.hid ((B3.out.setCell (p := ⟨w.heap.size + 1, 0, none⟩) (by simp) (.int .i64 0)).setCell (p := ⟨w.heap.size + 1, 1, none⟩) (by simp) (.slice none 0 0))
  go_wp2_with fail
  refine bodyPost_ret (results_box_tmp rfl _ _ (w.heap.size + 1) _ _ _ rfl X5.out t2 (by kernel_rfl)) rfl ?_
  exact ⟨_, rfl, World.ownsRow_nil _ _ _ _, B5.out⟩

set_option maxHeartbeats 1000000 in
theorem implInv_off (c : Int) (s : Value) (n : Nat) (G : Nat → Int) (w : World) (h : RdI w s n G) (hi : isMat c n G = true) (hcn : c ≠ (n : Int)) :
    Calls Tryd.prog 49 #[.agg #[.int .i64 c, s]] w (MRes 0 [] 2 w) := by
  have H := Lib.hid h
  obtain ⟨a, cap, rfl, hm, hc⟩ := h
  clear hc
  have t2 := Tryd.underlying26
  obtain ⟨w2, hw2, B2, XA, XR, HR⟩ := box_two (c := c) H.out
  have SI := Lib.hid (implIs_any c _ n G w2 HR)
  have B2 := Lib.hid B2
  have XR := Lib.hid XR
  rw [hi] at SI
  have XA := Lib.hid XA
  have hne : ((n : Int) != c) = true := by rw [bne_iff_ne]; exact fun h => hcn h.symm
  clear hi HR hcn
  go_enter Tryd.func49, Tryd.ntmps49
  go_wp2_with fail
  rw [← hw2]
  clear hw2
  refine SI.out.mono ?_
  rintro e w3 ⟨rfl, b3⟩
  have B3 := Lib.hid (B2.out.trans (b3.mono B2.out.size))
  have XR3 := Lib.hid (XR.out.up b3)
  have XA3 := Lib.hid (XA.out.up b3)
  clear b3 B2 XR
  have KEEP : Hid (∀ wx, Below w3.heap.size w3 wx → (wx.cell? ⟨w.heap.size, 0, none⟩ = some (.int .i64 c) ∧ wx.cell? ⟨w.heap.size, 1, none⟩ = some (.slice a n cap) ∧ Below w3.heap.size w3 wx)) :=
    Lib.hid (fun wx hb => ⟨(XA3.out.up hb).c0, (XA3.out.up hb).c1, hb⟩)
  go_wp2_with fail
  go_region_held3 (fun wx => wx.cell? ⟨w.heap.size, 0, none⟩ = some (.int .i64 c) ∧ wx.cell? ⟨w.heap.size, 1, none⟩ = some (.slice a n cap) ∧ Below w3.heap.size w3 wx)
    (first | exact KEEP.out _ (Below.refl _ _).drew | exact KEEP.out _ (by assumption))
    (first | (go_at_call 79; refine (rowCount_any _ _ _ _ _).mono ?_; rintro e w4 ⟨rfl, b4⟩; have z4 := below_drew1 b4))
  have B4 := Lib.hid (B3.out.trans (z4.mono B3.out.size))
  have XR4 := Lib.hid (XR3.out.up z4)
  have cR0 := XR4.out.c0
  have cR1 := XR4.out.c1
  have fR0 := XR4.out.fr 0
  have fR1 := XR4.out.fr 1
  have X5 := Lib.hid ((XR4.out.set0 (.int .i64 0)).set1 (.slice none 0 0))
  have B5 := Lib.hid ((B4.out.setCell (p := ⟨w.heap.size + 1, 0, none⟩) (by simp) (.int .i64 0)).setCell (p := ⟨w.heap.size + 1, 1, none⟩) (by simp) (.slice none 0 0))
  go_wp2_with fail
  refine bodyPost_ret (results_box_tmp rfl _ _ (w.heap.size + 1) _ _ _ rfl X5.out t2 (by kernel_rfl)) rfl ?_
  exact ⟨_, rfl, World.ownsRow_nil _ _ _ _, B5.out⟩

theorem InverseMatrix_both (c : Int) (n : Nat) (G : Nat → Int) : ∃ (C : Int) (L : List Int) (cd : Int), L.length ≤ 200 ∧
    (∀ w s, RdI w s n G → Calls Tryd.prog 50 #[.agg #[.int .i64 c, s]] w (MRes C L cd w)) ∧
    (∀ w s, RdI w s n G → T0 w → Calls Tryd.prog 49 #[.agg #[.int .i64 c, s]] w (MRes C L cd w)) := by
  cases hi : isMat c n G with
  | false => exact ⟨0, [], 1, by simp, fun w s h => specInv_no c s n G w h hi, fun w s h _ => implInv_no c s n G w h hi⟩
  | true =>
    by_cases hcn : c = (n : Int)
    · subst hcn
      obtain ⟨k, R, e, hk, hn, hl, hR, _, hN⟩ := mat_rd hi
      have hn6 : n ≤ 60 := by omega
      obtain ⟨C, L, cd, hres, hlen⟩ := inv_ex (sol R) n hn6
      refine ⟨C, L, cd, hlen, fun w s h => specInv_in n s G R w h hi hl hn6 hR hN C L cd hres, fun w s h hT => implInv_in n s G R w h hi hl hn6 hR hN hT C L cd ?_⟩
      subst hl
      exact Inv.both hn6 hR hres
    · exact ⟨0, [], 2, by simp, fun w s h => specInv_off c s n G w h hi hcn, fun w s h _ => implInv_off c s n G w h hi hcn⟩
end Go.Proofs.YtdojblmffmefgaaDoor
