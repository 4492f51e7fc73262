/-
  InverseMatrix: the program's side, and both together.
-/
import Derived.Test.YtdojblmffmefgaaDoorDInvB
namespace Go.Proofs.YtdojblmffmefgaaDoor
open Go.RowKit
set_option linter.unusedVariables false
set_option maxRecDepth 100000

theorem RdT.grownI {w w' : World} {v v2 : Value} {n B m : Nat} {R : Nat → TR} {xs : List Value} (h : RdT w v n R) (o : w.ownsRow B 2 1 v2 m xs) (k : w.grownBy w' v2.ownBlock) : RdT w' v n R := by
  obtain ⟨a, cap, e, h⟩ := h
  refine ⟨a, cap, e, ?_⟩
  rcases h with h0 | ⟨b, e2, cs, hb, hc⟩
  · exact .inl h0
  · refine .inr ⟨b, e2, cs, (k.block b (Array.getElem?_eq_some_iff.1 hb).1 ?_).trans hb, hc⟩
    intro e3
    rcases o.2 with ⟨rfl, _⟩ | ⟨q, cap2, cur, rfl, _, hg, _⟩
    · cases e3
    · simp only [Value.ownBlock, Option.some.injEq] at e3
      subst e3
      rw [hb] at hg
      simp at hg
theorem RdT.setBox {w : World} {v : Value} {n g i : Nat} {R : Nat → TR} {x y u : Value} (h : RdT w v n R) (k : Box w g 26 x y) : RdT (w.setCell ⟨g, i, none⟩ u) v n R := by
  obtain ⟨a, cap, e, h⟩ := h
  refine ⟨a, cap, e, ?_⟩
  rcases h with h0 | ⟨b, e2, cs, hb, hc⟩
  · exact .inl h0
  · refine .inr ⟨b, e2, cs, (heap_setCell_other w _ b u ?_).trans hb, hc⟩
    show b ≠ g
    intro e3
    subst e3
    unfold Box at k
    rw [hb] at k
    simp at k

set_option maxHeartbeats 4000000 in
theorem implInv_in (n : Nat) (s : Value) (G : Nat → Int) (R : List Nat) (w : World) (h : RdI w s n G) (hi : isMat n n G = true) (hn : R.length = n) (hn6 : n ≤ 60) (hR : ∀ x ∈ R, x < 2 ^ 60) (hN : ∀ (w : World) (s : Value), RdI w s n G → RdN w s R) (hT : T0 w)
    (C : Int) (L' : List Int) (cd : Int) (hres : Inv (remI R) n C L' cd) :
    Calls Tryd.prog 49 #[.agg #[.int .i64 n, s]] w (MRes C L' cd w) := by
  obtain ⟨z, hz, hgood, hbad⟩ := first_is (fun i => (remI R i).1 = 0) n
  have RB : Hid (z < n → C = 0 ∧ L' = [] ∧ cd = 5) := Lib.hid (fun hlt => hres.bad ⟨z, hlt, hbad hlt⟩)
  have RG : Hid (z = n → C = n ∧ L' = nI (invs (remI R) n) ∧ cd = 0) := Lib.hid (fun e => hres.good (fun i hi => hgood i (by omega)))
  have HG := Lib.hid hgood
  have HB := Lib.hid hbad
  have H := Lib.hid h
  have HT := Lib.hid hT
  have HRR := Lib.hid hR
  have BB := both_runs (fun i => R.getD i 0) R.length (by omega) (fun i hi => getD_lt' hR i hi) R.length (Nat.le_refl _)
  have PV := Lib.hid BB.piv
  have KS2 : Hid (krunS (fun i => R.getD i 0) R.length = addN (fun _ => (0, 0)) (fun i => (R.getD i 0, 2 ^ i)) R.length) := Lib.hid (ktr_tzs _ _).1
  have RI : Hid (∀ i, rmd (krunS (fun i => R.getD i 0) R.length) (2 ^ i, 0) 60 = remI R i) := Lib.hid (fun i => rfl)
  obtain ⟨a, cap, rfl, hm, hc⟩ := h
  clear hc hres hgood hbad hR hT BB
  have t2 := Tryd.underlying26
  have t3 := Tryd.underlying91
  have t4 := Tryd.underlying94
  obtain ⟨w2, hw2, B2, XA, XR, HR⟩ := box_two (c := n) H.out
  have SI := Lib.hid (implIs_any n _ n G w2 HR)
  have B2 := Lib.hid B2
  have XA := Lib.hid XA
  have XR := Lib.hid XR
  have HR := Lib.hid HR
  rw [hi] at SI
  clear hi
  go_enter Tryd.func49, Tryd.ntmps49
  go_wp2_with fail
  rw [← hw2]
  clear hw2
  refine SI.out.mono ?_
  rintro e w3 ⟨rfl, b3⟩
  have B3 := Lib.hid (B2.out.trans (b3.mono B2.out.size))
  have XA3 := Lib.hid (XA.out.up b3)
  have XR3 := Lib.hid (XR.out.up b3)
  clear b3 B2 XR XA HR SI
  have KEEP : Hid (∀ wx, Below w3.heap.size w3 wx → (wx.cell? ⟨w.heap.size, 0, none⟩ = some (.int .i64 n) ∧ wx.cell? ⟨w.heap.size, 1, none⟩ = some (.slice a n cap) ∧ Below w3.heap.size w3 wx)) :=
    Lib.hid (fun wx hb => ⟨(XA3.out.up hb).c0, (XA3.out.up hb).c1, hb⟩)
  go_wp2_with fail
  go_region_held3 (fun wx => wx.cell? ⟨w.heap.size, 0, none⟩ = some (.int .i64 n) ∧ wx.cell? ⟨w.heap.size, 1, none⟩ = some (.slice a n cap) ∧ Below w3.heap.size w3 wx)
    (first | exact KEEP.out _ (Below.refl _ _).drew | exact KEEP.out _ (by assumption))
    (first | (go_at_call 79; refine (rowCount_any _ _ _ _ _).mono ?_; rintro e w4 ⟨rfl, b4⟩; have z4 := below_drew1 b4))
  have B4 := Lib.hid (B3.out.trans (z4.mono B3.out.size))
  have XA4 := Lib.hid (XA3.out.up z4)
  have XR4 := Lib.hid (XR3.out.up z4)
  clear z4 b4 KEEP B3 XA3 XR3
  have b5 : Below w4.heap.size w4 (w4.alloc (.cells Tryd.zeroCells94 94)) := (Below.refl _ _).alloc (Nat.le_refl _) _
  have S5 := Lib.hid (Sp.zeros w4)
  have B5 := Lib.hid (B4.out.trans (b5.mono B4.out.size))
  have XA5 := Lib.hid (XA4.out.up b5)
  have XR5 := Lib.hid (XR4.out.up b5)
  have LA := Lib.hid XA4.out.lt
  have LR := Lib.hid XR4.out.lt
  have LG := Lib.hid B4.out.size
  clear b5 B4 XA4 XR4
  have a0 := XA5.out.c0
  have a1 := XA5.out.c1
  go_wp2_with fail
  generalize (w4.alloc (.cells Tryd.zeroCells94 94)) = w5 at *
  generalize w4.heap.size = g at *
  clear a0 a1
  refine (numberedRows_any _ R w5 (hN w5 _ (H.out.below B5.out)) (by omega)).mono ?_
  rintro e w6 ⟨u6, rfl, o6, b6⟩
  have B6 := Lib.hid (B5.out.trans (b6.mono B5.out.size))
  have XA6 := Lib.hid (XA5.out.up b6)
  have XR6 := Lib.hid (XR5.out.up b6)
  have S6 := Lib.hid (S5.out.up b6)
  have O6 := Lib.hid (rdt_of_own o6)
  have T6 := Lib.hid (HT.out.below B6.out)
  have HP := Lib.hid HT.out.pos
  clear o6 b6 B5 XA5 XR5 S5
  go_wp2_with fail
  refine (reduceAdd_any g _ u6 R.length _ w6 O6.out S6.out piv_zero (fun i hi => ⟨getD_lt' HRR.out i hi, pow_lt60 (by omega)⟩) (by omega) T6.out (by have := HP.out; have := LG.out; omega)).mono ?_
  rintro e w7 ⟨u7, rfl, o7, s7, k7⟩
  rw [← KS2.out] at s7
  have B7 := Lib.hid (B6.out.grown k7 B6.out.size (fun q hq => by cases hq; exact LG.out))
  have XA7 := Lib.hid (XA6.out.grownG k7 (by have := LA.out; omega))
  have XR7 := Lib.hid (XR6.out.grownG k7 (by have := LR.out; omega))
  have S7 := Lib.hid s7
  clear o7 s7 k7 B6 XA6 XR6 S6 O6 T6
  have D8 : Hid (Bld w w.heap.size (w.heap.size + 1) w7.heap.size (.int .i64 n) (.slice a n cap) n (.slice none 0 0) (nI (invs (remI R) 0)) (w7.alloc (.cells #[.int .i64 n, .slice none 0 0] 26))) := Lib.hid (by
    refine ⟨B7.out.alloc (B7.out.size) _, XA7.out.alloc _, XR7.out.alloc _, Box.new w7 _ _ _, World.ownsRow_nil _ _ _ _, by omega, by omega, B7.out.size, ?_, ?_⟩
    · have := XA7.out.lt; omega
    · have := XR7.out.lt; omega)
  have S8 := Lib.hid (S7.out.up ((Below.refl _ _).alloc (Nat.le_refl _) (.cells #[.int .i64 n, .slice none 0 0] 26)))
  have a0 := XA7.out.c0
  have a1 := XA7.out.c1
  have a0' := D8.out.bA.c0
  have a1' := D8.out.bA.c1
  go_wp2_with fail
  generalize (w7.alloc (.cells #[.int .i64 n, .slice none 0 0] 26)) = w8 at *
  clear a0 a1 a0' a1' XA7 XR7 S7 B7
  generalize w7.heap.size = gO at *
  refine (unitRows_any n w8 hn6).mono ?_
  rintro e w9 ⟨u9, rfl, o9, b9⟩
  have D9 := Lib.hid (D8.out.up b9)
  have S9 := Lib.hid (S8.out.up b9)
  have O9 := Lib.hid (rdt_of_own o9)
  clear o9 b9 D8 S8
  go_wp2_with fail
  refine (reduceRem_any g _ u9 n _ w9 O9.out S9.out (fun i hi => ⟨PV.out.lt i hi, PV.out.tl i hi⟩) (fun i hi => ⟨pow_lt60 (by omega), Nat.two_pow_pos 60⟩) (by omega)).mono ?_
  rintro e w10 ⟨u10, rfl, o10, b10⟩
  have D10 := Lib.hid (D9.out.up b10)
  have Q10 : Hid (RdT w10 u10 n (remI R)) := Lib.hid (rdt_of_own o10)
  obtain ⟨qa, qc, rfl⟩ := o10.shape
  clear o10 b10 D9 S9 O9
  go_wp2_with fail
  go_loopw [7, 32] (fun _ c wr => ∃ (i : Nat) (v : Value), i ≤ z ∧ c = .int .i64 i ∧ Hid (Bld w w.heap.size (w.heap.size + 1) gO (.int .i64 n) (.slice a n cap) n v (nI (invs (remI R) i)) wr) ∧ Hid (RdT wr (.slice qa n qc) n (remI R))) (fun _ c _ => n - (intOf c).toNat)
  case atStart => exact ⟨0, _, by omega, rfl, D10, Q10⟩
  case round =>
    clear D10 Q10
    obtain ⟨i, v, hi, rfl, S, Q⟩ := hrel
    have LL := Lib.hid (show (nI (invs (remI R) i)).length = i by rw [nI_length, invs_length])
    have o0 := S.out.own
    rw [LL.out] at o0
    obtain ⟨va, vc, rfl⟩ := o0.shape
    have O := Lib.hid o0
    clear o0
    by_cases hlt : i < n
    · have hlt' : (i : Int) < (n : Int) := by omega
      obtain ⟨b, rfl, c0, c1⟩ := Q.out.at hlt
      have E : Hid (nI (invs (remI R) (i + 1)) = nI (invs (remI R) i) ++ [(((remI R i).2 : Nat) : Int)]) := Lib.hid (by rw [invs_succ, nI_app]; rfl)
      have A := Lib.hid (S.out.alloc (.cells #[.int .i64 (((remI R i).1 : Nat) : Int), .int .i64 (((remI R i).2 : Nat) : Int)] 91))
      by_cases hiz : i < z
      · have h0 := HG.out i hiz
        have hb : ((((remI R i).1 : Nat) : Int) != 0) = false := by rw [h0]; rfl
        clear h0
        generalize hq : remI R i = q at *
        clear hq
        generalize nI (invs (remI R) i) = L at *
        have A3 := Lib.hid (A.out.alloc (.cells #[.int .i64 ((q.2 : Nat) : Int)] 2))
        have AO := Lib.hid (own_below (own_below O.out ((Below.refl _ _).alloc (Nat.le_refl _) (.cells #[.int .i64 ((q.1 : Nat) : Int), .int .i64 ((q.2 : Nat) : Int)] 91))) ((Below.refl _ _).alloc (Nat.le_refl _) (.cells #[.int .i64 ((q.2 : Nat) : Int)] 2)))
        have Q3 := Lib.hid ((Q.out.up ((Below.refl _ _).alloc (Nat.le_refl _) (.cells #[.int .i64 ((q.1 : Nat) : Int), .int .i64 ((q.2 : Nat) : Int)] 91))).up ((Below.refl _ _).alloc (Nat.le_refl _) (.cells #[.int .i64 ((q.2 : Nat) : Int)] 2)))
        have CN : Hid (((wr.alloc (.cells #[.int .i64 ((q.1 : Nat) : Int), .int .i64 ((q.2 : Nat) : Int)] 91)).alloc (.cells #[.int .i64 ((q.2 : Nat) : Int)] 2)).cell? ⟨wr.heap.size + 1, 0, none⟩ = some (.int .i64 ((q.2 : Nat) : Int))) := Lib.hid (by simp)
        have cO1 := A.out.bO.c1
        go_wp2_with (at_builtin; refine wpList_append1 rfl _ _ rfl w.heap.size _ i L rfl AO.out _ _ 1 rfl CN.out ?c1 ?c2 ?_)
        case c1 => omega
        case c2 => exact A3.out.bel.size
        intro v' w2 ho hg
        obtain ⟨va', vc', rfl⟩ := ho.shape
        have A2 := Lib.hid (A3.out.app (r := ((q.2 : Nat) : Int)) (by rw [LL.out, List.map_append]; exact ho) hg)
        have F := Lib.hid (Bld2.store A3.out A2.out)
        have QF := Lib.hid ((Q3.out.grownI AO.out hg).setBox (i := 1) (u := .slice va' (i + 1) vc') A2.out.bO)
        have e0 := A2.out.bO.c1
        have e1 := A2.out.bO.fr 1
        clear ho hg
        go_wp2
        go_roundw
        case rel => exact ⟨i + 1, _, by omega, by go_num, Lib.hid (by rw [E.out]; exact F.out), QF⟩
        case measure => simp [intOf]; omega
      · obtain rfl : i = z := by omega
        have h0 := HB.out hlt
        have hb : ((((remI R i).1 : Nat) : Int) != 0) = true := by rw [bne_iff_ne]; omega
        obtain ⟨E1, E2, E3⟩ := RB.out hlt
        have E1 := Lib.hid E1
        have E2 := Lib.hid E2
        have E3 := Lib.hid E3
        have cR0 := A.out.bR.c0
        have cR1 := A.out.bR.c1
        have fR0 := A.out.bR.fr 0
        have fR1 := A.out.bR.fr 1
        have X5 := Lib.hid ((A.out.bR.set0 (.int .i64 0)).set1 (.slice none 0 0))
        have B5 := Lib.hid ((A.out.bel.setCell (p := ⟨w.heap.size + 1, 0, none⟩) (by simp) (.int .i64 0)).setCell (p := ⟨w.heap.size + 1, 1, none⟩) (by simp) (.slice none 0 0))
        clear h0
        generalize remI R i = q at *
        go_wp2
        refine bodyPost_ret (results_box_tmp rfl _ _ (w.heap.size + 1) _ _ _ rfl X5.out t2 (by kernel_rfl)) rfl ?_
        exact ⟨_, by rw [E1.out, E3.out]; rfl, by rw [E2.out]; exact World.ownsRow_nil _ _ _ _, B5.out⟩
    · obtain rfl : i = n := by omega
      obtain ⟨E1, E2, E3⟩ := RG.out (by omega)
      have E1 := Lib.hid E1
      have E2 := Lib.hid E2
      have E3 := Lib.hid E3
      have cO0 := S.out.bO.c0
      have cO1 := S.out.bO.c1
      have cR0 := S.out.bR.c0
      have cR1 := S.out.bR.c1
      have fR0 := S.out.bR.fr 0
      have fR1 := S.out.bR.fr 1
      obtain ⟨F1, F2, F3⟩ := S.out.fin
      have F1 := Lib.hid F1
      have F2 := Lib.hid F2
      have F3 := Lib.hid F3
      go_wp2
      refine bodyPost_ret (results_box_tmp rfl _ _ (w.heap.size + 1) _ _ _ rfl F1.out t2 (by kernel_rfl)) rfl ?_
      refine ⟨_, by rw [E1.out, E3.out]; rfl, ?_, F3.out⟩
      rw [E2.out]
      exact F2.out
end Go.Proofs.YtdojblmffmefgaaDoor
