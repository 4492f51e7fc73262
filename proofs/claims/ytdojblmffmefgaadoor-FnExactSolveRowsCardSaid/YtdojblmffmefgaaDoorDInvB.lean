/-
  InverseMatrix, both sides.
-/
import Derived.Test.YtdojblmffmefgaaDoorDInv
import Derived.Test.YtdojblmffmefgaaDoorMLaw2
namespace Go.Proofs.YtdojblmffmefgaaDoor
open Go.RowKit
set_option linter.unusedVariables false
set_option maxRecDepth 100000

theorem first_is (P : Nat → Prop) (n : Nat) : ∃ z, z ≤ n ∧ (∀ i, i < z → P i) ∧ (z < n → ¬ P z) := by
  induction n with
  | zero => exact ⟨0, Nat.le_refl _, fun i hi => absurd hi (Nat.not_lt_zero _), fun h => absurd h (Nat.lt_irrefl _)⟩
  | succ n ih =>
    obtain ⟨z, h1, h2, h3⟩ := ih
    by_cases hz : z < n
    · exact ⟨z, by omega, h2, fun _ => h3 hz⟩
    · have e : z = n := by omega
      subst e
      by_cases hP : P z
      · refine ⟨z + 1, Nat.le_refl _, fun i hi => ?_, fun h => absurd h (Nat.lt_irrefl _)⟩
        by_cases e : i = z
        · subst e; exact hP
        · exact h2 i (by omega)
      · exact ⟨z, by omega, h2, fun _ => hP⟩

/-- The i-th solution: what is left, and its trace. -/
def sol (R : List Nat) (i : Nat) : TR := rml (kruns (fun i => R.getD i 0) R.length).D (kruns (fun i => R.getD i 0) R.length).M (2 ^ i, 0)
def remI (R : List Nat) (i : Nat) : TR := rmd (krunS (fun i => R.getD i 0) R.length) (2 ^ i, 0) 60
def invs (f : Nat → TR) (j : Nat) : List Nat := (List.range j).map fun i => (f i).2
theorem invs_succ (f : Nat → TR) (j : Nat) : invs f (j + 1) = invs f j ++ [(f j).2] := by simp [invs, List.range_succ]
theorem invs_length (f : Nat → TR) (j : Nat) : (invs f j).length = j := by simp [invs]

structure Inv (f : Nat → TR) (n : Nat) (C : Int) (L : List Int) (cd : Int) : Prop where
  bad : (∃ i, i < n ∧ (f i).1 ≠ 0) → C = 0 ∧ L = [] ∧ cd = 5
  good : (∀ i, i < n → (f i).1 = 0) → C = n ∧ L = nI (invs f n) ∧ cd = 0

theorem Inv.both {R : List Nat} (hl : R.length ≤ 60) (hR : ∀ x ∈ R, x < 2 ^ 60) {C : Int} {L : List Int} {cd : Int} (h : Inv (sol R) R.length C L cd) : Inv (remI R) R.length C L cd := by
  have S : ∀ i, i < R.length → ((sol R i).1 = 0 ↔ (remI R i).1 = 0) ∧ ((remI R i).1 = 0 → (sol R i).2 = (remI R i).2) := fun i hi => by
    have := solve_same (fun i => R.getD i 0) R.length (2 ^ i) hl (fun i hi => getD_lt' hR i hi)
    exact ⟨this.1, fun z => (this.2 z).1⟩
  refine ⟨fun ⟨i, hi, h0⟩ => h.bad ⟨i, hi, fun z => h0 ((S i hi).1.1 z)⟩, fun hg => ?_⟩
  obtain ⟨a, b, c⟩ := h.good (fun i hi => (S i hi).1.2 (hg i hi))
  refine ⟨a, ?_, c⟩
  rw [b]
  congr 1
  apply List.map_congr_left
  intro i hi
  exact (S i (List.mem_range.1 hi)).2 (hg i (List.mem_range.1 hi))
theorem inv_ex (f : Nat → TR) (n : Nat) (hn : n ≤ 60) : ∃ C L cd, Inv f n C L cd ∧ L.length ≤ 200 := by
  by_cases h : ∀ i, i < n → (f i).1 = 0
  · exact ⟨n, nI (invs f n), 0, ⟨fun ⟨i, hi, h0⟩ => absurd (h i hi) h0, fun _ => ⟨rfl, rfl, rfl⟩⟩, by rw [nI_length, invs_length]; omega⟩
  · exact ⟨0, [], 5, ⟨fun _ => ⟨rfl, rfl, rfl⟩, fun h2 => absurd h2 h⟩, by simp⟩

set_option maxHeartbeats 2000000 in
theorem specInv_in (n : Nat) (s : Value) (G : Nat → Int) (R : List Nat) (w : World) (h : RdI w s n G) (hi : isMat n n G = true) (hn : R.length = n) (hn6 : n ≤ 60) (hR : ∀ x ∈ R, x < 2 ^ 60) (hN : ∀ (w : World) (s : Value), RdI w s n G → RdN w s R)
    (C : Int) (L' : List Int) (cd : Int) (hres : Inv (sol R) n C L' cd) :
    Calls Tryd.prog 50 #[.agg #[.int .i64 n, s]] w (MRes C L' cd w) := by
  obtain ⟨z, hz, hgood, hbad⟩ := first_is (fun i => (sol R i).1 = 0) n
  have RB : Hid (z < n → C = 0 ∧ L' = [] ∧ cd = 5) := Lib.hid (fun hlt => hres.bad ⟨z, hlt, hbad hlt⟩)
  have RG : Hid (z = n → C = n ∧ L' = nI (invs (sol R) n) ∧ cd = 0) := Lib.hid (fun e => hres.good (fun i hi => hgood i (by omega)))
  have HG := Lib.hid hgood
  have HB := Lib.hid hbad
  have H := Lib.hid h
  have SLV := Lib.hid (fun (w : World) (s : Value) (hw : RdI w s n G) (i : Nat) (hi : i < 60) => l02Solve_any s R w (hN w s hw) hR (by omega) (2 ^ i) (pow_lt60 hi))
  obtain ⟨a, cap, rfl, hm, hc⟩ := h
  clear hc hres hgood hbad hN hR
  have t2 := Tryd.underlying26
  obtain ⟨w2, hw2, B2, XA, XR, HR⟩ := box_two (c := n) H.out
  have SI := Lib.hid (specIs_any n _ n G w2 HR)
  have B2 := Lib.hid B2
  have XA := Lib.hid XA
  have XR := Lib.hid XR
  have HR := Lib.hid HR
  rw [hi] at SI
  clear hi
  go_enter Tryd.func50, Tryd.ntmps50
  go_wp2_with fail
  rw [← hw2]
  clear hw2
  refine SI.out.mono ?_
  rintro e w3 ⟨rfl, b3⟩
  have B3 := Lib.hid (B2.out.trans (b3.mono B2.out.size))
  have XA3 := Lib.hid (XA.out.up b3)
  have XR3 := Lib.hid (XR.out.up b3)
  clear b3 B2 XR XA HR SI
  have S4 : Hid (Bld w w.heap.size (w.heap.size + 1) w3.heap.size (.int .i64 n) (.slice a n cap) n (.slice none 0 0) (nI (invs (sol R) 0)) (w3.alloc (.cells #[.int .i64 n, .slice none 0 0] 26))) := Lib.hid (by
    refine ⟨B3.out.alloc (B3.out.size) _, XA3.out.alloc _, XR3.out.alloc _, Box.new w3 _ _ _, World.ownsRow_nil _ _ _ _, by omega, by omega, B3.out.size, ?_, ?_⟩
    · have := XA3.out.lt; omega
    · have := XR3.out.lt; omega)
  have a0 := XA3.out.c0
  have a1 := XA3.out.c1
  go_wp2
  generalize (w3.alloc (.cells #[.int .i64 n, .slice none 0 0] 26)) = w4 at *
  clear a0 a1 XA3 XR3 B3
  generalize w3.heap.size = gO at *
  go_loopw [5] (fun c wr => ∃ (i : Nat) (v : Value), i ≤ z ∧ c = .int .i64 i ∧ Hid (Bld w w.heap.size (w.heap.size + 1) gO (.int .i64 n) (.slice a n cap) n v (nI (invs (sol R) i)) wr)) (fun c _ => n - (intOf c).toNat)
  case atStart => exact ⟨0, _, by omega, rfl, S4⟩
  case round =>
    clear S4
    obtain ⟨i, v, hi, rfl, S⟩ := hrel
    have LL := Lib.hid (show (nI (invs (sol R) i)).length = i by rw [nI_length, invs_length])
    have o0 := S.out.own
    rw [LL.out] at o0
    obtain ⟨va, vc, rfl⟩ := o0.shape
    have O := Lib.hid o0
    clear o0
    have cA0 := S.out.bA.c0
    have cA1 := S.out.bA.c1
    by_cases hlt : i < n
    · have hlt' : (i : Int) < (n : Int) := by omega
      have SV := SLV.out wr _ (H.out.below S.out.bel) i (by omega)
      rw [← wrap_two i (by omega)] at SV
      have SV := Lib.hid SV
      have ES : Hid (rml (kruns (fun i => R.getD i 0) R.length).D (kruns (fun i => R.getD i 0) R.length).M (2 ^ i, 0) = sol R i) := Lib.hid rfl
      rw [ES.out] at SV
      go_wp2_with fail
      refine SV.out.mono ?_
      rintro e w5 ⟨rfl, b5⟩
      have S5 := Lib.hid (S.out.up b5)
      have O5 := Lib.hid (own_below O.out b5)
      clear b5 S O cA0 cA1 SV
      by_cases hiz : i < z
      · have h0 := HG.out i hiz
        have hb : ((((sol R i).1 : Nat) : Int) == 0) = true := by rw [h0]; rfl
        have E : Hid (nI (invs (sol R) (i + 1)) = nI (invs (sol R) i) ++ [(((sol R i).2 : Nat) : Int)]) := Lib.hid (by rw [invs_succ, nI_app]; rfl)
        clear h0
        generalize sol R i = q at *
        generalize nI (invs (sol R) i) = L at *
        have A := Lib.hid (S5.out.alloc (.cells #[.int .i64 ((q.2 : Nat) : Int)] 2))
        have AO := Lib.hid (own_below O5.out ((Below.refl _ _).alloc (Nat.le_refl _) (.cells #[.int .i64 ((q.2 : Nat) : Int)] 2)))
        have cO1 := S5.out.bO.c1
        go_wp2_with (at_builtin; refine wpList_append1 rfl _ _ rfl w.heap.size _ i L rfl AO.out _ _ 1 rfl (World.cell?_alloc_new _ _ _ _) ?c1 ?c2 ?_)
        case c1 => omega
        case c2 => have := S5.out.bel.size; simp; omega
        intro v' w2 ho hg
        obtain ⟨va', vc', rfl⟩ := ho.shape
        have A2 := Lib.hid (A.out.app (r := ((q.2 : Nat) : Int)) (by rw [LL.out, List.map_append]; exact ho) hg)
        have F := Lib.hid (Bld2.store A.out A2.out)
        have e0 := A2.out.bO.c1
        have e1 := A2.out.bO.fr 1
        clear ho hg
        go_wp2
        go_roundw
        case rel => exact ⟨i + 1, _, by omega, by go_num, Lib.hid (by rw [E.out]; exact F.out)⟩
        case measure => simp [intOf]; omega
      · obtain rfl : i = z := by omega
        have h0 := HB.out hlt
        have hb : ((((sol R i).1 : Nat) : Int) == 0) = false := by rw [beq_eq_false_iff_ne]; omega
        obtain ⟨E1, E2, E3⟩ := RB.out hlt
        have E1 := Lib.hid E1
        have E2 := Lib.hid E2
        have E3 := Lib.hid E3
        have cR0 := S5.out.bR.c0
        have cR1 := S5.out.bR.c1
        have fR0 := S5.out.bR.fr 0
        have fR1 := S5.out.bR.fr 1
        have X5 := Lib.hid ((S5.out.bR.set0 (.int .i64 0)).set1 (.slice none 0 0))
        have B5 := Lib.hid ((S5.out.bel.setCell (p := ⟨w.heap.size + 1, 0, none⟩) (by simp) (.int .i64 0)).setCell (p := ⟨w.heap.size + 1, 1, none⟩) (by simp) (.slice none 0 0))
        clear h0
        generalize sol R i = q at *
        go_wp2
        refine bodyPost_ret (results_box_tmp rfl _ _ (w.heap.size + 1) _ _ _ rfl X5.out t2 (by kernel_rfl)) rfl ?_
        exact ⟨_, by rw [E1.out, E3.out]; rfl, by rw [E2.out]; exact World.ownsRow_nil _ _ _ _, B5.out⟩
    · obtain rfl : i = n := by omega
      obtain ⟨E1, E2, E3⟩ := RG.out (by omega)
      have E1 := Lib.hid E1
      have E2 := Lib.hid E2
      have E3 := Lib.hid E3
      have cO0 := S.out.bO.c0
      have cO1 := S.out.bO.c1
      have cR0 := S.out.bR.c0
      have cR1 := S.out.bR.c1
      have fR0 := S.out.bR.fr 0
      have fR1 := S.out.bR.fr 1
      obtain ⟨F1, F2, F3⟩ := S.out.fin
      have F1 := Lib.hid F1
      have F2 := Lib.hid F2
      have F3 := Lib.hid F3
      go_wp2
      refine bodyPost_ret (results_box_tmp rfl _ _ (w.heap.size + 1) _ _ _ rfl F1.out t2 (by kernel_rfl)) rfl ?_
      refine ⟨_, by rw [E1.out, E3.out]; rfl, ?_, F3.out⟩
      rw [E2.out]
      exact F2.out
end Go.Proofs.YtdojblmffmefgaaDoor
