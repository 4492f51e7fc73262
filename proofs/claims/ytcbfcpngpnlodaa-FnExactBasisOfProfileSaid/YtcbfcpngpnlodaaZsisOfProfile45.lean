/-
  Joined: QBaB, LFnExactBasisOfProfile.
-/
import Derived.Test.YtcbfcpngpnlodaaZsisOfProfile44
import Derived.Test.YtcbfcpngpnlodaaZsisOfProfile08
import Derived.Deep.RegionHeld3
section
namespace Go.Proofs.Ytcbfcpngpnlodaa
open Go Go.RowKit
set_option linter.unusedVariables false
set_option maxRecDepth 100000

theorem basQ_off (n d : Nat) (H : Nat → Int) (hd : d ≤ 40) : off 1 (fun i => (rowsOf (basQ n H d) i).length) (basQ n H d).length ≤ 1152921504606846976 := by
  have h1 : (basQ n H d).length ≤ 1000 := by
    unfold basQ idxB
    rw [List.length_map]
    have := List.length_filter_le (inB (parts 6 [] d) n H) (List.range (parts 6 [] d).length)
    rw [List.length_range] at this
    have := (parts_asc d hd).2
    omega
  have h2 := off_bound (fun i => (rowsOf (basQ n H d) i).length) 10 (basQ n H d).length (fun i hi => by
    unfold basQ at hi ⊢
    rw [List.length_map] at hi
    show ((((idxB (inB (parts 6 [] d) n H) (parts 6 [] d).length).map (rowsOf (parts 6 [] d)))[i]?).getD []).length ≤ 10
    rw [List.getElem?_map, List.getElem?_eq_getElem hi]
    exact (parts_good d hd _ (idxB_mem.1 (List.getElem_mem hi)).1).1.1)
  omega

theorem BasisOfProfile_both (n : Nat) (H : Nat → Int) (a : Int) : ∃ (xss : List (List Int)) (c : Int), off 1 (fun i => (rowsOf xss i).length) xss.length ≤ 1152921504606846976 ∧
    (∀ v w, RdI w v n H → Calls Try.prog 37 #[v, .int .i64 a] w (SpecRes w c xss)) ∧
    (∀ v w, RdI w v n H → Calls Try.prog 38 #[v, .int .i64 a] w (ImplRes w c xss)) := by
  by_cases h2 : okPr H n
  · by_cases hd : 0 ≤ a ∧ a ≤ 40
    · obtain ⟨d, rfl⟩ := Int.eq_ofNat_of_zero_le hd.1
      exact ⟨basQ n H d, 0, basQ_off n d H (by omega), fun v w hv => specBa_ok v n d H w hv h2 (by omega), fun v w hv => implBa_ok v n d H w hv h2 (by omega)⟩
    · exact ⟨[], 2, by decide, fun v w hv => specBa_far v n a H w hv h2 hd, fun v w hv => implBa_far v n a H w hv h2 hd⟩
  · exact ⟨[], 1, by decide, fun v w hv => specBa_no v n a H w hv h2, fun v w hv => implBa_no v n a H w hv h2⟩
end Go.Proofs.Ytcbfcpngpnlodaa
end
section
namespace Go.Proofs.Ytcbfcpngpnlodaa
open Go.RowKit
set_option linter.unusedVariables false
set_option maxRecDepth 100000

/-- A family stays while a row of another block is written. -/
theorem fam_beside {w w' : World} {B m : Nat} {V u : Value} {VS : Nat → Value} {Y : Nat → List Int} (h : Fam w B V m VS Y) (hg : w.grownBy w' u.ownBlock) (hu : ∀ q, u.ownBlock = some q → q < B) : Fam w' B V m VS Y := by
  have ne : ∀ {e : TypeId} {s n : Nat} {x : Value} {ys : List Value}, w.ownsRow B e s x n ys → x.ownBlock = none ∨ x.ownBlock ≠ u.ownBlock := fun {e s n x ys} o => by
    cases hx : x.ownBlock with
    | none => exact .inl rfl
    | some q =>
      refine .inr fun e2 => ?_
      have h1 := (o.lt q hx).1
      have h2 := hu q e2.symm
      omega
  exact ⟨h.out.kept hg (ne h.out), fun i hi => (h.inn i hi).kept hg (ne (h.inn i hi))⟩

set_option maxHeartbeats 4000000 in
theorem walk_FnExactBasisOfProfile (a0 : Option Addr) (len0 cap0 : Nat) (z0 : List Int) (a1 : Int) (w : World) (w0 : IsRow .i64 w a0 len0 cap0 z0) (w1 : (Lit.int .i64 a1).wf = true) :
    Calls Try.prog 10 #[.slice a0 len0 cap0, .int .i64 a1] w fun e w' => e = .returned (.bool true) ∧ Below w.heap.size w w' := by
  have hr0 := w0.rd
  clear w0 w1
  generalize (fun i => z0.getD i 0) = G0 at hr0
  have RW0 := Lib.hid (fun wx (hx : Below w.heap.size w wx) => hr0.below hx)
  clear hr0
  by_cases hbig0 : len0 ≤ 1048576
  · have hbig0' : (len0 : Int) ≤ 1048576 := by omega
    obtain ⟨xss, cd, hoff, S, I⟩ := BasisOfProfile_both len0 G0 a1
    have hge : ¬ off 1 (fun i => (rowsOf xss i).length) xss.length < 0 := by
      have := off_low 1 (fun i => (rowsOf xss i).length) xss.length
      omega
    have HOFF := Lib.hid hoff
    have S := Lib.hid S
    have I := Lib.hid I
    have hx2 : (cd != cd) = false := bne_self_eq_false _
    have hk0 : ¬ (1 : Int) + (len0 : Int) < 0 := by omega
    have B0 : Hid (Below w.heap.size w w) := Lib.hid (Below.refl _ _)
    clear hoff
    go_enter Try.func10, Try.ntmps10
    go_wp2_with fail
    refine (toInt64S_any _ len0 G0 _ (by omega) (RW0.out _ B0.out)).mono ?_
    rintro e w1 ⟨v1, rfl, o1, b1⟩
    have U1 := Lib.hid (rd_cpy o1)
    have B1 := Lib.hid (below_one B0.out b1)
    clear o1 b1 B0
    go_wp2_with fail
    refine (S.out _ _ U1.out).mono ?_
    rintro e w2 ⟨Vw, VSw, rfl, fw2, b2⟩
    have FW2 := Lib.hid fw2
    have B2 := Lib.hid (below_one B1.out b2)
    clear fw2 b2 B1 U1
    go_wp2_with fail
    refine (toInt64S_any _ len0 G0 _ (by omega) (RW0.out _ B2.out)).mono ?_
    rintro e w3 ⟨v3, rfl, o3, b3⟩
    have U3 := Lib.hid o3
    have HU3 : Hid (∀ q, v3.ownBlock = some q → q < w3.heap.size) := Lib.hid (fun q hq => (o3.lt q hq).2)
    have HSZ : Hid (w2.heap.size ≤ w3.heap.size) := Lib.hid b3.size
    have FW3 := Lib.hid (Fam.below FW2.out b3)
    have B3 := Lib.hid (below_one B2.out b3)
    clear o3 b3
    go_wp2_with fail
    refine (I.out _ _ (rd_cpy U3.out)).mono ?_
    rintro e w4 ⟨Vg, VSg, rfl, fg4, b4, sg⟩
    have FG4 := Lib.hid fg4
    have SG := Lib.hid sg
    have U4 := Lib.hid (own_below U3.out b4)
    have FW4 := Lib.hid (Fam.below FW3.out b4)
    have B4 := Lib.hid (below_one B3.out b4)
    have Z4 : Hid (w2.heap.size ≤ w4.heap.size) := Lib.hid (Nat.le_trans HSZ.out b4.size)
    clear fg4 sg b4 U3 FW3 B3
    go_wp2_with fail
    refine (eqInt64SS_same Vg Vw xss.length _ _ VSg VSw _ _ FG4.out FW4.out).mono ?_
    rintro e w5 ⟨rfl, q5, rfl⟩
    have c5 := below_dr w4 q5
    have FG5 := Lib.hid (Fam.below FG4.out c5)
    have FW5 := Lib.hid (Fam.below FW4.out c5)
    have U5 := Lib.hid (own_below U4.out c5)
    have B5 := Lib.hid (below_one B4.out c5)
    have Z5 : Hid (w2.heap.size ≤ (w4.drewN q5).heap.size) := Lib.hid (Nat.le_trans Z4.out c5.size)
    clear c5 FG4 FW4 U4 B4
    generalize w4.drewN q5 = w5 at *
    go_wp2_with fail
    refine (toInt64S_any _ len0 G0 _ (by omega) (RW0.out _ B5.out)).mono ?_
    rintro e w6 ⟨v6, rfl, o6, b6⟩
    have O6 := Lib.hid o6
    have FG6 := Lib.hid (Fam.below FG5.out b6)
    have FW6 := Lib.hid (Fam.below FW5.out b6)
    have U6 := Lib.hid (own_below U5.out b6)
    have B6 := Lib.hid (below_one B5.out b6)
    have Z6 : Hid (w2.heap.size ≤ w6.heap.size) := Lib.hid (Nat.le_trans Z5.out b6.size)
    clear o6 b6 FG5 FW5 U5 B5
    go_wp2_with fail
    refine (eqInt64S_same _ _ len0 _ _ (rd_cpy U6.out) (rd_cpy O6.out)).mono ?_
    rintro e w7 ⟨rfl, q7, rfl⟩
    have c7 := below_dr w6 q7
    have FG7 := Lib.hid (Fam.below FG6.out c7)
    have FW7 := Lib.hid (Fam.below FW6.out c7)
    have U7 := Lib.hid (own_below U6.out c7)
    have B7 := Lib.hid (below_one B6.out c7)
    have Z7 : Hid (w2.heap.size ≤ (w6.drewN q7).heap.size) := Lib.hid (Nat.le_trans Z6.out c7.size)
    clear c7 FG6 FW6 U6 B6 O6
    generalize w6.drewN q7 = w7 at *
    go_wp2_with fail
    refine (markInt64S_own _ len0 _ 1 _ _ (by omega) (by omega) (by omega) U7.out).mono ?_
    rintro e w8 ⟨rfl, m8, g8, _⟩
    have k8 : Below w2.heap.size w7 w8 := (Below.refl w2.heap.size w7).grown g8 Z7.out (fun q hq => (U7.out.lt q hq).1)
    have FW8 := Lib.hid (FW2.out.low k8 FW7.out)
    have FG8 := Lib.hid (fam_beside FG7.out g8 HU3.out)
    have B8 := Lib.hid (B7.out.grown g8 B7.out.size (fun q hq => by have := (U7.out.lt q hq).1; have := B2.out.size; omega))
    clear m8 g8 k8 FW7 FG7 U7 B7
    go_wp2_with fail
    refine (eqInt64SS_same Vg Vw xss.length _ _ VSg VSw _ _ FG8.out FW8.out).mono ?_
    rintro e w9 ⟨rfl, q9, rfl⟩
    have c9 := below_dr w8 q9
    have FG9 := Lib.hid (Fam.below FG8.out c9)
    have FW9 := Lib.hid (Fam.below FW8.out c9)
    have B9 := Lib.hid (below_one B8.out c9)
    clear c9 FG8 FW8 B8
    generalize w8.drewN q9 = w9 at *
    go_wp2_with fail
    refine (markInt64SS_own Vg xss.length _ VSg _ _ FG9.out SG.out HOFF.out).mono ?_
    rintro e w10 ⟨rfl, fg10, b10⟩
    have FG10 := Lib.hid fg10
    have FW10 := Lib.hid (FW2.out.low (b10.mono HSZ.out) FW9.out)
    have B10 : Hid (Below w.heap.size w w10) := Lib.hid (B9.out.trans (b10.mono (Nat.le_trans B2.out.size HSZ.out)))
    clear fg10 b10 FG9 FW9 B9
    go_wp2_with fail
    refine (heldInt64SS_own Vg xss.length _ VSg _ _ FG10.out HOFF.out).mono ?_
    rintro e w11 ⟨rfl, rfl⟩
    go_wp2_with fail
    refine (toInt64S_any _ len0 G0 _ (by omega) (RW0.out _ B10.out)).mono ?_
    rintro e w12 ⟨v12, rfl, o12, b12⟩
    have O12 := Lib.hid o12
    have FG12 := Lib.hid (Fam.below FG10.out b12)
    have FW12 := Lib.hid (Fam.below FW10.out b12)
    have B12 := Lib.hid (below_one B10.out b12)
    clear o12 b12 FG10 FW10 B10
    go_wp2_with fail
    refine (I.out _ _ (rd_cpy O12.out)).mono ?_
    rintro e w13 ⟨Vh, VSh, rfl, fh13, b13, _⟩
    have FH13 := Lib.hid fh13
    have FG13 := Lib.hid (Fam.below FG12.out b13)
    have FW13 := Lib.hid (Fam.below FW12.out b13)
    have B13 := Lib.hid (below_one B12.out b13)
    clear fh13 b13 FG12 FW12 B12 O12
    go_wp2_with fail
    refine (eqInt64SS_same Vh Vw xss.length _ _ VSh VSw _ _ FH13.out FW13.out).mono ?_
    rintro e w14 ⟨rfl, q14, rfl⟩
    have c14 := below_dr w13 q14
    have FG14 := Lib.hid (Fam.below FG13.out c14)
    have B14 := Lib.hid (below_one B13.out c14)
    clear c14 FH13 FG13 FW13 B13
    generalize w13.drewN q14 = w14 at *
    go_wp2_with fail
    refine (heldInt64SS_own Vg xss.length _ VSg _ _ FG14.out HOFF.out).mono ?_
    rintro e w15 ⟨rfl, rfl⟩
    go_wp2_with fail
    go_ret
    exact ⟨rfl, B14.out⟩
  · have hbig0' : (1048576 : Int) < (len0 : Int) := by omega
    go_enter Try.func10, Try.ntmps10
    go_wp2
    go_ret
    exact ⟨rfl, Below.refl _ _⟩
end Go.Proofs.Ytcbfcpngpnlodaa
end
