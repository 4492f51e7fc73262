/-
  Joined: HNoT, HNorm.
-/
import Derived.Test.YtggebkcmokpcmaaZbleMonomials12
import Derived.Test.YtggebkcmokpcmaaZBHit36
section
namespace Go.Proofs.Ytggebkcmokpcmaa.Pl
open Go.RowKit
set_option linter.unusedVariables false
set_option maxRecDepth 100000

set_option maxHeartbeats 1000000 in
theorem specNo_bad (k0 c : Int) (a0 : Option Addr) (m q0 : Nat) (w : World) (hc : c ≠ 0) (PC : Hid (∀ wx, Below w.heap.size w wx → Calls Try.prog 48 #[.agg #[.int .i64 k0, .slice a0 m q0]] wx (SaysV (.int .i64 c) wx))) :
    Calls Try.prog 26 #[.agg #[.int .i64 k0, .slice a0 m q0]] w (ResY 0 [] c w) := by
  have t2 := Try.underlying31
  obtain ⟨w1, hw1⟩ : ∃ w1, w1 = ((w.alloc (.cells #[.int .i64 k0, .slice a0 m q0] 31)).alloc (.cells #[.int .i64 0, .slice none 0 0] 31)) := ⟨_, rfl⟩
  have S1 : Hid (Bx2Q w k0 (.slice a0 m q0) w1) := Lib.hid (by rw [hw1]; exact Bx2Q.start _ _ _)
  have d0 := S1.out.boxA.c0
  have d1 := S1.out.boxA.c1
  go_enter Try.func26, Try.ntmps26
  go_upto_region 1 with fail
  rw [← hw1]
  clear hw1
  go_wp2_with fail
  refine (PC.out w1 S1.out.bel).mono ?_
  rintro e w2 ⟨rfl, b2⟩
  have S2 := Lib.hid (S1.out.up b2)
  clear b2 S1 d0 d1
  have r0 := S2.out.boxR.c0
  have r1 := S2.out.boxR.c1
  have f0 := S2.out.boxR.fr 0
  have f1 := S2.out.boxR.fr 1
  go_wp2_with fail
  refine bodyPost_ret (results_box2_tmp rfl _ _ (w.heap.size + 1) _ _ _ rfl ((S2.out.boxR.set0 _).set1 _) t2 (by kernel_rfl)) rfl ?_
  exact ⟨_, fun _ => undef, rfl, famNil _ _, sepNil, (S2.out.bel.setCell (p := ⟨w.heap.size + 1, 0, none⟩) (by simp) _).setCell (p := ⟨w.heap.size + 1, 1, none⟩) (by simp) _⟩

set_option maxHeartbeats 4000000 in
theorem specNo_ok (k0 : Int) (N : List (List Int)) (a0 : Option Addr) (m q0 : Nat) (w : World) (hN : N.length ≤ 1000 ∧ ∀ t ∈ N, t.length ≤ 4) (PC : Hid (∀ wx, Below w.heap.size w wx → Calls Try.prog 48 #[.agg #[.int .i64 k0, .slice a0 m q0]] wx (SaysV (.int .i64 0) wx)))
    (NM : Hid (∀ wx, Below w.heap.size w wx → Calls Try.prog 49 #[.agg #[.int .i64 k0, .slice a0 m q0]] wx fun e w' => ∃ V VS, e = .returned V ∧ FamL w' 0 V VS N ∧ Below wx.heap.size wx w')) :
    Calls Try.prog 26 #[.agg #[.int .i64 k0, .slice a0 m q0]] w (ResY k0 N 0 w) := by
  have OW : Hid (∀ wx V VS, FamL wx 0 V VS N → Calls Try.prog 56 #[V] wx fun e w' => ∃ U US, e = .returned U ∧ FamL w' wx.heap.size U US N ∧ Sep N.length US ∧ Below wx.heap.size wx w') := Lib.hid (fun wx V VS hF => by
    have := l01Own2_any V N.length 0 VS (rowsOf N) wx hF hN.1 (fun i hi => by
      have h1 : rowsOf N i ∈ rowsL (rowsOf N) N.length := List.mem_map.2 ⟨i, List.mem_range.2 hi, rfl⟩
      rw [rowsL_ofR] at h1
      have := hN.2 _ h1
      omega)
    rw [rowsL_ofR] at this
    exact this)
  clear hN
  have t2 := Try.underlying31
  obtain ⟨w1, hw1⟩ : ∃ w1, w1 = ((w.alloc (.cells #[.int .i64 k0, .slice a0 m q0] 31)).alloc (.cells #[.int .i64 0, .slice none 0 0] 31)) := ⟨_, rfl⟩
  have S1 : Hid (Bx2Q w k0 (.slice a0 m q0) w1) := Lib.hid (by rw [hw1]; exact Bx2Q.start _ _ _)
  have d0 := S1.out.boxA.c0
  have d1 := S1.out.boxA.c1
  go_enter Try.func26, Try.ntmps26
  go_upto_region 1 with fail
  rw [← hw1]
  clear hw1
  go_wp2_with fail
  refine (PC.out w1 S1.out.bel).mono ?_
  rintro e w3 ⟨rfl, b2⟩
  have S3 := Lib.hid (S1.out.up b2)
  clear b2 S1 d0 d1
  have KEEP : Hid (∀ wx, w3.grownBy wx (some (w.heap.size + 1)) → (wx.cell? ⟨w.heap.size, 0, none⟩ = some (.int .i64 k0) ∧ wx.cell? ⟨w.heap.size, 1, none⟩ = some (.slice a0 m q0) ∧ w3.grownBy wx (some (w.heap.size + 1)))) :=
    Lib.hid (fun wx hb => ⟨(S3.out.boxA.gb hb (by omega)).c0, (S3.out.boxA.gb hb (by omega)).c1, hb⟩)
  have z0 : Below w3.heap.size w3 w3.drew := (Below.refl _ _).drew
  have gR := S3.out.boxR.lt
  have gb0 : w3.grownBy w3.drew (some (w.heap.size + 1)) := gb_below z0 _
  have OE := Lib.hid (fun wD va vc VS b f s => okEndQ (wD := wD) (C := k0) (M := N) (va := va) (vc := vc) (VS := VS) S3.out b f s 0)
  have GE := S3.out.bel.size
  have d0 := S3.out.boxA.c0
  have d1 := S3.out.boxA.c1
  go_wp2_with fail
  go_region_held3 (fun wx => wx.cell? ⟨w.heap.size, 0, none⟩ = some (.int .i64 k0) ∧ wx.cell? ⟨w.heap.size, 1, none⟩ = some (.slice a0 m q0) ∧ w3.grownBy wx (some (w.heap.size + 1)))
    (first | exact KEEP.out _ gb0 | exact KEEP.out _ (by assumption) | exact KEEP.out _ (gb_set (gb_below z9 _) gR 0 _) | exact KEEP.out _ (gb_set (gb_set (gb_below z9 _) gR 0 _) gR 1 _))
    (first
      | (go_at_call 49; refine (NM.out _ (S3.out.bel.step1 z0)).mono ?_; rintro e w8 ⟨u8, us8, rfl, o8, b8⟩; have gb8 := gb_below (z0.step1 b8) (some (w.heap.size + 1)); have z8 := z0.step1 b8)
      | (go_at_call 56; refine (OW.out _ u8 us8 o8).mono ?_; rintro e w9 ⟨v9, vs9, rfl, f9, s9, b9⟩; have gb9 := gb_below (z8.step1 b9) (some (w.heap.size + 1)); have z9 := z8.step1 b9; have p9 := Fam.base (B' := w.heap.size) f9 (Nat.le_trans GE z8.size); have y0 := (S3.out.boxR.up z9).c0; have y1 := (S3.out.boxR.up z9).c1; have y2 := (S3.out.boxR.up z9).fr 0; have y3 := (S3.out.boxR.up z9).fr 1; obtain ⟨va9, vc9, rfl, _, _⟩ := Fam.head p9))
  have FIN := Lib.hid (OE.out w9 va9 vc9 vs9 z9 p9 s9)
  clear z0 z8 z9 b8 b9 o8 f9 p9 s9 y0 y1 y2 y3 KEEP S3 OE
  go_wp2_with fail
  refine bodyPost_ret (results_box2_tmp rfl _ _ (w.heap.size + 1) _ _ _ rfl FIN.out.1 t2 (by kernel_rfl)) rfl ?_
  exact FIN.out.2

set_option maxHeartbeats 1000000 in
theorem specHit_bad (k0 c : Int) (a0 : Option Addr) (m q0 : Nat) (w : World) (hc : c ≠ 0) (PC : Hid (∀ wx, Below w.heap.size w wx → Calls Try.prog 48 #[.agg #[.int .i64 k0, .slice a0 m q0]] wx (SaysV (.int .i64 c) wx))) :
    Calls Try.prog 17 #[.agg #[.int .i64 k0, .slice a0 m q0]] w (SaysV (.tuple #[.bool false, .int .i64 c]) w) := by
  have t2 := Try.underlying31
  obtain ⟨w1, hw1⟩ : ∃ w1, w1 = (w.alloc (.cells #[.int .i64 k0, .slice a0 m q0] 31)) := ⟨_, rfl⟩
  have S1 : Hid (Bx1 w k0 (.slice a0 m q0) w1) := Lib.hid (by rw [hw1]; exact Bx1.start _ _ _)
  have d0 := S1.out.2.c0
  have d1 := S1.out.2.c1
  go_enter Try.func17, Try.ntmps17
  go_upto_region 1 with fail
  rw [← hw1]
  clear hw1
  go_wp2_with fail
  refine (PC.out w1 S1.out.1).mono ?_
  rintro e w2 ⟨rfl, b2⟩
  have S2 := Lib.hid (S1.out.up b2)
  clear b2 S1 d0 d1
  go_wp2_with fail
  go_ret2
  exact ⟨rfl, S2.out.1⟩

set_option maxHeartbeats 1000000 in
theorem specHit_ok (k0 : Int) (N : List (List Int)) (a0 : Option Addr) (m q0 : Nat) (w : World) (PC : Hid (∀ wx, Below w.heap.size w wx → Calls Try.prog 48 #[.agg #[.int .i64 k0, .slice a0 m q0]] wx (SaysV (.int .i64 0) wx)))
    (NM : Hid (∀ wx, Below w.heap.size w wx → Calls Try.prog 49 #[.agg #[.int .i64 k0, .slice a0 m q0]] wx fun e w' => ∃ V VS, e = .returned V ∧ FamL w' 0 V VS N ∧ Below wx.heap.size wx w')) :
    Calls Try.prog 17 #[.agg #[.int .i64 k0, .slice a0 m q0]] w (SaysV (.tuple #[.bool ((N.length : Int) == 0), .int .i64 0]) w) := by
  have t2 := Try.underlying31
  obtain ⟨w1, hw1⟩ : ∃ w1, w1 = (w.alloc (.cells #[.int .i64 k0, .slice a0 m q0] 31)) := ⟨_, rfl⟩
  have S1 : Hid (Bx1 w k0 (.slice a0 m q0) w1) := Lib.hid (by rw [hw1]; exact Bx1.start _ _ _)
  have d0 := S1.out.2.c0
  have d1 := S1.out.2.c1
  go_enter Try.func17, Try.ntmps17
  go_upto_region 1 with fail
  rw [← hw1]
  clear hw1
  go_wp2_with fail
  refine (PC.out w1 S1.out.1).mono ?_
  rintro e w2 ⟨rfl, b2⟩
  have S2 := Lib.hid (S1.out.up b2)
  clear b2 S1 d0 d1
  have d0 := S2.out.2.c0
  have d1 := S2.out.2.c1
  go_wp2_with fail
  refine (NM.out _ S2.out.1).mono ?_
  rintro e w3 ⟨V, VS, rfl, hF, hB⟩
  have S3 := Lib.hid (S2.out.up hB)
  obtain ⟨va, vc, rfl, _, _⟩ := Fam.head hF
  clear hF hB S2 d0 d1 NM
  go_wp2_with fail
  go_ret2
  exact ⟨rfl, S3.out.1⟩

set_option maxHeartbeats 1000000 in
theorem isZeroP_any (k : Int) (a : Option Addr) (n cap : Nat) (w : World) : Calls Try.prog 51 #[.agg #[.int .i64 k, .slice a n cap]] w (SaysV (.bool ((n : Int) == 0)) w) := by
  have t2 := Try.underlying31
  have S1 := Lib.hid (Bx1.start w k (.slice a n cap))
  have d0 := S1.out.2.c0
  have d1 := S1.out.2.c1
  go_enter Try.func51, Try.ntmps51
  go_wp2_with fail
  go_ret
  exact ⟨rfl, S1.out.1⟩

set_option maxHeartbeats 2000000 in
theorem implHit_any (k0 C cd : Int) (N : List (List Int)) (a0 : Option Addr) (m q0 : Nat) (w : World)
    (NF : Hid (∀ wx, Below w.heap.size w wx → Calls Try.prog 27 #[.agg #[.int .i64 k0, .slice a0 m q0]] wx (ResY C N cd wx))) :
    Calls Try.prog 19 #[.agg #[.int .i64 k0, .slice a0 m q0]] w (SaysV (.tuple #[.bool (cd == 0 && (N.length : Int) == 0), .int .i64 cd]) w) := by
  have IZ := Lib.hid (fun k a n cap wx => isZeroP_any k a n cap wx)
  have t2 := Try.underlying31
  obtain ⟨w1, hw1⟩ : ∃ w1, w1 = (w.alloc (.cells #[.int .i64 k0, .slice a0 m q0] 31)) := ⟨_, rfl⟩
  have S1 : Hid (Bx1 w k0 (.slice a0 m q0) w1) := Lib.hid (by rw [hw1]; exact Bx1.start _ _ _)
  have d0 := S1.out.2.c0
  have d1 := S1.out.2.c1
  go_enter Try.func19, Try.ntmps19
  go_upto_region 1 with fail
  rw [← hw1]
  clear hw1
  by_cases hc : cd = 0
  · subst hc
    go_wp2_with fail
    refine (NF.out w1 S1.out.1).mono ?_
    rintro e w2 ⟨V, VS, rfl, hF, _, hB⟩
    obtain ⟨va, vc, rfl, _, _⟩ := Fam.head hF
    have B2 := Lib.hid (S1.out.1.step1 hB)
    clear hF hB S1 d0 d1 NF
    have BX : Hid (Box (w2.alloc (.cells #[.int .i64 C, .slice va N.length vc] 31)) w2.heap.size 31 (.int .i64 C) (.slice va N.length vc)) := Lib.hid (Box.new _ _ _ _)
    have B3 : Hid (Below w.heap.size w (w2.alloc (.cells #[.int .i64 C, .slice va N.length vc] 31))) := Lib.hid (B2.out.alloc B2.out.size _)
    have d0 := BX.out.c0
    have d1 := BX.out.c1
    go_wp2_with fail
    refine (IZ.out _ _ _ _ _).mono ?_
    rintro e w4 ⟨rfl, b4⟩
    have B4 := Lib.hid (B3.out.step1 b4)
    clear b4 B3 BX d0 d1
    go_wp2_with fail
    go_ret2
    exact ⟨by simp, B4.out⟩
  · have hc2 : (cd == 0) = false := by rw [beq_eq_false_iff_ne]; exact hc
    go_wp2_with fail
    refine (NF.out w1 S1.out.1).mono ?_
    rintro e w2 ⟨V, VS, rfl, hF, _, hB⟩
    obtain ⟨va, vc, rfl, _, _⟩ := Fam.head hF
    have B2 := Lib.hid (S1.out.1.step1 hB)
    clear hF hB S1 d0 d1 NF
    have B3 : Hid (Below w.heap.size w (w2.alloc (.cells #[.int .i64 C, .slice va N.length vc] 31))) := Lib.hid (B2.out.alloc B2.out.size _)
    go_wp2_with fail
    go_ret2
    exact ⟨by simp [hc2], B3.out⟩
end Go.Proofs.Ytggebkcmokpcmaa.Pl
end
section
namespace Go.Proofs.Ytggebkcmokpcmaa.Pl
open Go.RowKit
set_option linter.unusedVariables false
set_option maxRecDepth 100000

theorem addR_empty (own : List (List Int)) : addR [] own = [] := by
  unfold addR
  rw [if_neg (by simp)]
theorem remR_empty : ∀ R : List (List (List Int)), remR R [] = []
  | [] => rfl
  | r :: R => by
    show remR R (addR [] r) = []
    rw [addR_empty]
    exact remR_empty R
theorem fam_rows {w : World} {B m : Nat} {V : Value} {VS : Nat → Value} {X : Nat → List Int} (h : Fam w B V m VS X) : FamL w 0 V VS (rowsL X m) := by
  have hl : (rowsL X m).length = m := rowsL_len X m
  have e : ∀ i, i < m → rowsOf (rowsL X m) i = X i := fun i hi => by unfold rowsOf rowsL; simp [hi]
  refine ⟨?_, fun i hi => ?_⟩
  · rw [hl]; exact own_base h.out (Nat.zero_le _)
  · rw [hl] at hi
    rw [e i hi]
    exact own_base (h.inn i hi) (Nat.zero_le _)

/-- What the specification's and the program's walk want to know of a polynomial. -/
structure NoC (k0 : Int) (m : Nat) (X : Nat → List Int) (f d : Nat) : Prop where
  ok : okPl k0 X m
  hf : f < 4
  hd : d ≤ 40
  hk : k0 = ((f + 1 : Nat) : Int)
  dg : dgP X m = (d : Int)
  tm : OkT (TmP f d) (rowsL X m)
theorem noC {k0 : Int} {m : Nat} {X : Nat → List Int} (h : okPl k0 X m) : ∃ f d, NoC k0 m X f d := by
  have hk := h.1
  have hx := dgP_bnd h
  refine ⟨k0.toNat - 1, (dgP X m).toNat, h, by omega, by omega, by omega, by omega, h.asc, fun t ht => ⟨?_, ?_⟩⟩
  · rw [h.len t ht]; omega
  · exact h.mono _ (List.mem_map.2 ⟨t, ht, rfl⟩)
theorem NoC.code {k0 : Int} {m f d : Nat} {X : Nat → List Int} (h : NoC k0 m X f d) : hcOf k0 (d : Int) = if cn f d ≤ 100 then 0 else 3 := by
  have h1 := h.hf; have h2 := h.hd; have h3 := h.hk
  have hm : moIn k0 (d : Int) := ⟨⟨by omega, by omega⟩, by omega, by omega⟩
  unfold hcOf
  rw [if_pos hm, show k0.toNat - 1 = f by omega, Int.toNat_natCast]
theorem NoC.zero {k0 : Int} {m f d : Nat} {X : Nat → List Int} (h : NoC k0 m X f d) (hm : m = 0) : cn f d ≤ 100 := by
  have : d = 0 := by
    have h1 := h.dg
    rw [show dgP X m = 0 from if_pos hm] at h1
    omega
  rw [this, cn_zero]
  decide
/-- The terms of the normal form. -/
def nfT (f d : Nat) (L : List (List Int)) : List (List Int) := remR (hitR f d) L
theorem NoC.nf {k0 : Int} {m f d : Nat} {X : Nat → List Int} (h : NoC k0 m X f d) (hc : cn f d ≤ 100) : OkT (TmP f d) (nfT f d (rowsL X m)) ∧ (nfT f d (rowsL X m)).length ≤ 100 ∧ RowsOk (TmP f d) (hitR f d) ∧ (hitR f d).length ≤ 600 := by
  obtain ⟨a, b⟩ := hitTo_ok h.hf h.hd hc 6
  have c : OkT (TmP f d) (nfT f d (rowsL X m)) := h.tm.remAll a
  exact ⟨c, Nat.le_trans (tms_len h.hf c.asc c.all) hc, a, b⟩

theorem specPC {k0 : Int} {m f d : Nat} {X : Nat → List Int} (h : NoC k0 m X f d) (a0 : Option Addr) (q0 : Nat) (w : World) (ha : RdSS w (.slice a0 m q0) m X) :
    Hid (∀ wx, Below w.heap.size w wx → Calls Try.prog 48 #[.agg #[.int .i64 k0, .slice a0 m q0]] wx (SaysV (.int .i64 (if cn f d ≤ 100 then 0 else 3)) wx)) := Lib.hid fun wx hb => by
  have hax := ha.below hb
  have IS : Hid (∀ wy, Below wx.heap.size wx wy → Calls Try.prog 67 #[.agg #[.int .i64 k0, .slice a0 m q0]] wy (SaysB true wy)) := Lib.hid fun wy hy => (isP_yes k0 X m h.ok).1 _ wy (hax.below hy)
  by_cases hm : m = 0
  · rw [if_pos (h.zero hm)]
    subst hm
    exact l09Poly_zero k0 a0 q0 wx IS
  · obtain ⟨b0, o0, v0, q1, e0, c0, d0⟩ := headP h.ok (by omega) hax
    cases e0
    refine l09Poly_some f d k0 b0 o0 v0 m q0 wx (by omega) h.hf h.hd h.hk c0 ?_ IS
    rw [← h.dg, show dgP X m = sumL (X 0) from if_neg hm]
    exact d0
theorem specNM {k0 : Int} {m f d : Nat} {X : Nat → List Int} (h : NoC k0 m X f d) (hc : cn f d ≤ 100) (a0 : Option Addr) (q0 : Nat) (VA : Nat → Value) (Ba : Nat) (w : World) (ha : Fam w Ba (.slice a0 m q0) m VA X) :
    Hid (∀ wx, Below w.heap.size w wx → Calls Try.prog 49 #[.agg #[.int .i64 k0, .slice a0 m q0]] wx fun e w' => ∃ V VS, e = .returned V ∧ FamL w' 0 V VS (nfT f d (rowsL X m)) ∧ Below wx.heap.size wx w') := Lib.hid fun wx hb => by
  have hax := ha.rdss.below hb
  by_cases hm : m = 0
  · subst hm
    have e : nfT f d (rowsL X 0) = [] := remR_empty _
    rw [e]
    exact l09Normal_zero k0 a0 q0 wx
  · obtain ⟨b0, o0, v0, q1, e0, c0, d0⟩ := headP h.ok (by omega) hax
    cases e0
    refine l09Normal_some f d k0 b0 o0 v0 m q0 VA (rowsL X m) wx (by omega) (Lib.hid (rowsL_len X m).symm) h.hf h.hd hc h.hk c0 ?_ ((fam_rows ha).below hb) h.tm
    rw [← h.dg, show dgP X m = sumL (X 0) from if_neg hm]
    exact d0

theorem implNF {k0 : Int} {m f d : Nat} {X : Nat → List Int} (h : NoC k0 m X f d) (hc : cn f d ≤ 100) (a0 : Option Addr) (q0 : Nat) (w : World) (ha : RdSS w (.slice a0 m q0) m X) :
    Calls Try.prog 27 #[.agg #[.int .i64 k0, .slice a0 m q0]] w (ResY k0 (nfT f d (rowsL X m)) 0 w) := by
  obtain ⟨n1, n2, n3, n4⟩ := h.nf hc
  have hcode := h.code
  rw [if_pos hc] at hcode
  have hf := h.hf
  have et : ((nfT f d (rowsL X m)).map padY).map (List.take (f + 1)) = nfT f d (rowsL X m) := by
    rw [List.map_map]
    refine (List.map_congr_left fun t ht => ?_).trans (List.map_id _)
    exact padY_take (n1.all t ht).1
  have eR : remR (padR (hitR f d)) ((rowsL X m).map padY) = (nfT f d (rowsL X m)).map padY := remR_pad (k := f + 1) _ _ (fun t ht => (h.tm.all t ht).1) n3.wide
  have := implNo_ok (d : Int) (f + 1) k0 (hmOf k0 (d : Int)) ((rowsL X m).map padY) ((nfT f d (rowsL X m)).map padY) (hitR f d) a0 m q0 w h.hk (by omega)
    (Lib.hid fun wx hb => (isP_yes k0 X m h.ok).2 _ wx (ha.below hb)) (Lib.hid (by rw [← h.dg]; exact degP_any h.ok a0 q0 w ha))
    (Lib.hid fun wx => by have := hitMonomials_any k0 (d : Int) wx; unfold HmPost at this; rw [hcode] at this; exact this)
    (Lib.hid fun wx => hitSpaceOf_any f d k0 hf (by have := h.hk; omega) h.hd hc wx)
    (Lib.hid fun wx hb => by
      refine (packed_any k0 _ m X wx (ha.below hb) h.ok.few fun i hi => (h.ok.small i hi).1).mono ?_
      rintro e w' ⟨u, h1, h2, h3⟩
      have e2 : (rowsL X m).map keyY = ((rowsL X m).map padY).map pwK := by rw [List.map_map]; rfl
      rw [e2] at h2
      exact ⟨u, h1, own_base h2 (Nat.zero_le _), h3⟩)
    (Lib.hid fun wx S v zs B h1 h2 h3 => by
      have := remainder_any (PdP f d) S v zs ((rowsL X m).map padY) B wx (SmY_pd hf hc) h1 h3 (by rw [h2]; exact pd_rows n3) (pd_ok h.tm) (by
        have h4 : zs.length = (hitR f d).length := by rw [← rzR_len, h2]; unfold padR; rw [List.length_map]
        omega)
      rw [h2, eR] at this
      exact this)
    (Lib.hid fun z hz => by
      obtain ⟨t, ht, rfl⟩ := List.mem_map.1 hz
      exact padY_len (by rw [(n1.all t ht).1]; omega))
  rw [et, show fitC k0 (nfT f d (rowsL X m)) = k0 from if_pos (by omega), show fitL (nfT f d (rowsL X m)) = nfT f d (rowsL X m) from if_pos (by omega), show fitD (nfT f d (rowsL X m)) = 0 from if_pos (by omega)] at this
  exact this
theorem implNFo {k0 : Int} {m f d : Nat} {X : Nat → List Int} (h : NoC k0 m X f d) (hc : ¬ cn f d ≤ 100) (a0 : Option Addr) (q0 : Nat) (w : World) (ha : RdSS w (.slice a0 m q0) m X) :
    Calls Try.prog 27 #[.agg #[.int .i64 k0, .slice a0 m q0]] w (ResY 0 [] 3 w) := by
  have hcode := h.code
  rw [if_neg hc] at hcode
  exact implNo_over (d : Int) k0 3 (hmOf k0 (d : Int)) a0 m q0 w (by decide) (Lib.hid fun wx hb => (isP_yes k0 X m h.ok).2 _ wx (ha.below hb)) (Lib.hid (by rw [← h.dg]; exact degP_any h.ok a0 q0 w ha))
    (Lib.hid fun wx => by have := hitMonomials_any k0 (d : Int) wx; unfold HmPost at this; rw [hcode] at this; exact this)

theorem NormalForm_both (c0 : Int) (m : Nat) (X : Nat → List Int) :
    ∃ (C : Int) (L : List (List Int)) (cd : Int), L.length ≤ 4000 ∧ (∀ i, (rowsOf L i).length ≤ 20) ∧
      (∀ va VA Ba w, Fam w Ba va m VA X → Calls Try.prog 26 #[.agg #[.int .i64 c0, va]] w (ResY C L cd w)) ∧
      (∀ va w, RdSS w va m X → Calls Try.prog 27 #[.agg #[.int .i64 c0, va]] w (ResY C L cd w)) := by
  by_cases h0 : okPl c0 X m
  · obtain ⟨f, d, h⟩ := noC h0
    by_cases hc : cn f d ≤ 100
    · obtain ⟨n1, n2, _, _⟩ := h.nf hc
      have hf := h.hf
      refine ⟨c0, nfT f d (rowsL X m), 0, by omega, rows4 (fun t ht => (n1.all t ht).1) (by omega), ?_, ?_⟩
      · intro va VA Ba w ha
        obtain ⟨a0, q0, rfl⟩ := ha.rdss.head
        have PC := specPC h a0 q0 w ha.rdss
        rw [if_pos hc] at PC
        exact specNo_ok c0 _ a0 m q0 w ⟨by omega, fun t ht => by have := (n1.all t ht).1; omega⟩ PC (specNM h hc a0 q0 VA Ba w ha)
      · intro va w ha
        obtain ⟨a0, q0, rfl⟩ := ha.head
        exact implNF h hc a0 q0 w ha
    · refine ⟨0, [], 3, Nat.zero_le _, rows0, ?_, ?_⟩
      · intro va VA Ba w ha
        obtain ⟨a0, q0, rfl⟩ := ha.rdss.head
        have PC := specPC h a0 q0 w ha.rdss
        rw [if_neg hc] at PC
        exact specNo_bad c0 3 a0 m q0 w (by decide) PC
      · intro va w ha
        obtain ⟨a0, q0, rfl⟩ := ha.head
        exact implNFo h hc a0 q0 w ha
  · obtain ⟨s0, i0⟩ := isP_no c0 X m h0
    refine ⟨0, [], 1, Nat.zero_le _, rows0, ?_, ?_⟩
    · intro va VA Ba w ha
      obtain ⟨a0, q0, rfl⟩ := ha.rdss.head
      exact specNo_bad c0 1 a0 m q0 w (by decide) (Lib.hid fun wx hb => l09Poly_bad c0 a0 m q0 wx (Lib.hid fun wy hy => s0 _ wy ((ha.rdss.below hb).below hy)))
    · intro va w ha
      obtain ⟨a0, q0, rfl⟩ := ha.head
      exact implNo_bad c0 a0 m q0 w (Lib.hid fun wx hb => i0 _ wx (ha.below hb))

theorem IsHit_both (c0 : Int) (X : Nat → List Int) (m : Nat) : ∃ (x : Bool) (c : Int),
    (∀ V VA Ba w, Fam w Ba V m VA X → Calls Try.prog 17 #[.agg #[.int .i64 c0, V]] w (SaysV (.tuple #[.bool x, .int .i64 c]) w)) ∧
    (∀ V w, RdSS w V m X → Calls Try.prog 19 #[.agg #[.int .i64 c0, V]] w (SaysV (.tuple #[.bool x, .int .i64 c]) w)) := by
  by_cases h0 : okPl c0 X m
  · obtain ⟨f, d, h⟩ := noC h0
    by_cases hc : cn f d ≤ 100
    · refine ⟨(((nfT f d (rowsL X m)).length : Int) == 0), 0, ?_, ?_⟩
      · intro va VA Ba w ha
        obtain ⟨a0, q0, rfl⟩ := ha.rdss.head
        have PC := specPC h a0 q0 w ha.rdss
        rw [if_pos hc] at PC
        exact specHit_ok c0 _ a0 m q0 w PC (specNM h hc a0 q0 VA Ba w ha)
      · intro va w ha
        obtain ⟨a0, q0, rfl⟩ := ha.head
        have := implHit_any c0 c0 0 (nfT f d (rowsL X m)) a0 m q0 w (Lib.hid fun wx hb => implNF h hc a0 q0 wx (ha.below hb))
        simpa using this
    · refine ⟨false, 3, ?_, ?_⟩
      · intro va VA Ba w ha
        obtain ⟨a0, q0, rfl⟩ := ha.rdss.head
        have PC := specPC h a0 q0 w ha.rdss
        rw [if_neg hc] at PC
        exact specHit_bad c0 3 a0 m q0 w (by decide) PC
      · intro va w ha
        obtain ⟨a0, q0, rfl⟩ := ha.head
        exact implHit_any c0 0 3 [] a0 m q0 w (Lib.hid fun wx hb => implNFo h hc a0 q0 wx (ha.below hb))
  · obtain ⟨s0, i0⟩ := isP_no c0 X m h0
    refine ⟨false, 1, ?_, ?_⟩
    · intro va VA Ba w ha
      obtain ⟨a0, q0, rfl⟩ := ha.rdss.head
      exact specHit_bad c0 1 a0 m q0 w (by decide) (Lib.hid fun wx hb => l09Poly_bad c0 a0 m q0 wx (Lib.hid fun wy hy => s0 _ wy ((ha.rdss.below hb).below hy)))
    · intro va w ha
      obtain ⟨a0, q0, rfl⟩ := ha.head
      exact implHit_any c0 0 1 [] a0 m q0 w (Lib.hid fun wx hb => implNo_bad c0 a0 m q0 wx (Lib.hid fun wy hy => i0 _ wy ((ha.below hb).below hy)))
end Go.Proofs.Ytggebkcmokpcmaa.Pl
end
