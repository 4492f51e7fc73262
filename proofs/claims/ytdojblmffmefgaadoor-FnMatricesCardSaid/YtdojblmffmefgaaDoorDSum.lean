/-
  Contracts: l02Both and checkSameColumns; SumOfSpaces, both sides.
-/
import Derived.Test.YtdojblmffmefgaaDoorDRank
namespace Go.Proofs.YtdojblmffmefgaaDoor
open Go.RowKit
set_option linter.unusedVariables false
set_option maxRecDepth 100000

/-- The code of two matrices that ought to have equally many columns. -/
noncomputable def smCode (ca : Int) (na : Nat) (Ga : Nat → Int) (cb : Int) (nb : Nat) (Gb : Nat → Int) : Int :=
  if isMat ca na Ga = true ∧ isMat cb nb Gb = true then (if ca = cb then 0 else 2) else 1

theorem two_boxes {w : World} {ca cb : Int} {sa sb : Value} {na nb : Nat} {Ga Gb : Nat → Int} (ha : RdI w sa na Ga) (hb : RdI w sb nb Gb) :
    ∃ w3, w3 = ((w.alloc (.cells #[.int .i64 ca, sa] 26)).alloc (.cells #[.int .i64 cb, sb] 26)) ∧
      Below w.heap.size w w3 ∧ Box w3 w.heap.size 26 (.int .i64 ca) sa ∧ Box w3 (w.heap.size + 1) 26 (.int .i64 cb) sb ∧ RdI w3 sa na Ga ∧ RdI w3 sb nb Gb := by
  refine ⟨_, rfl, ?_⟩
  have B : Below w.heap.size w ((w.alloc (.cells #[.int .i64 ca, sa] 26)).alloc (.cells #[.int .i64 cb, sb] 26)) := ((Below.refl w.heap.size w).alloc (Nat.le_refl _) _).alloc (by simp) _
  refine ⟨B, (Box.new w _ _ _).alloc _, ?_, ha.below B, hb.below B⟩
  have := Box.new (w.alloc (.cells #[.int .i64 ca, sa] 26)) 26 (.int .i64 cb) sb
  simpa using this
theorem three_boxes {w : World} {ca cb : Int} {sa sb : Value} {na nb : Nat} {Ga Gb : Nat → Int} (ha : RdI w sa na Ga) (hb : RdI w sb nb Gb) :
    ∃ w3, w3 = (((w.alloc (.cells #[.int .i64 ca, sa] 26)).alloc (.cells #[.int .i64 cb, sb] 26)).alloc (.cells #[.int .i64 0, .slice none 0 0] 26)) ∧
      Below w.heap.size w w3 ∧ Box w3 w.heap.size 26 (.int .i64 ca) sa ∧ Box w3 (w.heap.size + 1) 26 (.int .i64 cb) sb ∧ Box w3 (w.heap.size + 1 + 1) 26 (.int .i64 0) (.slice none 0 0) ∧
      RdI w3 sa na Ga ∧ RdI w3 sb nb Gb := by
  refine ⟨_, rfl, ?_⟩
  have B : Below w.heap.size w (((w.alloc (.cells #[.int .i64 ca, sa] 26)).alloc (.cells #[.int .i64 cb, sb] 26)).alloc (.cells #[.int .i64 0, .slice none 0 0] 26)) :=
    (((Below.refl w.heap.size w).alloc (Nat.le_refl _) _).alloc (by simp) _).alloc (by simp; omega) _
  refine ⟨B, ((Box.new w _ _ _).alloc _).alloc _, ?_, ?_, ha.below B, hb.below B⟩
  · have := (Box.new (w.alloc (.cells #[.int .i64 ca, sa] 26)) 26 (.int .i64 cb) sb).alloc (.cells #[.int .i64 0, .slice none 0 0] 26)
    simpa using this
  · have := Box.new ((w.alloc (.cells #[.int .i64 ca, sa] 26)).alloc (.cells #[.int .i64 cb, sb] 26)) 26 (.int .i64 0) (.slice none 0 0)
    simpa using this

set_option maxHeartbeats 1000000 in
theorem specBoth_any (ca cb : Int) (sa sb : Value) (na nb : Nat) (Ga Gb : Nat → Int) (w : World) (ha : RdI w sa na Ga) (hb : RdI w sb nb Gb) :
    Calls Tryd.prog 105 #[.agg #[.int .i64 ca, sa], .agg #[.int .i64 cb, sb]] w fun e w' => e = .returned (.int .i64 (smCode ca na Ga cb nb Gb)) ∧ Below w.heap.size w w' := by
  have HA := Lib.hid ha
  have HB := Lib.hid hb
  obtain ⟨w3, hw3, B3, XA, XB, RA, RB⟩ := two_boxes (ca := ca) (cb := cb) ha hb
  have B3 := Lib.hid B3
  have XA := Lib.hid XA
  have XB := Lib.hid XB
  have RA := Lib.hid RA
  have RB := Lib.hid RB
  obtain ⟨aa, qa, rfl, hma, hc⟩ := ha
  obtain ⟨ab, qb, rfl, hmb, hc2⟩ := hb
  clear hc hc2
  have t2 := Tryd.underlying26
  go_enter Tryd.func105, Tryd.ntmps105
  go_wp2_with fail
  rw [← hw3]
  clear hw3
  refine (specIs_any ca _ na Ga w3 RA.out).mono ?_
  rintro e w4 ⟨rfl, b4⟩
  have B4 := Lib.hid (B3.out.trans (b4.mono B3.out.size))
  have XA4 := Lib.hid (XA.out.up b4)
  have XB4 := Lib.hid (XB.out.up b4)
  have RB4 := Lib.hid (RB.out.below b4)
  clear b4 B3 XA XB RA RB
  have a0 := XA4.out.c0
  have a1 := XA4.out.c1
  have b0 := XB4.out.c0
  have b1 := XB4.out.c1
  cases hia : isMat ca na Ga with
  | false =>
    have E3 : Hid (smCode ca na Ga cb nb Gb = 1) := Lib.hid (by unfold smCode; rw [if_neg]; rw [hia]; simp)
    clear hia
    go_wp2_with fail
    go_ret
    exact ⟨by rw [E3.out]; rfl, B4.out⟩
  | true =>
    go_wp2_with fail
    refine (specIs_any cb _ nb Gb w4 RB4.out).mono ?_
    rintro e w5 ⟨rfl, b5⟩
    have B5 := Lib.hid (B4.out.trans (b5.mono B4.out.size))
    have XA5 := Lib.hid (XA4.out.up b5)
    have XB5 := Lib.hid (XB4.out.up b5)
    clear b5 B4 XA4 XB4 RB4 a0 a1 b0 b1
    have a0 := XA5.out.c0
    have b0 := XB5.out.c0
    cases hib : isMat cb nb Gb with
    | false =>
      have E3 : Hid (smCode ca na Ga cb nb Gb = 1) := Lib.hid (by unfold smCode; rw [if_neg]; rw [hib]; simp)
      clear hia hib
      go_wp2_with fail
      go_ret
      exact ⟨by rw [E3.out]; rfl, B5.out⟩
    | true =>
      by_cases he : ca = cb
      · have E3 : Hid (smCode ca na Ga cb nb Gb = 0) := Lib.hid (by unfold smCode; rw [if_pos ⟨hia, hib⟩, if_pos he])
        have hne : (ca != cb) = false := by simp [he]
        clear hia hib he
        go_wp2_with fail
        go_ret
        exact ⟨by rw [E3.out]; rfl, B5.out⟩
      · have E3 : Hid (smCode ca na Ga cb nb Gb = 2) := Lib.hid (by unfold smCode; rw [if_pos ⟨hia, hib⟩, if_neg he])
        have hne : (ca != cb) = true := by rw [bne_iff_ne]; exact he
        clear hia hib he
        go_wp2_with fail
        go_ret
        exact ⟨by rw [E3.out]; rfl, B5.out⟩
set_option maxHeartbeats 1000000 in
theorem implSame_any (ca cb : Int) (sa sb : Value) (na nb : Nat) (Ga Gb : Nat → Int) (w : World) (ha : RdI w sa na Ga) (hb : RdI w sb nb Gb) :
    Calls Tryd.prog 103 #[.agg #[.int .i64 ca, sa], .agg #[.int .i64 cb, sb]] w fun e w' => e = .returned (.int .i64 (smCode ca na Ga cb nb Gb)) ∧ Below w.heap.size w w' := by
  have HA := Lib.hid ha
  have HB := Lib.hid hb
  obtain ⟨w3, hw3, B3, XA, XB, RA, RB⟩ := two_boxes (ca := ca) (cb := cb) ha hb
  have B3 := Lib.hid B3
  have XA := Lib.hid XA
  have XB := Lib.hid XB
  have RA := Lib.hid RA
  have RB := Lib.hid RB
  obtain ⟨aa, qa, rfl, hma, hc⟩ := ha
  obtain ⟨ab, qb, rfl, hmb, hc2⟩ := hb
  clear hc hc2
  have t2 := Tryd.underlying26
  go_enter Tryd.func103, Tryd.ntmps103
  go_wp2_with fail
  rw [← hw3]
  clear hw3
  refine (implIs_any ca _ na Ga w3 RA.out).mono ?_
  rintro e w4 ⟨rfl, b4⟩
  have B4 := Lib.hid (B3.out.trans (b4.mono B3.out.size))
  have XA4 := Lib.hid (XA.out.up b4)
  have XB4 := Lib.hid (XB.out.up b4)
  have RB4 := Lib.hid (RB.out.below b4)
  clear b4 B3 XA XB RA RB
  have a0 := XA4.out.c0
  have a1 := XA4.out.c1
  have b0 := XB4.out.c0
  have b1 := XB4.out.c1
  cases hia : isMat ca na Ga with
  | false =>
    have E3 : Hid (smCode ca na Ga cb nb Gb = 1) := Lib.hid (by unfold smCode; rw [if_neg]; rw [hia]; simp)
    clear hia
    go_wp2_with fail
    go_ret
    exact ⟨by rw [E3.out]; rfl, B4.out⟩
  | true =>
    go_wp2_with fail
    refine (implIs_any cb _ nb Gb w4 RB4.out).mono ?_
    rintro e w5 ⟨rfl, b5⟩
    have B5 := Lib.hid (B4.out.trans (b5.mono B4.out.size))
    have XA5 := Lib.hid (XA4.out.up b5)
    have XB5 := Lib.hid (XB4.out.up b5)
    clear b5 B4 XA4 XB4 RB4 a0 a1 b0 b1
    have a0 := XA5.out.c0
    have b0 := XB5.out.c0
    cases hib : isMat cb nb Gb with
    | false =>
      have E3 : Hid (smCode ca na Ga cb nb Gb = 1) := Lib.hid (by unfold smCode; rw [if_neg]; rw [hib]; simp)
      clear hia hib
      go_wp2_with fail
      go_ret
      exact ⟨by rw [E3.out]; rfl, B5.out⟩
    | true =>
      by_cases he : ca = cb
      · have E3 : Hid (smCode ca na Ga cb nb Gb = 0) := Lib.hid (by unfold smCode; rw [if_pos ⟨hia, hib⟩, if_pos he])
        have hne : (ca != cb) = false := by simp [he]
        clear hia hib he
        go_wp2_with fail
        go_ret
        exact ⟨by rw [E3.out]; rfl, B5.out⟩
      · have E3 : Hid (smCode ca na Ga cb nb Gb = 2) := Lib.hid (by unfold smCode; rw [if_pos ⟨hia, hib⟩, if_neg he])
        have hne : (ca != cb) = true := by rw [bne_iff_ne]; exact he
        clear hia hib he
        go_wp2_with fail
        go_ret
        exact ⟨by rw [E3.out]; rfl, B5.out⟩

theorem putAll_takeL (L R : List Nat) (j : Nat) (hj : j < R.length) : putAll L (R.take (j + 1)) = put (putAll L (R.take j)) (R.getD j 0) := by
  have e : R.take (j + 1) = R.take j ++ [R.getD j 0] := by
    rw [List.take_add_one, List.getD_eq_getElem?_getD, List.getElem?_eq_getElem hj]; rfl
  rw [e, putAll, putAll, List.foldl_append]
  rfl
theorem putAll_ok2 {A B : List Nat} (hA : ∀ x ∈ A, x < 2 ^ 60) (hB : ∀ x ∈ B, x < 2 ^ 60) : okRows (putAll (putAll [] A) B) ∧ (putAll (putAll [] A) B).length ≤ 60 := by
  have e : putAll (putAll [] A) B = putAll [] (A ++ B) := by simp [putAll, List.foldl_append]
  rw [e]
  exact putAll_ok fun x hx => by
    rcases List.mem_append.1 hx with h | h
    · exact hA x h
    · exact hB x h
theorem mem_takeL {R : List Nat} (h : ∀ x ∈ R, x < 2 ^ 60) (j : Nat) : ∀ x ∈ R.take j, x < 2 ^ 60 := fun x hx => h x (List.mem_of_mem_take hx)
theorem getD_lt {R : List Nat} (h : ∀ x ∈ R, x < 2 ^ 60) (j : Nat) (hj : j < R.length) : R.getD j 0 < 2 ^ 60 :=
  h _ (by rw [List.getD_eq_getElem?_getD, List.getElem?_eq_getElem hj]; exact List.getElem_mem hj)

/-- The two spaces joined by the program. -/
theorem rowsK_two {A B : List Nat} (hA : ∀ x ∈ A, x < 2 ^ 60) (hB : ∀ x ∈ B, x < 2 ^ 60) : rowsK (addN (spaceL A) (fun i => (B.getD i 0, 0)) B.length) 60 = putAll (putAll [] A) B := by
  rw [addN_all, plain_range, addAll_sim (spaceL_piv hA) (plain B) (plain_ok hB), spaceL_rows hA]
  congr 1
  simp [plain, List.map_map, Function.comp_def]

set_option maxHeartbeats 1000000 in
theorem specSum_no (ca cb : Int) (sa sb : Value) (na nb : Nat) (Ga Gb : Nat → Int) (w : World) (ha : RdI w sa na Ga) (hb : RdI w sb nb Gb) (hc : smCode ca na Ga cb nb Gb ≠ 0) :
    Calls Tryd.prog 53 #[.agg #[.int .i64 ca, sa], .agg #[.int .i64 cb, sb]] w (MRes 0 [] (smCode ca na Ga cb nb Gb) w) := by
  obtain ⟨w3, hw3, B3, XA, XB, XR, RA, RB⟩ := three_boxes (ca := ca) (cb := cb) ha hb
  have BO := Lib.hid (specBoth_any ca cb sa sb na nb Ga Gb w3 RA RB)
  have B3 := Lib.hid B3
  have XR := Lib.hid XR
  clear XA XB RA RB
  obtain ⟨aa, qa, rfl, hma, hc1⟩ := ha
  obtain ⟨ab, qb, rfl, hmb, hc2⟩ := hb
  clear hc1 hc2
  have hcd : (smCode ca na Ga cb nb Gb != 0) = true := by rw [bne_iff_ne]; exact hc
  clear hc
  generalize smCode ca na Ga cb nb Gb = cd at *
  have t2 := Tryd.underlying26
  go_enter Tryd.func53, Tryd.ntmps53
  go_wp2_with fail
  rw [← hw3]
  clear hw3
  refine BO.out.mono ?_
  rintro e w4 ⟨rfl, b4⟩
  have B4 := Lib.hid (B3.out.trans (b4.mono B3.out.size))
  have XR4 := Lib.hid (XR.out.up b4)
  clear b4 B3 XR
  have cR0 := XR4.out.c0
  have cR1 := XR4.out.c1
  have fR0 := XR4.out.fr 0
  have fR1 := XR4.out.fr 1
  have X5 := Lib.hid ((XR4.out.set0 (.int .i64 0)).set1 (.slice none 0 0))
  have B5 := Lib.hid ((B4.out.setCell (p := ⟨w.heap.size + 1 + 1, 0, none⟩) (by simp; omega) (.int .i64 0)).setCell (p := ⟨w.heap.size + 1 + 1, 1, none⟩) (by simp; omega) (.slice none 0 0))
  go_wp2_with fail
  refine bodyPost_ret (results_box_tmp rfl _ _ (w.heap.size + 1 + 1) _ _ _ rfl X5.out t2 (by kernel_rfl)) rfl ?_
  exact ⟨_, rfl, World.ownsRow_nil _ _ _ _, B5.out⟩

set_option maxHeartbeats 1000000 in
theorem implSum_no (ca cb : Int) (sa sb : Value) (na nb : Nat) (Ga Gb : Nat → Int) (w : World) (ha : RdI w sa na Ga) (hb : RdI w sb nb Gb) (hc : smCode ca na Ga cb nb Gb ≠ 0) :
    Calls Tryd.prog 52 #[.agg #[.int .i64 ca, sa], .agg #[.int .i64 cb, sb]] w (MRes 0 [] (smCode ca na Ga cb nb Gb) w) := by
  obtain ⟨w3, hw3, B3, XA, XB, XR, RA, RB⟩ := three_boxes (ca := ca) (cb := cb) ha hb
  have BO := Lib.hid (implSame_any ca cb sa sb na nb Ga Gb w3 RA RB)
  have B3 := Lib.hid B3
  have XR := Lib.hid XR
  clear XA XB RA RB
  obtain ⟨aa, qa, rfl, hma, hc1⟩ := ha
  obtain ⟨ab, qb, rfl, hmb, hc2⟩ := hb
  clear hc1 hc2
  have hcd : (smCode ca na Ga cb nb Gb != 0) = true := by rw [bne_iff_ne]; exact hc
  clear hc
  generalize smCode ca na Ga cb nb Gb = cd at *
  have t2 := Tryd.underlying26
  go_enter Tryd.func52, Tryd.ntmps52
  go_wp2_with fail
  rw [← hw3]
  clear hw3
  refine BO.out.mono ?_
  rintro e w4 ⟨rfl, b4⟩
  have B4 := Lib.hid (B3.out.trans (b4.mono B3.out.size))
  have XR4 := Lib.hid (XR.out.up b4)
  clear b4 B3 XR
  have cR0 := XR4.out.c0
  have cR1 := XR4.out.c1
  have fR0 := XR4.out.fr 0
  have fR1 := XR4.out.fr 1
  have X5 := Lib.hid ((XR4.out.set0 (.int .i64 0)).set1 (.slice none 0 0))
  have B5 := Lib.hid ((B4.out.setCell (p := ⟨w.heap.size + 1 + 1, 0, none⟩) (by simp; omega) (.int .i64 0)).setCell (p := ⟨w.heap.size + 1 + 1, 1, none⟩) (by simp; omega) (.slice none 0 0))
  go_wp2_with fail
  refine bodyPost_ret (results_box_tmp rfl _ _ (w.heap.size + 1 + 1) _ _ _ rfl X5.out t2 (by kernel_rfl)) rfl ?_
  exact ⟨_, rfl, World.ownsRow_nil _ _ _ _, B5.out⟩

set_option maxHeartbeats 2000000 in
theorem specSum_yes (k : Nat) (sa sb : Value) (na nb : Nat) (Ga Gb : Nat → Int) (A B : List Nat) (w : World) (ha : RdI w sa na Ga) (hb : RdI w sb nb Gb) (hc : smCode k na Ga k nb Gb = 0)
    (hla : A.length = na) (hna : na ≤ 200) (hA : ∀ x ∈ A, x < 2 ^ 60) (hNA : ∀ (w : World) (s : Value), RdI w s na Ga → RdN w s A) (hlb : B.length = nb) (hnb : nb ≤ 200) (hB : ∀ x ∈ B, x < 2 ^ 60) (hNB : ∀ (w : World) (s : Value), RdI w s nb Gb → RdN w s B) :
    Calls Tryd.prog 53 #[.agg #[.int .i64 k, sa], .agg #[.int .i64 k, sb]] w (MRes k (nI (putAll (putAll [] A) B)) 0 w) := by
  obtain ⟨w3, hw3, B3, XA, XB, XR, RA, RB⟩ := three_boxes (ca := k) (cb := k) ha hb
  have BO := Lib.hid (specBoth_any k k sa sb na nb Ga Gb w3 RA RB)
  have B3 := Lib.hid B3
  have XA := Lib.hid XA
  have XB := Lib.hid XB
  have XR := Lib.hid XR
  have RA := Lib.hid (hNA _ _ RA)
  have RB := Lib.hid (hNB _ _ RB)
  have HB := Lib.hid hB
  have HA := Lib.hid hA
  obtain ⟨aa, qa, rfl, hma, hc1⟩ := ha
  obtain ⟨ab, qb, rfl, hmb, hc2⟩ := hb
  have LN := Lib.hid (nI_length (putAll (putAll [] A) B))
  have HL := Lib.hid hlb
  rw [hc] at BO
  clear hc1 hc2 hc hNA hNB hA hB hlb
  have t2 := Tryd.underlying26
  go_enter Tryd.func53, Tryd.ntmps53
  go_wp2_with fail
  rw [← hw3]
  clear hw3
  refine BO.out.mono ?_
  rintro e w4 ⟨rfl, b4⟩
  have B4 := Lib.hid (B3.out.trans (b4.mono B3.out.size))
  have XA4 := Lib.hid (XA.out.up b4)
  have XB4 := Lib.hid (XB.out.up b4)
  have XR4 := Lib.hid (XR.out.up b4)
  have RA4 := Lib.hid (RA.out.below b4)
  have RB4 := Lib.hid (RB.out.below b4)
  clear b4 B3 XA XB XR RA RB BO
  have a0 := XA4.out.c0
  have a1 := XA4.out.c1
  go_wp2_with fail
  refine (l02Reduce_any _ A w4 RA4.out HA.out (by omega)).mono ?_
  rintro e w5 ⟨u, rfl, o5, b5⟩
  obtain ⟨ua, uc, rfl⟩ := o5.shape
  have B5 := Lib.hid (B4.out.trans (b5.mono B4.out.size))
  have XA5 := Lib.hid (XA4.out.up b5)
  have XB5 := Lib.hid (XB4.out.up b5)
  have XR5 := Lib.hid (XR4.out.up b5)
  have RB5 := Lib.hid (RB4.out.below b5)
  have O5 : Hid (w5.ownsRow w.heap.size 2 1 (.slice ua (putAll [] A).length uc) (putAll (putAll [] A) (B.take 0)).length ((nI (putAll (putAll [] A) (B.take 0))).map (Value.int .i64))) := Lib.hid (own_base o5 B4.out.size)
  clear b5 o5 B4 XA4 XB4 XR4 RA4 RB4 a0 a1
  go_wp2_with fail
  go_loopw [7, 8] (fun o i wr => ∃ (j : Nat) (va : Option Addr) (vc : Nat), j ≤ nb ∧ i = .int .i64 j ∧ o = .slice va (putAll (putAll [] A) (B.take j)).length vc ∧ Hid (wr.ownsRow w.heap.size 2 1 (.slice va (putAll (putAll [] A) (B.take j)).length vc) (putAll (putAll [] A) (B.take j)).length ((nI (putAll (putAll [] A) (B.take j))).map (Value.int .i64))) ∧ Hid (Below w5.heap.size w5 wr)) (fun _ i _ => nb - (intOf i).toNat)
  case atStart => exact ⟨0, _, _, by omega, rfl, rfl, O5, Lib.hid (Below.refl _ _)⟩
  case round =>
    clear O5
    obtain ⟨j, va, vc, hj, rfl, rfl, OW, BL⟩ := hrel
    have XBj := XB5.out.up BL.out
    have b0 := XBj.c0
    have b1 := XBj.c1
    clear XBj
    by_cases hlt : j < nb
    · have hlt' : (j : Int) < (nb : Int) := by omega
      obtain ⟨_, _, e, _, hc⟩ := (RB5.out.below BL.out)
      cases e
      rw [HL.out] at hc
      obtain ⟨b, off, rfl, hc2⟩ := hc.resolve_left (by omega)
      have c1 : wr.cell? ⟨b, off + j, none⟩ = some (.int .i64 ((B.getD j 0 : Nat) : Int)) := hc2 j hlt
      clear hc hc2
      have hjl : j < B.length := by rw [HL.out]; exact hlt
      have PT := Lib.hid (putAll_takeL (putAll [] A) B j hjl)
      obtain ⟨ok1, ok2⟩ := putAll_ok2 HA.out (mem_takeL HB.out j)
      have P := Lib.hid (l02Put_any w.heap.size _ (putAll (putAll [] A) (B.take j)) (B.getD j 0) wr OW.out (getD_lt HB.out j hjl) ok1 (by omega) (Nat.le_trans B5.out.size BL.out.size))
      clear ok1 hjl
      generalize B.getD j 0 = r at *
      generalize putAll (putAll [] A) (B.take j) = M at *
      go_wp2_with fail
      refine P.out.mono ?_
      rintro e w6 ⟨u, rfl, o6, b6⟩
      obtain ⟨wa, wc, rfl⟩ := o6.shape
      have O6 := Lib.hid o6
      have B6 := Lib.hid (BL.out.trans (b6.mono BL.out.size))
      clear o6 b6 P
      go_wp2_with fail
      go_roundw
      case rel => exact ⟨j + 1, wa, wc, by omega, by go_num, by rw [PT.out], Lib.hid (by rw [PT.out]; exact O6.out), B6⟩
      case measure => simp [intOf]; omega
    · obtain rfl : j = nb := by omega
      have E : Hid (B.take j = B) := Lib.hid (List.take_of_length_le (by rw [HL.out]; exact Nat.le_refl _))
      rw [E.out] at OW
      rw [E.out]
      generalize putAll (putAll [] A) B = M at *
      have XA6 := XA5.out.up BL.out
      have X4 := Lib.hid (XR5.out.up BL.out)
      have a0 := XA6.c0
      have a1 := XA6.c1
      have cR0 := X4.out.c0
      have cR1 := X4.out.c1
      have fR0 := X4.out.fr 0
      have fR1 := X4.out.fr 1
      have F1 := Lib.hid (own_stored (u1 := .int .i64 k) (u2 := .slice va M.length vc) X4.out OW.out)
      have F2 := Lib.hid ((X4.out.set0 (.int .i64 k)).set1 (.slice va M.length vc))
      have B4 := Lib.hid (B5.out.trans (BL.out.mono B5.out.size))
      have F3 := Lib.hid ((B4.out.setCell (p := ⟨w.heap.size + 1 + 1, 0, none⟩) (by simp; omega) (.int .i64 k)).setCell (p := ⟨w.heap.size + 1 + 1, 1, none⟩) (by simp; omega) (.slice va M.length vc))
      clear XA6
      go_wp2_with fail
      refine bodyPost_ret (results_box_tmp rfl _ _ (w.heap.size + 1 + 1) _ _ _ rfl F2.out t2 (by kernel_rfl)) rfl ?_
      refine ⟨_, rfl, ?_, F3.out⟩
      rw [LN.out]
      exact F1.out

set_option maxHeartbeats 2000000 in
theorem implSum_yes (k : Nat) (sa sb : Value) (na nb : Nat) (Ga Gb : Nat → Int) (A B : List Nat) (w : World) (ha : RdI w sa na Ga) (hb : RdI w sb nb Gb) (hc : smCode k na Ga k nb Gb = 0)
    (hla : A.length = na) (hna : na ≤ 200) (hA : ∀ x ∈ A, x < 2 ^ 60) (hNA : ∀ (w : World) (s : Value), RdI w s na Ga → RdN w s A) (hlb : B.length = nb) (hnb : nb ≤ 200) (hB : ∀ x ∈ B, x < 2 ^ 60) (hNB : ∀ (w : World) (s : Value), RdI w s nb Gb → RdN w s B) (hT : T0 w) :
    Calls Tryd.prog 52 #[.agg #[.int .i64 k, sa], .agg #[.int .i64 k, sb]] w (MRes k (nI (rowsK (addN (spaceL A) (fun i => (B.getD i 0, 0)) B.length) 60)) 0 w) := by
  obtain ⟨w3, hw3, B3, XA, XB, XR, RA, RB⟩ := three_boxes (ca := k) (cb := k) ha hb
  have BO := Lib.hid (implSame_any k k sa sb na nb Ga Gb w3 RA RB)
  have B3 := Lib.hid B3
  have XA := Lib.hid XA
  have XB := Lib.hid XB
  have XR := Lib.hid XR
  have RA := Lib.hid (hNA _ _ RA)
  have RB := Lib.hid (hNB _ _ RB)
  have HB := Lib.hid hB
  have HA := Lib.hid hA
  have HT := Lib.hid hT
  have PV := Lib.hid (spaceL_piv hA)
  obtain ⟨aa, qa, rfl, hma, hc1⟩ := ha
  obtain ⟨ab, qb, rfl, hmb, hc2⟩ := hb
  generalize hS : addN (spaceL A) (fun i => (B.getD i 0, 0)) B.length = S2
  have HS2 := Lib.hid hS
  have LN := Lib.hid (nI_length (rowsK S2 60))
  rw [hc] at BO
  clear hc1 hc2 hc hNA hNB hA hB hT hS
  have t2 := Tryd.underlying26
  go_enter Tryd.func52, Tryd.ntmps52
  go_wp2_with fail
  rw [← hw3]
  clear hw3
  refine BO.out.mono ?_
  rintro e w4 ⟨rfl, b4⟩
  have B4 := Lib.hid (B3.out.trans (b4.mono B3.out.size))
  have XA4 := Lib.hid (XA.out.up b4)
  have XB4 := Lib.hid (XB.out.up b4)
  have XR4 := Lib.hid (XR.out.up b4)
  have RA4 := Lib.hid (RA.out.below b4)
  have RB4 := Lib.hid (RB.out.below b4)
  clear b4 B3 XA XB XR RA RB BO
  have a0 := XA4.out.c0
  have a1 := XA4.out.c1
  go_wp2_with fail
  refine (spaceOf_any _ A w4 RA4.out HA.out (by omega) (HT.out.below B4.out)).mono ?_
  rintro e w5 ⟨rfl, s5, b5⟩
  have LA := Lib.hid XA4.out.lt
  have LR := Lib.hid XR4.out.lt
  have LG := Lib.hid B4.out.size
  have B5 := Lib.hid (B4.out.trans (b5.mono B4.out.size))
  have XA5 := Lib.hid (XA4.out.up b5)
  have XB5 := Lib.hid (XB4.out.up b5)
  have XR5 := Lib.hid (XR4.out.up b5)
  have RB5 := Lib.hid (RB4.out.below b5)
  have S5 := Lib.hid s5
  clear b5 s5 B4 XA4 XB4 XR4 RA4 RB4 a0 a1
  generalize w4.heap.size = g at *
  have b0 := XB5.out.c0
  have b1 := XB5.out.c1
  go_wp2_with fail
  refine (plainRows_any _ B w5 RB5.out (by omega)).mono ?_
  rintro e w6 ⟨u6, rfl, o6, b6⟩
  have B6 := Lib.hid (B5.out.trans (b6.mono B5.out.size))
  have XA6 := Lib.hid (XA5.out.up b6)
  have XR6 := Lib.hid (XR5.out.up b6)
  have S6 := Lib.hid (S5.out.up b6)
  have O6 := Lib.hid (rdt_of_own o6)
  have T6 := Lib.hid (HT.out.below B6.out)
  have HP := Lib.hid HT.out.pos
  clear b6 o6 B5 XA5 XB5 XR5 RB5 S5 b0 b1
  go_wp2_with fail
  refine (reduceAdd_any g (spaceL A) u6 B.length _ w6 O6.out S6.out PV.out (fun i hi => ⟨getD_lt HB.out i hi, Nat.two_pow_pos 60⟩) (by omega) T6.out (by have := HP.out; have := LG.out; omega)).mono ?_
  rintro e w7 ⟨u7, rfl, o7, s7, k7⟩
  rw [HS2.out] at s7
  have S7 := Lib.hid s7
  have B7 := Lib.hid (B6.out.grown k7 B6.out.size (fun q hq => by cases hq; exact LG.out))
  have XA7 := Lib.hid (XA6.out.grownG k7 (by have := LA.out; omega))
  have XR7 := Lib.hid (XR6.out.grownG k7 (by have := LR.out; omega))
  clear o7 s7 k7 B6 XA6 XR6 S6 O6 T6
  have a0 := XA7.out.c0
  have a1 := XA7.out.c1
  go_wp2_with fail
  refine (matrix_any g S2 _ w7 S7.out).mono ?_
  rintro e w8 ⟨u, rfl, o8, b8⟩
  obtain ⟨va, vc, rfl⟩ := o8.shape
  have O8 : Hid (w8.ownsRow w.heap.size 2 1 (.slice va (rowsK S2 60).length vc) (rowsK S2 60).length ((nI (rowsK S2 60)).map (Value.int .i64))) := Lib.hid (own_base o8 B7.out.size)
  have X4 := Lib.hid (XR7.out.up b8)
  have B4 := Lib.hid (B7.out.trans (b8.mono B7.out.size))
  clear o8 b8 a0 a1 XA7 XR7 S7 B7
  have cR0 := X4.out.c0
  have cR1 := X4.out.c1
  have fR0 := X4.out.fr 0
  have fR1 := X4.out.fr 1
  have F1 := Lib.hid (own_stored (u1 := .int .i64 k) (u2 := .slice va (rowsK S2 60).length vc) X4.out O8.out)
  have F2 := Lib.hid ((X4.out.set0 (.int .i64 k)).set1 (.slice va (rowsK S2 60).length vc))
  have F3 := Lib.hid ((B4.out.setCell (p := ⟨w.heap.size + 1 + 1, 0, none⟩) (by simp; omega) (.int .i64 k)).setCell (p := ⟨w.heap.size + 1 + 1, 1, none⟩) (by simp; omega) (.slice va (rowsK S2 60).length vc))
  go_wp2_with fail
  refine bodyPost_ret (results_box_tmp rfl _ _ (w.heap.size + 1 + 1) _ _ _ rfl F2.out t2 (by kernel_rfl)) rfl ?_
  refine ⟨_, rfl, ?_, F3.out⟩
  rw [LN.out]
  exact F1.out

theorem sm_zero {ca cb : Int} {na nb : Nat} {Ga Gb : Nat → Int} (h : smCode ca na Ga cb nb Gb = 0) : isMat ca na Ga = true ∧ isMat cb nb Gb = true ∧ ca = cb := by
  unfold smCode at h
  by_cases h1 : isMat ca na Ga = true ∧ isMat cb nb Gb = true
  · rw [if_pos h1] at h
    by_cases h2 : ca = cb
    · exact ⟨h1.1, h1.2, h2⟩
    · rw [if_neg h2] at h; simp at h
  · rw [if_neg h1] at h; simp at h

theorem SumOfSpaces_both (ca : Int) (na : Nat) (Ga : Nat → Int) (cb : Int) (nb : Nat) (Gb : Nat → Int) : ∃ (C : Int) (L : List Int) (cd : Int), L.length ≤ 200 ∧
    (∀ w sa sb, RdI w sa na Ga → RdI w sb nb Gb → Calls Tryd.prog 53 #[.agg #[.int .i64 ca, sa], .agg #[.int .i64 cb, sb]] w (MRes C L cd w)) ∧
    (∀ w sa sb, RdI w sa na Ga → RdI w sb nb Gb → T0 w → Calls Tryd.prog 52 #[.agg #[.int .i64 ca, sa], .agg #[.int .i64 cb, sb]] w (MRes C L cd w)) := by
  by_cases hc : smCode ca na Ga cb nb Gb = 0
  · obtain ⟨ha, hb, rfl⟩ := sm_zero hc
    obtain ⟨k, A, rfl, hk, hn, hl, hA, _, hN⟩ := mat_rd ha
    obtain ⟨k2, B, e2, hk2, hn2, hl2, hB, _, hN2⟩ := mat_rd hb
    refine ⟨k, nI (putAll (putAll [] A) B), 0, ?_, fun w sa sb h1 h2 => specSum_yes k sa sb na nb Ga Gb A B w h1 h2 hc hl hn hA hN hl2 hn2 hB hN2, fun w sa sb h1 h2 hT => ?_⟩
    · rw [nI_length]
      have := (putAll_ok2 hA hB).2
      omega
    · have := implSum_yes k sa sb na nb Ga Gb A B w h1 h2 hc hl hn hA hN hl2 hn2 hB hN2 hT
      rw [rowsK_two hA hB] at this
      exact this
  · exact ⟨0, [], _, by simp, fun w sa sb h1 h2 => specSum_no ca cb sa sb na nb Ga Gb w h1 h2 hc, fun w sa sb h1 h2 _ => implSum_no ca cb sa sb na nb Ga Gb w h1 h2 hc⟩
end Go.Proofs.YtdojblmffmefgaaDoor
