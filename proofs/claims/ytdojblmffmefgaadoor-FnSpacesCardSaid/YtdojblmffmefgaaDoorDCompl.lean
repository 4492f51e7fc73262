/-
  ComplementRows, both sides.
-/
import Derived.Test.YtdojblmffmefgaaDoorPlainMeet
import Derived.Test.YtdojblmffmefgaaDoorDPutN
namespace Go.Proofs.YtdojblmffmefgaaDoor
open Go.RowKit
set_option linter.unusedVariables false
set_option maxRecDepth 100000

/-- What a function that returns []int64 and a code returns. -/
def IRes (L : List Int) (cd : Int) (w : World) (e : Ending) (w' : World) : Prop :=
  ∃ u, e = .returned (.tuple #[u, .int .i64 cd]) ∧ w'.ownsRow w.heap.size 2 1 u L.length (L.map (Value.int .i64)) ∧ Below w.heap.size w w'

/-- The two rows of the list's way. -/
structure K2 (w0 : World) (vr vo : Value) (L O : List Nat) (w : World) : Prop where
  r : w.ownsRow w0.heap.size 2 1 vr L.length ((nI L).map (Value.int .i64))
  o : w.ownsRow w0.heap.size 2 1 vo O.length ((nI O).map (Value.int .i64))
  ro : vr.ownBlock = none ∨ vr.ownBlock ≠ vo.ownBlock
  bel : Below w0.heap.size w0 w
section
variable {w0 w w' : World} {vr vo vr' : Value} {L O L' : List Nat} {g cap x : Nat}
theorem K2.up (h : K2 w0 vr vo L O w) (k : Below w.heap.size w w') : K2 w0 vr vo L O w' :=
  ⟨own_below h.r k, own_below h.o k, h.ro, h.bel.trans (k.mono h.bel.size)⟩
theorem K2.putR (h : K2 w0 vr vo L O w) (o : w'.ownsRow w.heap.size 2 1 vr' L'.length ((nI L').map (Value.int .i64))) (k : Below w.heap.size w w') : K2 w0 vr' vo L' O w' :=
  ⟨own_base o h.bel.size, own_below h.o k, apart_symm (own_apart h.o o), h.bel.trans (k.mono h.bel.size)⟩
theorem K2.pushO (h : K2 w0 vr vo L O w) (ho : w'.ownsRow w0.heap.size 2 1 (.slice (some ⟨g, 0, none⟩) (O.length + 1) cap) (O.length + 1) ((nI O ++ [(x : Int)]).map (Value.int .i64))) (k : w.grownBy w' vo.ownBlock) (hl : vo.ownBlock = some g ∨ g = w.heap.size) :
    K2 w0 vr (.slice (some ⟨g, 0, none⟩) (O.length + 1) cap) L (O ++ [x]) w' :=
  ⟨h.r.kept k h.ro, by rw [← nI_snoc, List.length_append]; exact ho, apart_new h.r h.ro hl rfl, h.bel.grown k h.bel.size (fun q hq => (h.o.lt q hq).1)⟩
end

/-- What remains of the row i. -/
def cT (A B : List Nat) (i : Nat) : Nat := wo (putAll (putAll [] A) (B.take i)) (B.getD i 0)

set_option maxHeartbeats 1000000 in
theorem specCompl_no (ca cb : Int) (sa sb : Value) (na nb : Nat) (Ga Gb : Nat → Int) (w : World) (ha : RdI w sa na Ga) (hb : RdI w sb nb Gb) (hc : smCode ca na Ga cb nb Gb ≠ 0) :
    Calls Tryd.prog 57 #[.agg #[.int .i64 ca, sa], .agg #[.int .i64 cb, sb]] w (IRes [] (smCode ca na Ga cb nb Gb) w) := by
  obtain ⟨w3, hw3, B3, XA, XB, RA, RB⟩ := two_boxes (ca := ca) (cb := cb) ha hb
  have BO := Lib.hid (specBoth_any ca cb sa sb na nb Ga Gb w3 RA RB)
  have B3 := Lib.hid B3
  clear XA XB RA RB
  obtain ⟨aa, qa, rfl, hma, hc1⟩ := ha
  obtain ⟨ab, qb, rfl, hmb, hc2⟩ := hb
  clear hc1 hc2
  have hcd : (smCode ca na Ga cb nb Gb != 0) = true := by rw [bne_iff_ne]; exact hc
  clear hc
  generalize smCode ca na Ga cb nb Gb = cd at *
  have t2 := Tryd.underlying26
  go_enter Tryd.func57, Tryd.ntmps57
  go_wp2_with fail
  rw [← hw3]
  clear hw3
  refine BO.out.mono ?_
  rintro e w4 ⟨rfl, b4⟩
  have B4 := Lib.hid (B3.out.trans (b4.mono B3.out.size))
  clear b4 B3
  go_wp2_with fail
  go_ret2
  exact ⟨_, rfl, World.ownsRow_nil _ _ _ _, B4.out⟩

set_option maxHeartbeats 1000000 in
theorem implCompl_no (ca cb : Int) (sa sb : Value) (na nb : Nat) (Ga Gb : Nat → Int) (w : World) (ha : RdI w sa na Ga) (hb : RdI w sb nb Gb) (hc : smCode ca na Ga cb nb Gb ≠ 0) :
    Calls Tryd.prog 56 #[.agg #[.int .i64 ca, sa], .agg #[.int .i64 cb, sb]] w (IRes [] (smCode ca na Ga cb nb Gb) w) := by
  obtain ⟨w3, hw3, B3, XA, XB, RA, RB⟩ := two_boxes (ca := ca) (cb := cb) ha hb
  have BO := Lib.hid (implSame_any ca cb sa sb na nb Ga Gb w3 RA RB)
  have B3 := Lib.hid B3
  clear XA XB RA RB
  obtain ⟨aa, qa, rfl, hma, hc1⟩ := ha
  obtain ⟨ab, qb, rfl, hmb, hc2⟩ := hb
  clear hc1 hc2
  have hcd : (smCode ca na Ga cb nb Gb != 0) = true := by rw [bne_iff_ne]; exact hc
  clear hc
  generalize smCode ca na Ga cb nb Gb = cd at *
  have t2 := Tryd.underlying26
  go_enter Tryd.func56, Tryd.ntmps56
  go_wp2_with fail
  rw [← hw3]
  clear hw3
  refine BO.out.mono ?_
  rintro e w4 ⟨rfl, b4⟩
  have B4 := Lib.hid (B3.out.trans (b4.mono B3.out.size))
  clear b4 B3
  go_wp2_with fail
  go_ret2
  exact ⟨_, rfl, World.ownsRow_nil _ _ _ _, B4.out⟩

set_option maxHeartbeats 4000000 in
theorem specCompl_yes (k : Nat) (sa sb : Value) (na nb : Nat) (Ga Gb : Nat → Int) (A B : List Nat) (w : World) (ha : RdI w sa na Ga) (hb : RdI w sb nb Gb) (hc : smCode k na Ga k nb Gb = 0)
    (hla : A.length = na) (hna : na ≤ 200) (hA : ∀ x ∈ A, x < 2 ^ 60) (hNA : ∀ (w : World) (s : Value), RdI w s na Ga → RdN w s A) (hlb : B.length = nb) (hnb : nb ≤ 200) (hB : ∀ x ∈ B, x < 2 ^ 60) (hNB : ∀ (w : World) (s : Value), RdI w s nb Gb → RdN w s B) :
    Calls Tryd.prog 57 #[.agg #[.int .i64 k, sa], .agg #[.int .i64 k, sb]] w (IRes (nI (cidx (cT A B) nb)) 0 w) := by
  obtain ⟨w3, hw3, B3, XA, XB, RA, RB⟩ := two_boxes (ca := k) (cb := k) ha hb
  have BO := Lib.hid (specBoth_any k k sa sb na nb Ga Gb w3 RA RB)
  have B3 := Lib.hid B3
  have XA := Lib.hid XA
  have XB := Lib.hid XB
  have RA := Lib.hid (hNA _ _ RA)
  have RB := Lib.hid (hNB _ _ RB)
  have HB := Lib.hid hB
  have HA := Lib.hid hA
  obtain ⟨aa, qa, rfl, hma, hc1⟩ := ha
  obtain ⟨ab, qb, rfl, hmb, hc2⟩ := hb
  have HL := Lib.hid hlb
  rw [hc] at BO
  clear hc1 hc2 hc hNA hNB hA hB hlb
  have t2 := Tryd.underlying26
  go_enter Tryd.func57, Tryd.ntmps57
  go_wp2_with fail
  rw [← hw3]
  clear hw3
  refine BO.out.mono ?_
  rintro e w4 ⟨rfl, b4⟩
  have B4 := Lib.hid b4
  have XA4 := Lib.hid (XA.out.up b4)
  have RA4 := Lib.hid (RA.out.below b4)
  clear b4 XA RA BO
  have a0 := XA4.out.c0
  have a1 := XA4.out.c1
  go_wp2_with fail
  refine (l02Reduce_any _ A w4 RA4.out HA.out (by omega)).mono ?_
  rintro e w5 ⟨u, rfl, o5, b5⟩
  obtain ⟨ua, uc, rfl⟩ := o5.shape
  have B5 := Lib.hid (B4.out.trans (b5.mono B4.out.size))
  have O5 := Lib.hid (own_base o5 B4.out.size)
  clear b5 o5 B4 XA4 RA4 a0 a1
  have W6 : ∃ w6, w6 = w5.alloc (.cells #[] 2) := ⟨_, rfl⟩
  obtain ⟨w6, hw6⟩ := W6
  have K6 : Hid (K2 w3 (.slice ua (putAll [] A).length uc) (.slice (some ⟨w5.heap.size, 0, none⟩) 0 0) (putAll (putAll [] A) (B.take 0)) (cidx (cT A B) 0) w6) := Lib.hid (by
    have o2 : (w5.alloc (.cells #[] 2)).ownsRow w5.heap.size 2 1 (.slice (some ⟨w5.heap.size, 0, none⟩) 0 0) 0 (([] : List Int).map (Value.int .i64)) := World.ownsRow_made w5 #[] 0 (Nat.le_refl _) (Nat.zero_le _) (by simp)
    rw [hw6]
    exact ⟨own_below O5.out ((Below.refl _ _).alloc (Nat.le_refl _) _), own_base o2 B5.out.size, own_apart O5.out o2, B5.out.alloc B5.out.size _⟩)
  go_wp2_with fail
  rw [← hw6]
  clear hw6 O5
  go_loopw [7, 8, 9] (fun r o i wr => ∃ (j : Nat) (va oa : Option Addr) (vc oc : Nat), j ≤ nb ∧ i = .int .i64 j ∧ r = .slice va (putAll (putAll [] A) (B.take j)).length vc ∧ o = .slice oa (cidx (cT A B) j).length oc ∧ Hid (K2 w3 (.slice va (putAll (putAll [] A) (B.take j)).length vc) (.slice oa (cidx (cT A B) j).length oc) (putAll (putAll [] A) (B.take j)) (cidx (cT A B) j) wr)) (fun _ _ i _ => nb - (intOf i).toNat)
  case atStart => exact ⟨0, _, _, _, _, by omega, rfl, rfl, rfl, K6⟩
  case round =>
    clear K6
    obtain ⟨j, va, oa, vc, oc, hj, rfl, rfl, rfl, KK⟩ := hrel
    have XBj := XB.out.up KK.out.bel
    have b0 := XBj.c0
    have b1 := XBj.c1
    clear XBj
    have CL := cidx_len (cT A B) j
    by_cases hlt : j < nb
    · have hlt' : (j : Int) < (nb : Int) := by omega
      obtain ⟨_, _, e, _, hc⟩ := (RB.out.below KK.out.bel)
      cases e
      rw [HL.out] at hc
      obtain ⟨b, off, rfl, hc2⟩ := hc.resolve_left (by omega)
      have c1 : wr.cell? ⟨b, off + j, none⟩ = some (.int .i64 ((B.getD j 0 : Nat) : Int)) := hc2 j hlt
      clear hc hc2
      have hjl : j < B.length := by rw [HL.out]; exact hlt
      have PT := Lib.hid (putAll_takeL (putAll [] A) B j hjl)
      obtain ⟨ok1, ok2⟩ := putAll_ok2 HA.out (mem_takeL HB.out j)
      have WO := Lib.hid (l02Without_any _ (putAll (putAll [] A) (B.take j)) (B.getD j 0) wr (rdn_of_own KK.out.r) (getD_lt HB.out j hjl) ok1)
      have P := Lib.hid (l02Put_new w3.heap.size _ (putAll (putAll [] A) (B.take j)) (B.getD j 0) wr KK.out.r (getD_lt HB.out j hjl) ok1 (by omega))
      have CI : Hid (cidx (cT A B) (j + 1) = cidx (cT A B) j ++ (if wo (putAll (putAll [] A) (B.take j)) (B.getD j 0) ≠ 0 then [j] else [])) := Lib.hid rfl
      have PS := Lib.hid (@put_same (putAll (putAll [] A) (B.take j)) (B.getD j 0))
      clear ok1 hjl
      generalize B.getD j 0 = r at *
      generalize putAll (putAll [] A) (B.take j) = M at *
      generalize cidx (cT A B) j = O at *
      go_wp2_with fail
      refine WO.out.mono ?_
      rintro e w6 ⟨rfl, rfl⟩
      by_cases h0 : wo M r = 0
      · have hb : ((((wo M r : Nat)) : Int) != 0) = false := by rw [h0]; rfl
        have EC : Hid (cidx (cT A B) (j + 1) = O) := Lib.hid (by rw [CI.out, if_neg (fun h => h h0), List.append_nil])
        have EM : Hid (put M r = M) := Lib.hid (PS.out h0)
        clear h0 P WO CI PS
        generalize wo M r = z at *
        go_wp2_with fail
        go_roundw
        case rel => exact ⟨j + 1, va, oa, vc, oc, by omega, by go_num, by rw [PT.out, EM.out], by rw [EC.out], by rw [PT.out, EM.out, EC.out]; exact KK⟩
        case measure => simp [intOf]; omega
      · have hb : ((((wo M r : Nat)) : Int) != 0) = true := by rw [bne_iff_ne]; omega
        have EC : Hid (cidx (cT A B) (j + 1) = O ++ [j]) := Lib.hid (by rw [CI.out, if_pos h0])
        have P2 := Lib.hid (P.out h0)
        clear h0 WO CI PS P
        generalize wo M r = z at *
        go_wp2_with fail
        refine P2.out.mono ?_
        rintro e w6 ⟨u, rfl, o6, b6⟩
        obtain ⟨wa, wc, rfl⟩ := o6.shape
        have K7 := Lib.hid (KK.out.putR o6 b6)
        clear o6 b6 P2 KK
        have AX := Lib.hid (K7.out.up ((Below.refl _ _).alloc (Nat.le_refl _) (.cells #[.int .i64 (j : Int)] 2)))
        go_wp2_with (at_builtin; refine wpList_append1L rfl _ _ rfl w3.heap.size _ O.length (nI O) rfl AX.out.o _ _ 1 rfl (World.cell?_alloc_new _ _ _ _) ?c1 ?c2 ?_)
        case c1 => omega
        case c2 => have := AX.out.bel.size; simpa using this
        intro g' cp w8 ho hg hl2
        have F := Lib.hid (AX.out.pushO (x := j) (by rw [List.map_append]; exact ho) hg (by simpa using hl2))
        clear ho hg hl2
        have EL : Hid ((cidx (cT A B) (j + 1)).length = O.length + 1) := Lib.hid (by rw [EC.out]; simp)
        go_wp2
        go_roundw
        case rel => exact ⟨j + 1, wa, _, wc, cp, by omega, by go_num, by rw [PT.out], by rw [EL.out], Lib.hid (by rw [PT.out, EL.out, EC.out]; exact F.out)⟩
        case measure => simp [intOf]; omega
    · obtain rfl : j = nb := by omega
      have LN := Lib.hid (nI_length (cidx (cT A B) j))
      go_wp2_with fail
      go_ret2
      exact ⟨_, rfl, by rw [LN.out]; exact own_base KK.out.o B3.out.size, B3.out.trans (KK.out.bel.mono B3.out.size)⟩

set_option maxHeartbeats 4000000 in
theorem implCompl_yes (k : Nat) (sa sb : Value) (na nb : Nat) (Ga Gb : Nat → Int) (A B : List Nat) (w : World) (ha : RdI w sa na Ga) (hb : RdI w sb nb Gb) (hc : smCode k na Ga k nb Gb = 0)
    (hla : A.length = na) (hna : na ≤ 200) (hA : ∀ x ∈ A, x < 2 ^ 60) (hNA : ∀ (w : World) (s : Value), RdI w s na Ga → RdN w s A) (hlb : B.length = nb) (hnb : nb ≤ 200) (hB : ∀ x ∈ B, x < 2 ^ 60) (hNB : ∀ (w : World) (s : Value), RdI w s nb Gb → RdN w s B) (hT : T0 w) :
    Calls Tryd.prog 56 #[.agg #[.int .i64 k, sa], .agg #[.int .i64 k, sb]] w (IRes (nI (cidx (fun i => (lft (spaceL A) (fun i => (B.getD i 0, 0)) i).1) nb)) 0 w) := by
  obtain ⟨w3, hw3, B3, XA, XB, RA, RB⟩ := two_boxes (ca := k) (cb := k) ha hb
  have BO := Lib.hid (implSame_any k k sa sb na nb Ga Gb w3 RA RB)
  have B3 := Lib.hid B3
  have XA := Lib.hid XA
  have XB := Lib.hid XB
  have RA := Lib.hid (hNA _ _ RA)
  have RB := Lib.hid (hNB _ _ RB)
  have HB := Lib.hid hB
  have HA := Lib.hid hA
  have HT := Lib.hid hT
  have PV := Lib.hid (spaceL_piv hA)
  obtain ⟨aa, qa, rfl, hma, hc1⟩ := ha
  obtain ⟨ab, qb, rfl, hmb, hc2⟩ := hb
  have HL := Lib.hid hlb
  generalize hR : lft (spaceL A) (fun i => (B.getD i 0, 0)) = R
  have HRR := Lib.hid hR
  clear hR
  rw [hc] at BO
  clear hc1 hc2 hc hNA hNB hA hB hlb hT
  have t2 := Tryd.underlying26
  have t3 := Tryd.underlying91
  go_enter Tryd.func56, Tryd.ntmps56
  go_wp2_with fail
  rw [← hw3]
  clear hw3
  refine BO.out.mono ?_
  rintro e w4 ⟨rfl, b4⟩
  have B4 := Lib.hid (B3.out.trans (b4.mono B3.out.size))
  have XA4 := Lib.hid (XA.out.up b4)
  have XB4 := Lib.hid (XB.out.up b4)
  have RA4 := Lib.hid (RA.out.below b4)
  have RB4 := Lib.hid (RB.out.below b4)
  clear b4 B3 XA XB RA RB BO
  have a0 := XA4.out.c0
  have a1 := XA4.out.c1
  go_wp2_with fail
  refine (spaceOf_any _ A w4 RA4.out HA.out (by omega) (HT.out.below B4.out)).mono ?_
  rintro e w5 ⟨rfl, s5, b5⟩
  have LG := Lib.hid B4.out.size
  have B5 := Lib.hid (B4.out.trans (b5.mono B4.out.size))
  have XB5 := Lib.hid (XB4.out.up b5)
  have RB5 := Lib.hid (RB4.out.below b5)
  have S5 := Lib.hid s5
  clear b5 s5 B4 XA4 XB4 RA4 RB4 a0 a1
  generalize w4.heap.size = g at *
  have b0 := XB5.out.c0
  have b1 := XB5.out.c1
  go_wp2_with fail
  refine (plainRows_any _ B w5 RB5.out (by have := HL.out; omega)).mono ?_
  rintro e w6 ⟨u6, rfl, o6, b6⟩
  have B6 := Lib.hid (B5.out.trans (b6.mono B5.out.size))
  have S6 := Lib.hid (S5.out.up b6)
  have O6 := Lib.hid (rdt_of_own o6)
  have T6 := Lib.hid (HT.out.below B6.out)
  have HP := Lib.hid HT.out.pos
  clear b6 o6 B5 XB5 RB5 S5 b0 b1
  go_wp2_with fail
  refine (reduceAdd_any g (spaceL A) u6 B.length _ w6 O6.out S6.out PV.out (fun i hi => ⟨getD_lt HB.out i hi, Nat.two_pow_pos 60⟩) (by have := HL.out; omega) T6.out (by have := HP.out; have := LG.out; omega)).mono ?_
  rintro e w7 ⟨u7, rfl, o7, s7, k7⟩
  obtain ⟨va7, vc7, rfl⟩ := o7.shape
  have B7 := Lib.hid (B6.out.grown k7 B6.out.size (fun q hq => by cases hq; exact LG.out))
  have HV := rdt_of_own o7
  rw [HL.out, HRR.out] at HV
  have HV := Lib.hid HV
  rw [HL.out]
  clear o7 s7 k7 B6 S6 O6 T6
  go_wp2_with fail
  go_loopw [8, 9, 10, 27] (fun o _ _ c wr => ∃ (j : Nat) (va : Option Addr) (vc : Nat), j ≤ nb ∧ c = .int .i64 j ∧ o = .slice va (cidx (fun i => (R i).1) j).length vc ∧ Hid (wr.ownsRow w7.heap.size 2 1 (.slice va (cidx (fun i => (R i).1) j).length vc) (cidx (fun i => (R i).1) j).length ((nI (cidx (fun i => (R i).1) j)).map (Value.int .i64))) ∧ Hid (Below w7.heap.size w7 wr)) (fun _ _ _ c _ => nb - (intOf c).toNat)
  case atStart => exact ⟨0, none, 0, by omega, rfl, rfl, Lib.hid (World.ownsRow_nil _ _ _ _), Lib.hid (Below.refl _ _)⟩
  case round =>
    obtain ⟨j, va, vc, hj, rfl, rfl, O, B⟩ := hrel
    have hlen := cidx_len (fun i => (R i).1) j
    by_cases hlt : j < nb
    · have hlt' : (j : Int) < (nb : Int) := by omega
      obtain ⟨b, rfl, c0, c1⟩ := (HV.out.up B.out).at hlt
      have E : Hid (cidx (fun i => (R i).1) (j + 1) = cidx (fun i => (R i).1) j ++ (if (R j).1 ≠ 0 then [j] else [])) := Lib.hid rfl
      generalize R j = r at *
      generalize cidx (fun i => (R i).1) j = L at *
      have A := Lib.hid (own_below O.out ((Below.refl _ _).alloc (Nat.le_refl _) (.cells #[.int .i64 ((r.1 : Nat) : Int), .int .i64 ((r.2 : Nat) : Int)] 91)))
      have AB := Lib.hid (B.out.alloc B.out.size (.cells #[.int .i64 ((r.1 : Nat) : Int), .int .i64 ((r.2 : Nat) : Int)] 91))
      by_cases h0 : r.1 = 0
      · have hb : (((r.1 : Nat) : Int) != 0) = false := by rw [h0]; rfl
        have EQ : Hid (cidx (fun i => (R i).1) (j + 1) = L) := Lib.hid (by rw [E.out, if_neg (fun h => h h0), List.append_nil])
        clear h0 E
        go_wp2
        go_roundw
        case rel => exact ⟨j + 1, va, vc, by omega, by go_num, by rw [EQ.out], Lib.hid (by rw [EQ.out]; exact A.out), AB⟩
        case measure => simp [intOf]; omega
      · have hb : (((r.1 : Nat) : Int) != 0) = true := by rw [bne_iff_ne]; omega
        have EQ : Hid (cidx (fun i => (R i).1) (j + 1) = L ++ [j]) := Lib.hid (by rw [E.out, if_pos h0])
        clear h0 E
        have A3 := Lib.hid (own_below A.out ((Below.refl _ _).alloc (Nat.le_refl _) (.cells #[.int .i64 (j : Int)] 2)))
        have AB3 := Lib.hid (AB.out.alloc AB.out.size (.cells #[.int .i64 (j : Int)] 2))
        have CN : Hid (((wr.alloc (.cells #[.int .i64 ((r.1 : Nat) : Int), .int .i64 ((r.2 : Nat) : Int)] 91)).alloc (.cells #[.int .i64 (j : Int)] 2)).cell? ⟨wr.heap.size + 1, 0, none⟩ = some (.int .i64 (j : Int))) := Lib.hid (by simp)
        go_wp2_with (at_builtin; refine wpList_append1 rfl _ _ rfl w7.heap.size _ L.length (nI L) rfl A3.out _ _ 1 rfl CN.out ?c1 ?c2 ?_)
        case c1 => omega
        case c2 => exact AB3.out.size
        intro v' w2 ho hg
        obtain ⟨wa, wc, rfl⟩ := ho.shape
        have F1 := Lib.hid ho
        have F2 := Lib.hid (AB3.out.grown hg AB3.out.size (fun q hq => (A3.out.lt q hq).1))
        clear ho hg
        have ELN : Hid ((cidx (fun i => (R i).1) (j + 1)).length = L.length + 1) := Lib.hid (by rw [EQ.out]; simp)
        go_wp2
        go_roundw
        case rel => exact ⟨j + 1, wa, wc, by omega, by go_num, by rw [ELN.out], Lib.hid (by rw [ELN.out, EQ.out, ← nI_snoc, List.map_append]; exact F1.out), F2⟩
        case measure => simp [intOf]; omega
    · obtain rfl : j = nb := by omega
      have LN := Lib.hid (nI_length (cidx (fun i => (R i).1) j))
      have B8 := Lib.hid (B7.out.trans (B.out.mono B7.out.size))
      go_wp2
      go_ret2
      exact ⟨_, rfl, by rw [LN.out]; exact own_base O.out B7.out.size, B8.out⟩

theorem ComplementRows_both (ca : Int) (na : Nat) (Ga : Nat → Int) (cb : Int) (nb : Nat) (Gb : Nat → Int) : ∃ (L : List Int) (cd : Int), L.length ≤ 200 ∧
    (∀ w sa sb, RdI w sa na Ga → RdI w sb nb Gb → Calls Tryd.prog 57 #[.agg #[.int .i64 ca, sa], .agg #[.int .i64 cb, sb]] w (IRes L cd w)) ∧
    (∀ w sa sb, RdI w sa na Ga → RdI w sb nb Gb → T0 w → Calls Tryd.prog 56 #[.agg #[.int .i64 ca, sa], .agg #[.int .i64 cb, sb]] w (IRes L cd w)) := by
  by_cases hc : smCode ca na Ga cb nb Gb = 0
  · obtain ⟨ha, hb, rfl⟩ := sm_zero hc
    obtain ⟨k, A, rfl, hk, hn, hl, hA, _, hN⟩ := mat_rd ha
    obtain ⟨k2, B, e2, hk2, hn2, hl2, hB, _, hN2⟩ := mat_rd hb
    refine ⟨nI (cidx (cT A B) nb), 0, ?_, fun w sa sb h1 h2 => specCompl_yes k sa sb na nb Ga Gb A B w h1 h2 hc hl hn hA hN hl2 hn2 hB hN2, fun w sa sb h1 h2 hT => ?_⟩
    · rw [nI_length]
      have := cidx_len (cT A B) nb
      omega
    · have := implCompl_yes k sa sb na nb Ga Gb A B w h1 h2 hc hl hn hA hN hl2 hn2 hB hN2 hT
      rw [cidx_congr nb (fun i hi => lft_wo hA hB i (by omega))] at this
      exact this
  · exact ⟨[], _, by simp, fun w sa sb h1 h2 => specCompl_no ca cb sa sb na nb Ga Gb w h1 h2 hc, fun w sa sb h1 h2 _ => implCompl_no ca cb sa sb na nb Ga Gb w h1 h2 hc⟩
end Go.Proofs.YtdojblmffmefgaaDoor
