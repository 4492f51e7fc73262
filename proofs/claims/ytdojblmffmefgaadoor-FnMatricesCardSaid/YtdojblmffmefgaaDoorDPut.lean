/-
  Contracts of spec.l02Put and spec.l02Reduce.
-/
import Derived.Test.YtdojblmffmefgaaDoorDNum
namespace Go.Proofs.YtdojblmffmefgaaDoor
open Go.RowKit
set_option linter.unusedVariables false
set_option maxRecDepth 100000

/-- The list and the mark behind j rows. -/
def stq (L : List Nat) (y j : Nat) : List Nat × Bool := (L.take j).foldl (pst y) ([], false)
theorem stq_succ (L : List Nat) (y j : Nat) (hj : j < L.length) : stq L y (j + 1) = pst y (stq L y j) (L.getD j 0) := by
  have e : L.take (j + 1) = L.take j ++ [L.getD j 0] := by
    rw [List.take_add_one, List.getD_eq_getElem?_getD, List.getElem?_eq_getElem hj]; rfl
  unfold stq
  rw [e, List.foldl_append]
  rfl
theorem stq_len (L : List Nat) (y j : Nat) (hj : j ≤ L.length) : (stq L y j).1.length ≤ j + 1 ∧ ((stq L y j).2 = false → (stq L y j).1.length ≤ j) := by
  induction j with
  | zero => simp [stq]
  | succ j ih =>
    obtain ⟨a, b⟩ := ih (by omega)
    rw [stq_succ L y j (by omega)]
    generalize stq L y j = st at *
    unfold pst
    simp only []
    split
    · rename_i hc
      have := b hc.1
      simp; omega
    · cases hd : st.2 with
      | true => simp; omega
      | false => have := b hd; simp; omega

def PutRes (B : Nat) (M : List Nat) (w : World) (e : Ending) (w' : World) : Prop :=
  ∃ u, e = .returned u ∧ w'.ownsRow B 2 1 u M.length ((nI M).map (Value.int .i64)) ∧ Below w.heap.size w w'

set_option maxHeartbeats 4000000 in
theorem l02Put_any (B : Nat) (v : Value) (L : List Nat) (x : Nat) (w : World) (h : w.ownsRow B 2 1 v L.length ((nI L).map (Value.int .i64))) (hx : x < 2 ^ 60) (hL : okRows L) (hl : L.length ≤ 200) (hB : B ≤ w.heap.size) :
    Calls Tryd.prog 106 #[v, .int .i64 x] w (PutRes B (put L x) w) := by
  have RV := Lib.hid (rdn_of_own h)
  have O := Lib.hid h
  obtain ⟨a, cap, rfl⟩ := h.shape
  have W := Lib.hid (l02Without_any _ L x w RV.out hx hL)
  have hy := wo_lt L x hx hL L.length (Nat.le_refl _)
  rw [List.take_length] at hy
  have HL := Lib.hid hL
  clear h hx hL
  by_cases h0 : wo L x = 0
  · have E : Hid (put L x = L) := Lib.hid (by unfold put; rw [if_pos h0])
    rw [h0] at W
    clear h0 hy
    go_enter Tryd.func106, Tryd.ntmps106
    go_wp2_with fail
    refine W.out.mono ?_
    rintro e w' ⟨rfl, rfl⟩
    go_wp2_with fail
    go_ret
    exact ⟨_, rfl, by rw [E.out]; exact O.out, Below.refl _ _⟩
  · have E : Hid (put L x = putR L (wo L x)) := Lib.hid (by unfold put; rw [if_neg h0])
    generalize wo L x = y at *
    have hyi : ((y : Int) == 0) = false := by rw [beq_eq_false_iff_ne]; omega
    have LW := Lib.hid (fun w => l02Low_any y w h0 hy)
    have HY := Lib.hid hy
    have H0 := Lib.hid h0
    have ht := tz_lt60 y h0 hy
    have HT := Lib.hid ht
    clear hy h0 ht
    generalize hn : L.length = n at *
    have HN := Lib.hid hn
    clear hn
    generalize hp : ((2 ^ tz y : Nat) : Int) = p at *
    have HP := Lib.hid hp
    clear hp
    go_enter Tryd.func106, Tryd.ntmps106
    go_wp2_with fail
    refine W.out.mono ?_
    rintro e w' ⟨rfl, rfl⟩
    go_wp2_with fail
    refine (LW.out _).mono ?_
    rintro e w' ⟨rfl, rfl⟩
    go_wp2_with fail
    go_loopw [6, 7, 8, 9] (fun o d i _ wr => ∃ (j : Nat) (va : Option Addr) (vc : Nat), j ≤ n ∧ i = .int .i64 j ∧ o = .slice va (stq L y j).1.length vc ∧ d = .bool (stq L y j).2 ∧ Hid (wr.ownsRow w.heap.size 2 1 (.slice va (stq L y j).1.length vc) (stq L y j).1.length ((nI (stq L y j).1).map (Value.int .i64))) ∧ Hid (Below w.heap.size w wr)) (fun _ _ i _ _ => n - (intOf i).toNat)
    case atStart => exact ⟨0, _, 0, by omega, rfl, rfl, rfl, Lib.hid (World.ownsRow_made w #[] 0 (Nat.le_refl _) (by decide) (by simp)), Lib.hid ((Below.refl _ _).alloc (Nat.le_refl _) _)⟩
    case round =>
      obtain ⟨j, va, vc, hj, rfl, rfl, rfl, OW, BL⟩ := hrel
      by_cases hlt : j < n
      · have hlt' : (j : Int) < (n : Int) := by omega
        obtain ⟨_, _, e, _, hc⟩ := (RV.out.below BL.out)
        cases e
        rw [HN.out] at hc
        obtain ⟨b, off, rfl, hc2⟩ := hc.resolve_left (by omega)
        have c1 : wr.cell? ⟨b, off + j, none⟩ = some (.int .i64 ((L.getD j 0 : Nat) : Int)) := hc2 j hlt
        clear hc hc2
        have hr := HL.out j (by rw [HN.out]; exact hlt)
        have SU := Lib.hid (stq_succ L y j (by rw [HN.out]; exact hlt))
        obtain ⟨sl1, sl2⟩ := stq_len L y j (by rw [HN.out]; exact hj)
        have BT := Lib.hid (bit_test (L.getD j 0) (tz y) hr.2 HT.out)
        rw [HP.out] at BT
        have LR := Lib.hid (fun w => l02Low_any (L.getD j 0) w hr.1 hr.2)
        have XR := Lib.hid (i64_xor (L.getD j 0) y (by have := hr.2; omega) (by have := HY.out; omega))
        have GT : Hid (tz y < tz (L.getD j 0) ↔ p < ((2 ^ tz (L.getD j 0) : Nat) : Int)) := Lib.hid (by rw [← HP.out, Int.ofNat_lt]; exact (Nat.pow_lt_pow_iff_right (by decide)).symm)
        have SZ := Lib.hid BL.out.size
        clear hr
        generalize L.getD j 0 = r at *
        generalize hst : stq L y j = st at *
        clear hst
        generalize ((2 ^ tz r : Nat) : Int) = pr at *
        obtain ⟨Q, dn⟩ := st
        simp only [] at OW sl1 sl2 SU ⊢
        cases hb : r.testBit (tz y) with
        | true =>
          cases dn with
          | true =>
            have hb2 : (bits .and .i64 (r : Int) p != 0) = true := by rw [BT.out]; exact hb
            have SV : Hid (stq L y (j + 1) = (Q ++ [r ^^^ y], true)) := Lib.hid (by rw [SU.out]; simp [pst, hb])
            clear hb SU BT
            have AO1 : Hid ((wr.alloc (.cells #[.int .i64 (bits .xor .i64 (r : Int) (y : Int))] 2)).ownsRow w.heap.size 2 1 (.slice va Q.length vc) (Q.length) ((nI Q).map (Value.int .i64))) := Lib.hid (own_below OW.out ((Below.refl _ _).alloc (Nat.le_refl _) _))
            have AS1 : Hid (w.heap.size ≤ (wr.alloc (.cells #[.int .i64 (bits .xor .i64 (r : Int) (y : Int))] 2)).heap.size) := Lib.hid (by have := BL.out.size; simp; omega)
            have AN1 : Q.length ≤ 1000000 := by omega
            go_wp2_with (first | (go_at_call 114; refine (LR.out _).mono ?_; rintro e w' ⟨rfl, rfl⟩) | (at_builtin; refine wpList_append1 rfl _ _ rfl w.heap.size _ (Q.length) (nI Q) rfl AO1.out _ _ 1 rfl (World.cell?_alloc_new _ _ _ _) AN1 AS1.out ?_))
            clear AO1 AS1
            intro v2 w2 ho2 hg2
            obtain ⟨va2, vc2, rfl⟩ := ho2.shape
            have B2 := Lib.hid ((BL.out.alloc SZ.out _).grown hg2 (by have := SZ.out; simp; omega) (fun k hk => (OW.out.lt k hk).1))
            have O2 : Hid (w2.ownsRow w.heap.size 2 1 (.slice va2 (Q.length + 1) vc2) (Q.length + 1) ((nI (Q ++ [r ^^^ y])).map (Value.int .i64))) := Lib.hid (by have e : nI (Q ++ [r ^^^ y]) = nI Q ++ [(bits .xor .i64 (r : Int) (y : Int))] := (by simp [nI]; exact XR.out.symm); rw [e, List.map_append]; simpa using ho2)
            clear ho2 hg2
            go_wp2
            go_roundw
            case rel => exact ⟨j + 1, va2, vc2, by omega, by go_num, by rw [SV.out]; simp, by rw [SV.out], Lib.hid (by rw [SV.out]; simpa using O2.out), B2⟩
            case measure => simp [intOf]; omega
          | false =>
            have sl3 := sl2 rfl
            by_cases hgt : tz y < tz r
            · have hb2 : (bits .and .i64 (r : Int) p != 0) = true := by rw [BT.out]; exact hb
              have SV : Hid (stq L y (j + 1) = (Q ++ [y, r ^^^ y], true)) := Lib.hid (by rw [SU.out]; simp [pst, hb, hgt])
              have hgi : p < pr := GT.out.1 hgt
              clear hb SU BT
              clear hgt
              have AO1 : Hid ((wr.alloc (.cells #[.int .i64 (y : Int)] 2)).ownsRow w.heap.size 2 1 (.slice va Q.length vc) (Q.length) ((nI Q).map (Value.int .i64))) := Lib.hid (own_below OW.out ((Below.refl _ _).alloc (Nat.le_refl _) _))
              have AS1 : Hid (w.heap.size ≤ (wr.alloc (.cells #[.int .i64 (y : Int)] 2)).heap.size) := Lib.hid (by have := BL.out.size; simp; omega)
              have AN1 : Q.length ≤ 1000000 := by omega
              go_wp2_with (first | (go_at_call 114; refine (LR.out _).mono ?_; rintro e w' ⟨rfl, rfl⟩) | (at_builtin; refine wpList_append1 rfl _ _ rfl w.heap.size _ (Q.length) (nI Q) rfl AO1.out _ _ 1 rfl (World.cell?_alloc_new _ _ _ _) AN1 AS1.out ?_))
              clear AO1 AS1
              intro v1 w1 ho1 hg1
              obtain ⟨va1, vc1, rfl⟩ := ho1.shape
              have B1 := Lib.hid ((BL.out.alloc SZ.out _).grown hg1 (by have := SZ.out; simp; omega) (fun k hk => (OW.out.lt k hk).1))
              have O1 : Hid (w1.ownsRow w.heap.size 2 1 (.slice va1 (Q.length + 1) vc1) (Q.length + 1) ((nI (Q ++ [y])).map (Value.int .i64))) := Lib.hid (by rw [nI_app, List.map_append]; simpa [nI] using ho1)
              clear ho1 hg1
              have AO2 : Hid ((w1.alloc (.cells #[.int .i64 (bits .xor .i64 (r : Int) (y : Int))] 2)).ownsRow w.heap.size 2 1 (.slice va1 (Q.length + 1) vc1) (Q.length + 1) ((nI (Q ++ [y])).map (Value.int .i64))) := Lib.hid (own_below O1.out ((Below.refl _ _).alloc (Nat.le_refl _) _))
              have AS2 : Hid (w.heap.size ≤ (w1.alloc (.cells #[.int .i64 (bits .xor .i64 (r : Int) (y : Int))] 2)).heap.size) := Lib.hid (by have := B1.out.size; simp; omega)
              have AN2 : Q.length + 1 ≤ 1000000 := by omega
              go_wp2_with (first | (go_at_call 114; refine (LR.out _).mono ?_; rintro e w' ⟨rfl, rfl⟩) | (at_builtin; refine wpList_append1 rfl _ _ rfl w.heap.size _ (Q.length + 1) (nI (Q ++ [y])) rfl AO2.out _ _ 1 rfl (World.cell?_alloc_new _ _ _ _) AN2 AS2.out ?_))
              clear AO2 AS2
              intro v2 w2 ho2 hg2
              obtain ⟨va2, vc2, rfl⟩ := ho2.shape
              have B2 := Lib.hid ((B1.out.alloc B1.out.size _).grown hg2 (by have := B1.out.size; simp; omega) (fun k hk => (O1.out.lt k hk).1))
              have O2 : Hid (w2.ownsRow w.heap.size 2 1 (.slice va2 (Q.length + 1 + 1) vc2) (Q.length + 1 + 1) ((nI (Q ++ [y, r ^^^ y])).map (Value.int .i64))) := Lib.hid (by have e : nI (Q ++ [y, r ^^^ y]) = nI (Q ++ [y]) ++ [(bits .xor .i64 (r : Int) (y : Int))] := (by simp [nI]; exact XR.out.symm); rw [e, List.map_append]; simpa using ho2)
              clear ho2 hg2
              go_wp2
              go_roundw
              case rel => exact ⟨j + 1, va2, vc2, by omega, by go_num, by rw [SV.out]; simp, by rw [SV.out], Lib.hid (by rw [SV.out]; simpa using O2.out), B2⟩
              case measure => simp [intOf]; omega
            · have hb2 : (bits .and .i64 (r : Int) p != 0) = true := by rw [BT.out]; exact hb
              have SV : Hid (stq L y (j + 1) = (Q ++ [r ^^^ y], false)) := Lib.hid (by rw [SU.out]; simp [pst, hb, hgt])
              have hgi : ¬ p < pr := fun h => hgt (GT.out.2 h)
              clear hb SU BT
              clear hgt
              have AO1 : Hid ((wr.alloc (.cells #[.int .i64 (bits .xor .i64 (r : Int) (y : Int))] 2)).ownsRow w.heap.size 2 1 (.slice va Q.length vc) (Q.length) ((nI Q).map (Value.int .i64))) := Lib.hid (own_below OW.out ((Below.refl _ _).alloc (Nat.le_refl _) _))
              have AS1 : Hid (w.heap.size ≤ (wr.alloc (.cells #[.int .i64 (bits .xor .i64 (r : Int) (y : Int))] 2)).heap.size) := Lib.hid (by have := BL.out.size; simp; omega)
              have AN1 : Q.length ≤ 1000000 := by omega
              go_wp2_with (first | (go_at_call 114; refine (LR.out _).mono ?_; rintro e w' ⟨rfl, rfl⟩) | (at_builtin; refine wpList_append1 rfl _ _ rfl w.heap.size _ (Q.length) (nI Q) rfl AO1.out _ _ 1 rfl (World.cell?_alloc_new _ _ _ _) AN1 AS1.out ?_))
              clear AO1 AS1
              intro v2 w2 ho2 hg2
              obtain ⟨va2, vc2, rfl⟩ := ho2.shape
              have B2 := Lib.hid ((BL.out.alloc SZ.out _).grown hg2 (by have := SZ.out; simp; omega) (fun k hk => (OW.out.lt k hk).1))
              have O2 : Hid (w2.ownsRow w.heap.size 2 1 (.slice va2 (Q.length + 1) vc2) (Q.length + 1) ((nI (Q ++ [r ^^^ y])).map (Value.int .i64))) := Lib.hid (by have e : nI (Q ++ [r ^^^ y]) = nI Q ++ [(bits .xor .i64 (r : Int) (y : Int))] := (by simp [nI]; exact XR.out.symm); rw [e, List.map_append]; simpa using ho2)
              clear ho2 hg2
              go_wp2
              go_roundw
              case rel => exact ⟨j + 1, va2, vc2, by omega, by go_num, by rw [SV.out]; simp, by rw [SV.out], Lib.hid (by rw [SV.out]; simpa using O2.out), B2⟩
              case measure => simp [intOf]; omega
        | false =>
          cases dn with
          | true =>
            have hb2 : (bits .and .i64 (r : Int) p != 0) = false := by rw [BT.out]; exact hb
            have SV : Hid (stq L y (j + 1) = (Q ++ [r], true)) := Lib.hid (by rw [SU.out]; simp [pst, hb])
            clear hb SU BT
            have AO1 : Hid ((wr.alloc (.cells #[.int .i64 (r : Int)] 2)).ownsRow w.heap.size 2 1 (.slice va Q.length vc) (Q.length) ((nI Q).map (Value.int .i64))) := Lib.hid (own_below OW.out ((Below.refl _ _).alloc (Nat.le_refl _) _))
            have AS1 : Hid (w.heap.size ≤ (wr.alloc (.cells #[.int .i64 (r : Int)] 2)).heap.size) := Lib.hid (by have := BL.out.size; simp; omega)
            have AN1 : Q.length ≤ 1000000 := by omega
            go_wp2_with (first | (go_at_call 114; refine (LR.out _).mono ?_; rintro e w' ⟨rfl, rfl⟩) | (at_builtin; refine wpList_append1 rfl _ _ rfl w.heap.size _ (Q.length) (nI Q) rfl AO1.out _ _ 1 rfl (World.cell?_alloc_new _ _ _ _) AN1 AS1.out ?_))
            clear AO1 AS1
            intro v2 w2 ho2 hg2
            obtain ⟨va2, vc2, rfl⟩ := ho2.shape
            have B2 := Lib.hid ((BL.out.alloc SZ.out _).grown hg2 (by have := SZ.out; simp; omega) (fun k hk => (OW.out.lt k hk).1))
            have O2 : Hid (w2.ownsRow w.heap.size 2 1 (.slice va2 (Q.length + 1) vc2) (Q.length + 1) ((nI (Q ++ [r])).map (Value.int .i64))) := Lib.hid (by have e : nI (Q ++ [r]) = nI Q ++ [(r : Int)] := (by simp [nI]); rw [e, List.map_append]; simpa using ho2)
            clear ho2 hg2
            go_wp2
            go_roundw
            case rel => exact ⟨j + 1, va2, vc2, by omega, by go_num, by rw [SV.out]; simp, by rw [SV.out], Lib.hid (by rw [SV.out]; simpa using O2.out), B2⟩
            case measure => simp [intOf]; omega
          | false =>
            have sl3 := sl2 rfl
            by_cases hgt : tz y < tz r
            · have hb2 : (bits .and .i64 (r : Int) p != 0) = false := by rw [BT.out]; exact hb
              have SV : Hid (stq L y (j + 1) = (Q ++ [y, r], true)) := Lib.hid (by rw [SU.out]; simp [pst, hb, hgt])
              have hgi : p < pr := GT.out.1 hgt
              clear hb SU BT
              clear hgt
              have AO1 : Hid ((wr.alloc (.cells #[.int .i64 (y : Int)] 2)).ownsRow w.heap.size 2 1 (.slice va Q.length vc) (Q.length) ((nI Q).map (Value.int .i64))) := Lib.hid (own_below OW.out ((Below.refl _ _).alloc (Nat.le_refl _) _))
              have AS1 : Hid (w.heap.size ≤ (wr.alloc (.cells #[.int .i64 (y : Int)] 2)).heap.size) := Lib.hid (by have := BL.out.size; simp; omega)
              have AN1 : Q.length ≤ 1000000 := by omega
              go_wp2_with (first | (go_at_call 114; refine (LR.out _).mono ?_; rintro e w' ⟨rfl, rfl⟩) | (at_builtin; refine wpList_append1 rfl _ _ rfl w.heap.size _ (Q.length) (nI Q) rfl AO1.out _ _ 1 rfl (World.cell?_alloc_new _ _ _ _) AN1 AS1.out ?_))
              clear AO1 AS1
              intro v1 w1 ho1 hg1
              obtain ⟨va1, vc1, rfl⟩ := ho1.shape
              have B1 := Lib.hid ((BL.out.alloc SZ.out _).grown hg1 (by have := SZ.out; simp; omega) (fun k hk => (OW.out.lt k hk).1))
              have O1 : Hid (w1.ownsRow w.heap.size 2 1 (.slice va1 (Q.length + 1) vc1) (Q.length + 1) ((nI (Q ++ [y])).map (Value.int .i64))) := Lib.hid (by rw [nI_app, List.map_append]; simpa [nI] using ho1)
              clear ho1 hg1
              have AO2 : Hid ((w1.alloc (.cells #[.int .i64 (r : Int)] 2)).ownsRow w.heap.size 2 1 (.slice va1 (Q.length + 1) vc1) (Q.length + 1) ((nI (Q ++ [y])).map (Value.int .i64))) := Lib.hid (own_below O1.out ((Below.refl _ _).alloc (Nat.le_refl _) _))
              have AS2 : Hid (w.heap.size ≤ (w1.alloc (.cells #[.int .i64 (r : Int)] 2)).heap.size) := Lib.hid (by have := B1.out.size; simp; omega)
              have AN2 : Q.length + 1 ≤ 1000000 := by omega
              go_wp2_with (first | (go_at_call 114; refine (LR.out _).mono ?_; rintro e w' ⟨rfl, rfl⟩) | (at_builtin; refine wpList_append1 rfl _ _ rfl w.heap.size _ (Q.length + 1) (nI (Q ++ [y])) rfl AO2.out _ _ 1 rfl (World.cell?_alloc_new _ _ _ _) AN2 AS2.out ?_))
              clear AO2 AS2
              intro v2 w2 ho2 hg2
              obtain ⟨va2, vc2, rfl⟩ := ho2.shape
              have B2 := Lib.hid ((B1.out.alloc B1.out.size _).grown hg2 (by have := B1.out.size; simp; omega) (fun k hk => (O1.out.lt k hk).1))
              have O2 : Hid (w2.ownsRow w.heap.size 2 1 (.slice va2 (Q.length + 1 + 1) vc2) (Q.length + 1 + 1) ((nI (Q ++ [y, r])).map (Value.int .i64))) := Lib.hid (by have e : nI (Q ++ [y, r]) = nI (Q ++ [y]) ++ [(r : Int)] := (by simp [nI]); rw [e, List.map_append]; simpa using ho2)
              clear ho2 hg2
              go_wp2
              go_roundw
              case rel => exact ⟨j + 1, va2, vc2, by omega, by go_num, by rw [SV.out]; simp, by rw [SV.out], Lib.hid (by rw [SV.out]; simpa using O2.out), B2⟩
              case measure => simp [intOf]; omega
            · have hb2 : (bits .and .i64 (r : Int) p != 0) = false := by rw [BT.out]; exact hb
              have SV : Hid (stq L y (j + 1) = (Q ++ [r], false)) := Lib.hid (by rw [SU.out]; simp [pst, hb, hgt])
              have hgi : ¬ p < pr := fun h => hgt (GT.out.2 h)
              clear hb SU BT
              clear hgt
              have AO1 : Hid ((wr.alloc (.cells #[.int .i64 (r : Int)] 2)).ownsRow w.heap.size 2 1 (.slice va Q.length vc) (Q.length) ((nI Q).map (Value.int .i64))) := Lib.hid (own_below OW.out ((Below.refl _ _).alloc (Nat.le_refl _) _))
              have AS1 : Hid (w.heap.size ≤ (wr.alloc (.cells #[.int .i64 (r : Int)] 2)).heap.size) := Lib.hid (by have := BL.out.size; simp; omega)
              have AN1 : Q.length ≤ 1000000 := by omega
              go_wp2_with (first | (go_at_call 114; refine (LR.out _).mono ?_; rintro e w' ⟨rfl, rfl⟩) | (at_builtin; refine wpList_append1 rfl _ _ rfl w.heap.size _ (Q.length) (nI Q) rfl AO1.out _ _ 1 rfl (World.cell?_alloc_new _ _ _ _) AN1 AS1.out ?_))
              clear AO1 AS1
              intro v2 w2 ho2 hg2
              obtain ⟨va2, vc2, rfl⟩ := ho2.shape
              have B2 := Lib.hid ((BL.out.alloc SZ.out _).grown hg2 (by have := SZ.out; simp; omega) (fun k hk => (OW.out.lt k hk).1))
              have O2 : Hid (w2.ownsRow w.heap.size 2 1 (.slice va2 (Q.length + 1) vc2) (Q.length + 1) ((nI (Q ++ [r])).map (Value.int .i64))) := Lib.hid (by have e : nI (Q ++ [r]) = nI Q ++ [(r : Int)] := (by simp [nI]); rw [e, List.map_append]; simpa using ho2)
              clear ho2 hg2
              go_wp2
              go_roundw
              case rel => exact ⟨j + 1, va2, vc2, by omega, by go_num, by rw [SV.out]; simp, by rw [SV.out], Lib.hid (by rw [SV.out]; simpa using O2.out), B2⟩
              case measure => simp [intOf]; omega
      · obtain rfl : j = n := by omega
        have SE : Hid (stq L y j = L.foldl (pst y) ([], false)) := Lib.hid (by unfold stq; rw [List.take_of_length_le (by rw [HN.out]; exact Nat.le_refl _)])
        obtain ⟨sl1, sl2⟩ := stq_len L y j (by rw [HN.out]; exact Nat.le_refl _)
        have PE : Hid (put L x = if (stq L y j).2 = true then (stq L y j).1 else (stq L y j).1 ++ [y]) := Lib.hid (by rw [E.out, SE.out]; rfl)
        have SZ := Lib.hid BL.out.size
        generalize stq L y j = st at *
        clear SE
        obtain ⟨Q, dn⟩ := st
        simp only [] at OW sl1 sl2 PE ⊢
        cases dn with
        | true =>
          have PE2 : Hid (put L x = Q) := Lib.hid (by rw [PE.out]; rfl)
          clear PE
          go_wp2
          go_ret
          exact ⟨_, rfl, by rw [PE2.out]; exact own_base OW.out hB, BL.out⟩
        | false =>
          have PE2 : Hid (put L x = Q ++ [y]) := Lib.hid (by rw [PE.out]; rfl)
          clear PE
          go_wp2_with (at_builtin; refine wpList_append1 rfl _ _ rfl w.heap.size _ Q.length (nI Q) rfl (own_below OW.out ((Below.refl _ _).alloc (Nat.le_refl _) _)) (y : Int) _ 1 rfl (World.cell?_alloc_new _ _ _ _) ?c1 ?c2 ?_)
          case c1 => omega
          case c2 => have := SZ.out; simp; omega
          intro v2 w2 ho2 hg2
          obtain ⟨va2, vc2, rfl⟩ := ho2.shape
          have B2 := Lib.hid ((BL.out.alloc SZ.out _).grown hg2 (by have := SZ.out; simp; omega) (fun k hk => (OW.out.lt k hk).1))
          have O2 : Hid (w2.ownsRow w.heap.size 2 1 (.slice va2 (Q.length + 1) vc2) (Q.length + 1) ((nI (Q ++ [y])).map (Value.int .i64))) := Lib.hid (by rw [nI_app, List.map_append]; simpa [nI] using ho2)
          clear ho2 hg2
          go_wp2
          go_ret
          exact ⟨_, rfl, by rw [PE2.out, List.length_append]; exact own_base O2.out hB, B2.out⟩
end Go.Proofs.YtdojblmffmefgaaDoor
