/-
  spec.l07Closure: sweeps over a row of 26 numbers.
-/
import Derived.Test.YtcbfcpngpnlodaaQSwp
import Derived.Test.YtcbfcpngpnlodaaQTwo
namespace Go.Proofs.Ytcbfcpngpnlodaa
open Go.RowKit
set_option linter.unusedVariables false
set_option maxRecDepth 100000

/-- The row of 26 numbers in block g. -/
def Row26 (w : World) (B g : Nat) (F : Nat → Int) : Prop := w.ownsRow B 2 1 (.slice (some ⟨g, 0, none⟩) 26 26) 26 ((lstF 26 F).map (Value.int .i64))
theorem Row26.cell {w : World} {B g : Nat} {F : Nat → Int} (h : Row26 w B g F) (k : Nat) (hk : k < 26) : w.cell? ⟨g, k, none⟩ = some (.int .i64 (F k)) := by
  rw [World.ownsRow.cellAt h k (by omega), List.getElem?_map, lstF_at 26 F k hk]
  rfl
theorem Row26.set {w : World} {B g : Nat} {F : Nat → Int} (h : Row26 w B g F) (k : Nat) (x : Int) (hk : k < 26) : Row26 (w.setCell ⟨g, k, none⟩ (.int .i64 x)) B g (updF F k x) := by
  have h1 := (World.ownsRow.stored h k (.int .i64 x)).1
  rw [← List.map_set] at h1
  have e : (lstF 26 F).set k x = lstF 26 (updF F k x) := by
    apply List.ext_getElem
    · simp [lstF]
    · intro i h2 h3
      rw [List.getElem_set]
      simp only [lstF, List.getElem_map, List.getElem_range]
      unfold updF
      by_cases e : k = i
      · rw [if_pos e, if_pos e.symm]
      · rw [if_neg e, if_neg (fun h => e h.symm)]
  rw [e] at h1
  exact h1
/-- The sum of the numbers, out of the world. -/
def potW (w : World) (g : Nat) : Nat := potF (fun k => match w.cell? ⟨g, k, none⟩ with | some (.int _ z) => z | _ => 0) 26
theorem potW_eq {w : World} {B g : Nat} {F : Nat → Int} (h : Row26 w B g F) : potW w g = potF F 26 := potF_congr 26 fun k hk => by rw [h.cell k hk]
/-- The copy into a row of zeros. -/
theorem pad_splice26 (n : Nat) (G : Nat → Int) (h : n ≤ 26) : splice ((lstF 26 zeroF).map (Value.int .i64)) 0 ((lstF n G).map (Value.int .i64)) = (lstF 26 (padF n G)).map (Value.int .i64) := by
  unfold splice
  rw [List.take_zero, List.nil_append, Nat.zero_add, List.length_map, lstF_len]
  rw [← List.map_drop, ← List.map_append]
  congr 1
  apply List.ext_getElem?
  intro i
  by_cases hi : i < 26
  · rw [lstF_at 26 _ i hi]
    unfold padF
    by_cases hn : i < n
    · rw [List.getElem?_append_left (by rw [lstF_len]; exact hn), lstF_at n G i hn, if_pos hn]
    · rw [List.getElem?_append_right (by rw [lstF_len]; omega), lstF_len, List.getElem?_drop, if_neg hn, show n + (i - n) = i by omega, lstF_at 26 _ i hi]
      rfl
  · rw [List.getElem?_eq_none (by rw [List.length_append, lstF_len, List.length_drop, lstF_len]; omega), List.getElem?_eq_none (by rw [lstF_len]; omega)]
theorem made26 : (madeCells (Value.cells (.int .i64 0)) (26 * 1)).toList = (lstF 26 zeroF).map (Value.int .i64) := by
  have := toList_madeCells_one (.int .i64 0) 26
  rw [Nat.mul_one]
  exact this
theorem row_of_block {w : World} {B g : Nat} {xs : List Value} (hb : B ≤ g) (hx : xs.length = 26) (h : w.heap[g]? = some (.cells xs.toArray 2 (0, 0))) : w.ownsRow B 2 1 (.slice (some ⟨g, 0, none⟩) 26 26) 26 xs :=
  ⟨by rw [hx], .inr ⟨g, 26, xs.toArray, rfl, hb, h, Nat.le_refl _, by unfold maxLen; omega, by simp [hx], by rw [List.toList_toArray, Nat.mul_one, List.take_of_length_le (by omega)]⟩⟩

def bNat : Value → Nat
  | .bool true => 1
  | _ => 0
/-- What l07Closure answers. -/
def ClsPost (n : Nat) (G : Nat → Int) (w : World) (e : Ending) (w' : World) : Prop :=
  ∃ F u, e = .returned u ∧ SInv (padF n G) F ∧ ClosedN 26 F ∧ w'.ownsRow w.heap.size 2 1 u (trim (lstF 26 F)).length ((trim (lstF 26 F)).map (Value.int .i64)) ∧ Below w.heap.size w w'

set_option maxHeartbeats 4000000 in
theorem l07Closure_any (v : Value) (n : Nat) (G : Nat → Int) (w : World) (h : RdI w v n G) (hok : okPr G n) :
    Calls Try.prog 58 #[v] w (ClsPost n G w) := by
  obtain ⟨i0, hi, hz0, hz1, hz2⟩ := info_parts Try.info2
  have hn : n ≤ 16 := hok.1
  have SI := Lib.hid (SInv.start hok (fun k => padF_nonneg hok k))
  have HSP := Lib.hid (pad_splice26 n G (by omega))
  obtain ⟨a, cap, rfl, hm, ha⟩ := h
  have HA := Lib.hid ha
  clear ha hok hm
  have HLL : Hid (((lstF n G).map (Value.int .i64)).length = n) := Lib.hid (by rw [List.length_map, lstF_len])
  have HCN : Hid (((lstF n G).map (Value.int .i64)).length = Nat.min n 26) := Lib.hid (by rw [HLL.out]; exact (Nat.min_eq_left (by omega)).symm)
  have HC : Hid (∀ w2 : World, Below w.heap.size w w2 → (0 < ((lstF n G).map (Value.int .i64)).length → ∃ ad, a = some ad ∧ ∀ j v, ((lstF n G).map (Value.int .i64))[j]? = some v → w2.cell? (ad.add j) = some v)) := by
    refine Lib.hid fun w2 hb hp => ?_
    rw [HLL.out] at hp
    obtain ⟨b, off, rfl, hc⟩ := HA.out.resolve_left (by omega)
    refine ⟨_, rfl, fun j v hv => ?_⟩
    rw [Addr.add_mid]
    have hj : j < n := by
      have := (List.getElem?_eq_some_iff.1 hv).1
      rw [HLL.out] at this
      exact this
    rw [List.getElem?_map, lstF_at n G j hj] at hv
    have h1 := hc j hj
    have hbl := World.block_lt_of_cell? w _ h1
    rw [← Option.some.inj hv]
    exact (hb.cell (p := ⟨b, off + j, none⟩) hbl).trans h1
  go_enter Try.func58, Try.ntmps58
  go_upto_region 2 with (at_make; refine wpList_make_full _ rfl _ _ 22 rfl w.heap.size 2 i0 (.int .i64 0) 1 Try.underlying22 hi hz0 hz1 .i64 .i64 26 26 26 rfl rfl (by omega) (by omega) (by rw [hz2]; omega) (by unfold maxLen; omega) (Nat.le_refl _) ?_; intro w1 hown hgrow; rw [made26] at hown; have H1 := Lib.hid hown; have G1 := Lib.hid hgrow; clear hown hgrow)
  have B1 : Hid (Below w.heap.size w w1) := Lib.hid ((Below.refl _ w).grown G1.out (Nat.le_refl _) (by intro k hk; cases hk))
  have HNEW : Hid (w1.heap[w.heap.size]? = some (.cells ((lstF 26 zeroF).map (Value.int .i64)).toArray 2 (0, 0))) := Lib.hid (by
    rcases H1.out.2 with ⟨h0, _⟩ | ⟨g, cp, cur, e, _, hg, _, _, hs, ht⟩
    · cases h0
    · cases e
      rw [hg]
      have : cur.toList = (lstF 26 zeroF).map (Value.int .i64) := by
        rw [← ht, List.take_of_length_le (by rw [Array.length_toList, hs]; decide)]
      rw [← this, Array.toArray_toList])
  have H4 : Hid (0 < ((lstF n G).map (Value.int .i64)).length → (some (⟨w.heap.size, 0, none⟩ : Addr)) = some ⟨w.heap.size, 0, none⟩ ∧ ∃ ad, a = some ad ∧ ∀ j v, ((lstF n G).map (Value.int .i64))[j]? = some v → w1.cell? (ad.add j) = some v) := Lib.hid fun hp => ⟨rfl, HC.out _ B1.out hp⟩
  have H5 : Hid (0 + ((lstF n G).map (Value.int .i64)).length ≤ ((lstF 26 zeroF).map (Value.int .i64)).length) := Lib.hid (by rw [HLL.out, List.length_map, lstF_len]; omega)
  have H6 : Hid (∀ u ∈ (lstF n G).map (Value.int .i64), u.oneCell' = true) := Lib.hid (by intro u hu; obtain ⟨z, _, rfl⟩ := List.mem_map.1 hu; rfl)
  clear H1 G1 HA
  go_upto_region 3 with (refine wpList_copy_splice rfl _ _ 22 22 rfl 2 Try.underlying22 (by kernel_rfl) _ _ 26 26 n cap rfl rfl w.heap.size 0 ((lstF 26 zeroF).map (Value.int .i64)) 2 HNEW.out ((lstF n G).map (Value.int .i64)) HCN.out H4.out H5.out H6.out w.heap.size _ B1.out (Nat.le_refl _) ?_; intro w3 hg3 hb3; rw [HSP.out] at hg3; have R0 : Hid (Row26 w3 w.heap.size w.heap.size (padF n G)) := Lib.hid (row_of_block (Nat.le_refl _) (by rw [List.length_map, lstF_len]) hg3); have B3 := Lib.hid hb3; clear hg3 hb3)
  clear HNEW H4 H5 H6 HC HCN HLL HSP B1
  go_wp2_with fail
  go_loopw [4, 5, 6, 7] (fun c _ _ _ wr => ∃ (F : Nat → Int) (b : Bool), c = .bool b ∧ Hid (SInv (padF n G) F) ∧ Hid (b = false → ClosedN 26 F) ∧ Hid (Row26 wr w.heap.size w.heap.size F) ∧ Hid (Below w.heap.size w wr)) (fun c _ _ _ wr => 2 * (260 - potW wr w.heap.size) + bNat c)
  case atStart => exact ⟨padF n G, true, rfl, SI, Lib.hid (fun h => by cases h), R0, B3⟩
  case round =>
    clear SI R0 B3
    obtain ⟨F, b, rfl, hS, hC, hR, hB⟩ := hrel
    cases b with
    | false =>
      have T := Lib.hid (l07Trim_any (lstF 26 F) w.heap.size _ wr (by rw [lstF_len]; exact hR.out) (by rw [lstF_len]; decide))
      go_wp2_with fail
      refine T.out.mono ?_
      rintro e w' ⟨u, rfl, ho, hb⟩
      go_wp2_with fail
      go_ret
      exact ⟨F, u, rfl, hS.out, hC.out (by trivial), own_base ho hB.out.size, below_one hB.out hb⟩
    | true =>
      have HP : Hid (potW wr w.heap.size = potF F 26) := Lib.hid (potW_eq hR.out)
      have S0 : Hid (Swept F F false 0 0) := Lib.hid (Swept.start F)
      clear hC
      go_wp2_with fail
      obtain ⟨wo, hwo⟩ : ∃ wo : World, wo = wr := ⟨_, rfl⟩
      subst hwo
      go_loopw [4, 5, 6, 7] (fun c i _ _ wr => ∃ (F' : Nat → Int) (b : Bool) (I : Nat), I ≤ 26 ∧ i = .int .i64 ((I : Int) + 1) ∧ c = .bool b ∧ Hid (SInv (padF n G) F') ∧ Hid (Swept F F' b I 0) ∧ Hid (Row26 wr w.heap.size w.heap.size F') ∧ Hid (Below w.heap.size w wr)) (fun _ i _ _ _ => (27 - intOf i).toNat)
      case atStart => exact ⟨F, false, 0, by omega, by simp, rfl, hS, S0, hR, hB⟩
      case round =>
        clear hS hR hB S0
        obtain ⟨F1, b, I, hI, rfl, rfl, hS, hW, hR, hB⟩ := hrel
        by_cases hI26 : I < 26
        · have hc : (I : Int) + 1 ≤ 26 := by omega
          go_wp2_with fail
          obtain ⟨wo2, hwo2⟩ : ∃ wo2 : World, wo2 = wr := ⟨_, rfl⟩
          subst hwo2
          go_loopw [4, 6, 7] (fun c j _ wr => ∃ (F' : Nat → Int) (b : Bool) (J : Nat), J ≤ 26 ∧ j = .int .i64 ((J : Int) + 1) ∧ c = .bool b ∧ Hid (SInv (padF n G) F') ∧ Hid (Swept F F' b I J) ∧ Hid (Row26 wr w.heap.size w.heap.size F') ∧ Hid (Below w.heap.size w wr)) (fun _ j _ _ => (28 - intOf j).toNat)
          case atStart => exact ⟨F1, b, 0, by omega, by simp, rfl, hS, hW, hR, hB⟩
          case round =>
            clear hS hR hB hW
            obtain ⟨F2, b2, J, hJ, rfl, rfl, hS, hW, hR, hB⟩ := hrel
            by_cases hIJ : I + J + 1 < 26
            · have hd : (I : Int) + 1 + ((J : Int) + 1) ≤ 26 := by omega
              have c1 := hR.out.cell J (by omega)
              have c2 := hR.out.cell I (by omega)
              have c3 := hR.out.cell (I + J + 1) hIJ
              have f1 := World.ownsRow.frozenAt hR.out (I + J + 1)
              have t1 := hS.out.ten J (by omega)
              have t2 := hS.out.ten I (by omega)
              have HQ : Hid (reqF F2 I J = min (F2 J) (F2 I - ((J : Int) + 1))) := Lib.hid rfl
              have HX : Hid (F2 (I + J + 1) = F2 (I + J + 1)) := Lib.hid rfl
              by_cases hraise : F2 (I + J + 1) < reqF F2 I J
              · have S2 := Lib.hid (hS.out.raise hraise hIJ)
                have W2 := Lib.hid (hW.out.raise hS.out hraise hIJ)
                have R2 := Lib.hid (hR.out.set (I + J + 1) (reqF F2 I J) hIJ)
                have B2 : Hid (Below w.heap.size w (wr.setCell ⟨w.heap.size, I + J + 1, none⟩ (.int .i64 (reqF F2 I J)))) := Lib.hid (hB.out.setCell (p := ⟨w.heap.size, I + J + 1, none⟩) (Nat.le_refl _) _)
                have e0 : I + J + 1 = I + 1 + J := by omega
                rw [e0] at c3 f1 S2 W2 R2 B2 hraise hIJ
                generalize reqF F2 I J = m at *
                generalize F2 (I + 1 + J) = x at *
                generalize F2 J = y at *
                generalize F2 I = z0 at *
                obtain ⟨z, hz⟩ : ∃ z, z0 - ((J : Int) + 1) = z := ⟨_, rfl⟩
                have e1 : wrap64 (z0 - ((J : Int) + 1)) = z := by rw [← hz]; unfold wrap64; omega
                have e2 : IntKind.i64.wrap (z0 - ((J : Int) + 1)) = z := by rw [← hz, IntKind.wrap_i64]; omega
                have hQ := HQ.out
                rw [hz] at hQ
                clear hz HQ HX t1 t2 e0
                rcases (show (z < y ∧ m = z) ∨ (¬ z < y ∧ m = y) by omega) with ⟨g1, rfl⟩ | ⟨g1, rfl⟩
                all_goals
                  clear hQ
                  go_wp2
                  go_quiet (fail)
                  go_wp2_with fail
                  go_roundw
                  case rel => exact ⟨updF F2 (I + 1 + J) _, true, J + 1, by omega, by go_num, rfl, S2, W2, R2, Lib.hid ⟨B2.out.os, B2.out.tape, B2.out.output, B2.out.size, B2.out.block⟩⟩
                  case measure => simp [intOf]; omega
              · have W2 := Lib.hid (hW.out.keep (Int.not_lt.1 hraise))
                have e0 : I + J + 1 = I + 1 + J := by omega
                rw [e0] at c3 hraise hIJ
                generalize reqF F2 I J = m at *
                generalize F2 (I + 1 + J) = x at *
                generalize F2 J = y at *
                generalize F2 I = z0 at *
                obtain ⟨z, hz⟩ : ∃ z, z0 - ((J : Int) + 1) = z := ⟨_, rfl⟩
                have e1 : wrap64 (z0 - ((J : Int) + 1)) = z := by rw [← hz]; unfold wrap64; omega
                have e2 : IntKind.i64.wrap (z0 - ((J : Int) + 1)) = z := by rw [← hz, IntKind.wrap_i64]; omega
                have hQ := HQ.out
                rw [hz] at hQ
                clear hz HQ HX t1 t2 e0
                rcases (show (z < y ∧ m = z) ∨ (¬ z < y ∧ m = y) by omega) with ⟨g1, rfl⟩ | ⟨g1, rfl⟩
                all_goals
                  clear hQ
                  go_wp2
                  go_quiet (fail)
                  go_wp2_with fail
                  go_roundw
                  case rel => exact ⟨F2, b2, J + 1, by omega, by go_num, rfl, hS, W2, hR, Lib.hid ⟨hB.out.os, hB.out.tape, hB.out.output, hB.out.size, hB.out.block⟩⟩
                  case measure => simp [intOf]; omega
            · have hd : ¬ (I : Int) + 1 + ((J : Int) + 1) ≤ 26 := by omega
              have W2 := Lib.hid (hW.out.row hIJ)
              clear hW
              go_wp2_with fail
              go_roundw
              case rel => exact ⟨F2, b2, I + 1, by omega, by go_num, rfl, hS, W2, hR, hB⟩
              case measure => simp [intOf]; omega
        · have hc : ¬ (I : Int) + 1 ≤ 26 := by omega
          obtain rfl : I = 26 := by omega
          have HP2 : Hid (potW wr w.heap.size = potF F1 26) := Lib.hid (potW_eq hR.out)
          have HL : Hid (potF F1 26 ≤ 260) := Lib.hid (potF_le F1 26 (fun k hk => (hS.out.ten k hk).2))
          go_wp2_with fail
          go_roundw
          case rel => exact ⟨F1, b, rfl, hS, Lib.hid (fun e => by subst e; exact hW.out.closed.2), hR, hB⟩
          case measure =>
            rw [HP.out, HP2.out]
            have := HL.out
            cases b with
            | true => have := hW.out.yes rfl; simp [bNat]; omega
            | false => have := hW.out.closed.1; rw [this]; simp [bNat]
end Go.Proofs.Ytcbfcpngpnlodaa
