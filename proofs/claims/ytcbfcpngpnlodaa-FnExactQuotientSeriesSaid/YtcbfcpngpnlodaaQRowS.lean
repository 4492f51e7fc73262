/-
  impl.seriesOfOne and spec.l07Series.
-/
import Derived.Test.YtcbfcpngpnlodaaQRow
import Derived.Test.YtcbfcpngpnlodaaQTwo
namespace Go.Proofs.Ytcbfcpngpnlodaa
open Go.RowKit
set_option linter.unusedVariables false
set_option maxRecDepth 100000

/-- A call that makes a row of a series. -/
def RowNew (d : Nat) (s : Nat → Int) (w : World) (e : Ending) (w' : World) : Prop := ∃ g, e = .returned (.slice (some ⟨g, 0, none⟩) (d + 1) (d + 1)) ∧ RowS w' w.heap.size g d (d + 1) s ∧ Below w.heap.size w w'

set_option maxHeartbeats 1000000 in
theorem seriesOfOne_any (d : Nat) (w : World) (hx : d ≤ 1000) : Calls Try.prog 80 #[.int .i64 d] w (RowNew d oneS w) := by
  obtain ⟨i0, hi, hz0, hz1, hz2⟩ := info_parts Try.info2
  go_enter Try.func80, Try.ntmps80
  go_wp2_with (at_make; refine wpList_make_full _ rfl _ _ 80 rfl w.heap.size 2 i0 (.int .i64 0) 1 Try.underlying80 hi hz0 hz1 .i64 .i64 ((d : Int) + 1) ((d : Int) + 1) (d + 1) rfl rfl (by omega) (by omega) (by rw [hz2]; omega) (by unfold maxLen; omega) (Nat.le_refl _) ?_; intro w1 hown hgrow; rw [made_list] at hown; have hc0 := own_cell hown 0 (by omega); have hf0 := hown.frozenAt 0; have H1 := Lib.hid hown; have G1 := Lib.hid hgrow; clear hown hgrow)
  have hst := (H1.out.stored 0 (.int .i64 1)).1
  rw [show (Value.int .i64 1) = (Value.int .i64) 1 from rfl, ← List.map_set, repS_one] at hst
  have B1 : Below w.heap.size w (w1.setCell ⟨w.heap.size, 0, none⟩ (.int .i64 1)) := ((Below.refl _ w).grown G1.out (Nat.le_refl _) (by intro k hk; cases hk)).setCell (Nat.le_refl _) _
  go_ret
  exact ⟨_, rfl, hst, B1⟩

set_option maxHeartbeats 4000000 in
theorem l07Series_any (v : Value) (n d : Nat) (G : Nat → Int) (w : World) (h : RdI w v n G) (hok : okPr G n) (hx : d ≤ 200) :
    Calls Try.prog 79 #[v, .int .i64 d] w (RowNew d (serS (fun i => (G i).toNat) n) w) := by
  obtain ⟨i0, hi, hz0, hz1, hz2⟩ := info_parts Try.info2
  have HR := Lib.hid (fun wx (hb : Below w.heap.size w wx) => h.below hb)
  have HP := Lib.hid hok.2
  have hn : n ≤ 16 := hok.1
  obtain ⟨va, vc, rfl⟩ : ∃ a c, v = .slice a n c := by obtain ⟨a, c, e, _⟩ := h; exact ⟨a, c, e⟩
  clear h hok
  go_enter Try.func79, Try.ntmps79
  go_wp2_with (at_make; refine wpList_make_full _ rfl _ _ 22 rfl w.heap.size 2 i0 (.int .i64 0) 1 Try.underlying22 hi hz0 hz1 .i64 .i64 ((d : Int) + 1) ((d : Int) + 1) (d + 1) rfl rfl (by omega) (by omega) (by rw [hz2]; omega) (by unfold maxLen; omega) (Nat.le_refl _) ?_; intro w1 hown hgrow; rw [made_list] at hown; have hc0 := own_cell hown 0 (by omega); have hf0 := hown.frozenAt 0; have H1 := Lib.hid hown; have G1 := Lib.hid hgrow; clear hown hgrow)
  have hst := (H1.out.stored 0 (.int .i64 1)).1
  rw [show (Value.int .i64 1) = (Value.int .i64) 1 from rfl, ← List.map_set, repS_one] at hst
  have B1 : Below w.heap.size w (w1.setCell ⟨w.heap.size, 0, none⟩ (.int .i64 1)) := ((Below.refl _ w).grown G1.out (Nat.le_refl _) (by intro k hk; cases hk)).setCell (Nat.le_refl _) _
  have O1 : Hid (RowS (w1.setCell ⟨w.heap.size, 0, none⟩ (.int .i64 1)) w.heap.size w.heap.size d (d + 1) (serS (fun i => (G i).toNat) 0)) := Lib.hid hst
  clear hst hc0 hf0 H1 G1
  generalize w1.setCell ⟨w.heap.size, 0, none⟩ (.int .i64 1) = w2 at O1 B1 ⊢
  go_loopw [6, 7, 8, 9] (fun c _ _ _ wr => ∃ j : Nat, j ≤ n ∧ c = .int .i64 j ∧ Hid (RowS wr w.heap.size w.heap.size d (d + 1) (serS (fun i => (G i).toNat) j)) ∧ Below w.heap.size w wr) (fun c _ _ _ _ => n - (intOf c).toNat)
  case atStart => exact ⟨0, by omega, rfl, O1, B1⟩
  case round =>
    clear O1 B1
    obtain ⟨j, hj, rfl, ho, hb⟩ := hrel
    by_cases hlt : j < n
    · have hlt' : (j : Int) < (n : Int) := by omega
      have hp := HP.out j hlt
      unfold stepP at hp
      obtain ⟨h, hh⟩ := Int.eq_ofNat_of_zero_le hp.1
      have hh10 : h ≤ 10 := by omega
      have E : Hid (serS (fun i => (G i).toNat) (j + 1) = mulI (stS j) (serS (fun i => (G i).toNat) j) h) := Lib.hid (by rw [serS, hh, Int.toNat_natCast])
      have HC : Hid (∃ b off, va = some ⟨b, off, none⟩ ∧ ∀ wx, Below w.heap.size w wx → wx.cell? ⟨b, off + j, none⟩ = some (.int .i64 (h : Int))) := Lib.hid (by
        obtain ⟨a, c, e, hm, hc⟩ := HR.out w (Below.refl _ _)
        cases e
        obtain ⟨b, off, rfl, hc'⟩ := hc.resolve_left (by omega)
        have h1 := hc' j hlt
        rw [hh] at h1
        exact ⟨b, off, rfl, fun wx hx => (hx.cell (p := ⟨b, off + j, none⟩) (World.block_lt_of_cell? w _ h1)).trans h1⟩)
      obtain ⟨b, off, rfl, hc⟩ := HC.out
      have HCL := Lib.hid hc
      have S1 : Hid (wrap64 (wrap64 (2 ^ (j + 1)) - 1) = ((stS j : Nat) : Int)) := Lib.hid (spike_num (j + 1) (by omega))
      have SP := stS_pos j
      have S2 : stS j ≤ 65536 := by
        have : 2 ^ (j + 1) ≤ 2 ^ 16 := Nat.pow_le_pow_right (by decide) (by omega)
        unfold stS; omega
      generalize stS j = st at *
      generalize serS (fun i => (G i).toNat) j = s at *
      have hj16 : (j : Int) + 1 ≤ 16 := by omega
      clear hc HC hh hp
      go_wp2
      obtain ⟨wo, hwo⟩ : ∃ wo : World, wo = wr := ⟨_, rfl⟩
      subst hwo
      go_loopw [7, 8, 9] (fun W c _ wr => ∃ k : Nat, k ≤ h ∧ c = .int .i64 k ∧ W = .int .i64 ((st * 2 ^ k : Nat) : Int) ∧ Hid (RowS wr w.heap.size w.heap.size d (d + 1) (mulI st s k)) ∧ Below w.heap.size w wr) (fun _ c _ _ => h - (intOf c).toNat)
      case atStart => exact ⟨0, by omega, rfl, by rw [S1.out]; simp, ho, hb⟩
      case round =>
        clear ho hb
        obtain ⟨k, hk, rfl, rfl, ho, hb⟩ := hrel
        have c0 := HCL.out wr hb
        have hpow : 2 ^ k ≤ 2 ^ 10 := Nat.pow_le_pow_right (by decide) (by omega)
        have hpp : 0 < 2 ^ k := Nat.pow_pos (by decide)
        have hbig : st * 2 ^ k ≤ 65536 * 1024 := Nat.mul_le_mul S2 hpow
        have hpos : 0 < st * 2 ^ k := Nat.mul_pos SP hpp
        by_cases hkh : k < h
        · have hkh' : (k : Int) < (h : Int) := by omega
          by_cases hwd : st * 2 ^ k ≤ d
          · have EN : Hid (mulI st s (k + 1) = mulS (st * 2 ^ k) (mulI st s k)) := Lib.hid rfl
            have EP : Hid (st * 2 ^ (k + 1) = 2 * (st * 2 ^ k)) := Lib.hid (by rw [Nat.pow_succ, ← Nat.mul_assoc, Nat.mul_comm])
            clear hpow hpp
            generalize st * 2 ^ k = p at *
            generalize mulI st s k = t at *
            have hwd' : (p : Int) ≤ (d : Int) := by omega
            go_wp2
            obtain ⟨wo2, hwo2⟩ : ∃ wo2 : World, wo2 = wr := ⟨_, rfl⟩
            subst hwo2
            go_loopw [9] (fun c wr => ∃ m : Nat, p + m ≤ d + 1 ∧ c = .int .i64 ((p : Int) + (m : Int) - 1) ∧ Hid (RowS wr w.heap.size w.heap.size d (d + 1) (midD 1 p t (p + m))) ∧ Below w.heap.size w wr) (fun c _ => (intOf c + 1).toNat)
            case atStart => exact ⟨d + 1 - p, by omega, by go_num, Lib.hid (ho.out.congr fun n hn => by unfold midD; rw [if_neg (by omega)]), hb⟩
            case round =>
              clear ho hb
              obtain ⟨m, hm, rfl, ho, hb⟩ := hrel
              cases m with
              | zero =>
                have F1 : Hid (RowS wr w.heap.size w.heap.size d (d + 1) (mulI st s (k + 1))) := Lib.hid (ho.out.congr fun n hn => by rw [EN.out]; exact midD_mul p t n)
                have hlt' : ¬ (p : Int) ≤ (p : Int) + ((0 : Nat) : Int) - 1 := by omega
                clear ho
                go_wp2
                go_roundw
                case rel => exact ⟨k + 1, by omega, by go_num, by rw [EP.out]; go_num, F1, hb⟩
                case measure => simp [intOf]; omega
              | succ m =>
                have e0 : (p : Int) + ((m + 1 : Nat) : Int) - 1 = (p : Int) + (m : Int) := by omega
                rw [e0]
                clear e0
                have c1 := ho.out.cell (p + m) (by omega)
                have c2 := ho.out.cell m (by omega)
                have f1 := World.ownsRow.frozenAt ho.out (p + m)
                have e1 : midD 1 p t (p + (m + 1)) (p + m) = t (p + m) := if_neg (by omega)
                have e2 : midD 1 p t (p + (m + 1)) m = t m := if_neg (by omega)
                rw [e1] at c1
                rw [e2] at c2
                have hst : Hid (RowS (wr.setCell ⟨w.heap.size, p + m, none⟩ (.int .i64 (wrap64 (wrap64 (t (p + m)) + wrap64 (t m))))) w.heap.size w.heap.size d (d + 1) (midD 1 p t (p + m))) := Lib.hid (midD_step ho.out (by omega) (by rw [wrap_wrap_add]; congr 1; omega))
                have hb2 := Lib.hid ((hb.setCell (p := ⟨w.heap.size, p + m, none⟩) (Nat.le_refl _) (.int .i64 (wrap64 (wrap64 (t (p + m)) + wrap64 (t m))))).drew)
                clear ho hb e1 e2
                generalize wrap64 (t (p + m)) = x at *
                generalize wrap64 (t m) = y at *
                have hlt' : (p : Int) + (m : Int) < (d : Int) + 1 := by omega
                have hge : (p : Int) ≤ (p : Int) + (m : Int) := by omega
                have hlt2 : (m : Int) < (d : Int) + 1 := by omega
                go_wp2
                go_region
                go_wp2
                go_roundw
                case rel => exact ⟨m, by omega, by go_num, hst, hb2.out⟩
                case measure => simp [intOf]; omega
          · have hwd' : ¬ (((st * 2 ^ k : Nat)) : Int) ≤ (d : Int) := by omega
            have F1 : Hid (RowS wr w.heap.size w.heap.size d (d + 1) (mulI st s h)) := Lib.hid (ho.out.congr fun q hq => (mulI_past s h (by omega) (fun i h1 h2 => by
              have : 2 ^ k ≤ 2 ^ i := Nat.pow_le_pow_right (by decide) h1
              have := Nat.mul_le_mul_left st this
              omega) q hq).symm)
            clear ho hpow hpp
            generalize ((st * 2 ^ k : Nat) : Int) = p at *
            go_wp2
            go_roundw
            case rel => exact ⟨j + 1, by omega, by go_num, by rw [E.out]; exact F1, hb⟩
            case measure => simp [intOf]; omega
        · have hkh' : ¬ (k : Int) < (h : Int) := by omega
          obtain rfl : k = h := by omega
          clear hpow hpp
          generalize ((st * 2 ^ k : Nat) : Int) = p at *
          go_wp2
          go_roundw
          case rel => exact ⟨j + 1, by omega, by go_num, by rw [E.out]; exact ho, hb⟩
          case measure => simp [intOf]; omega
    · have hlt' : ¬ (j : Int) < (n : Int) := by omega
      obtain rfl : j = n := by omega
      go_wp2
      go_ret
      exact ⟨_, rfl, ho.out, hb⟩
end Go.Proofs.Ytcbfcpngpnlodaa
