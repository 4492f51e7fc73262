/-
  Contracts: numberedRows, tracesOfZeros; KernelOf, both sides.
-/
import Derived.Test.YtdojblmffmefgaaDoorDKer
import Derived.Test.YtdojblmffmefgaaDoorDRank
namespace Go.Proofs.YtdojblmffmefgaaDoor
open Go.RowKit
set_option linter.unusedVariables false
set_option maxRecDepth 100000

theorem plainRows_at (s : Value) (L : List Nat) (w : World) (h : RdN w s L) (hl : L.length ≤ 200) :
    Calls Tryd.prog 104 #[s] w fun e w' => e = .returned (.slice (some ⟨w.heap.size, 0, none⟩) L.length L.length) ∧ w'.ownsRow w.heap.size 91 2 (.slice (some ⟨w.heap.size, 0, none⟩) L.length L.length) L.length (tc (fun i => (L.getD i 0, 0)) L.length) ∧ Below w.heap.size w w' := by
  obtain ⟨i0, hi, hz0, hz1, hz2⟩ := info_parts Tryd.infoT
  have H := Lib.hid h
  obtain ⟨a, cap, rfl, hm, hc⟩ := h
  generalize hR : (fun i => ((L.getD i 0, 0) : TR)) = R
  have HR : Hid (∀ i, R i = (L.getD i 0, 0)) := Lib.hid (fun i => by rw [← hR])
  generalize hn : L.length = n at *
  have HN := Lib.hid hn
  clear hR hn hc
  have t3 := Tryd.underlying91
  go_enter Tryd.func104, Tryd.ntmps104
  go_wp2_with (at_make; refine wpList_make_full _ rfl _ _ 95 rfl w.heap.size 91 i0 (.agg #[.int .i64 0, .int .i64 0]) 2 Tryd.underlying95 hi hz0 hz1 .i64 .i64 (n : Int) (n : Int) n rfl rfl rfl rfl (by rw [hz2]; omega) hm (Nat.le_refl _) ?_; intro w1 hown hgrow; rw [tc_made, ← upTo_zero R] at hown; have H1 := Lib.hid hown; have G1 := Lib.hid hgrow; clear hown hgrow)
  have B1 : Below w.heap.size w w1 := (Below.refl _ w).grown G1.out (Nat.le_refl _) (by intro k hk; cases hk)
  clear G1
  unfold maxLen at hm
  go_loopw [4, 5, 11] (fun _ _ c wr => ∃ j : Nat, j ≤ n ∧ c = .int .i64 j ∧ Hid (wr.ownsRow w.heap.size 91 2 (.slice (some ⟨w.heap.size, 0, none⟩) n n) n (tc (upTo R j) n)) ∧ Below w.heap.size w wr) (fun _ _ c _ => n - (intOf c).toNat)
  case atStart => exact ⟨0, by omega, rfl, H1, B1⟩
  case round =>
    clear H1 B1
    obtain ⟨j, hj, rfl, ho, hb⟩ := hrel
    by_cases hlt : j < n
    · have hlt' : (j : Int) < (n : Int) := by omega
      have RJ := H.out.below hb
      unfold RdN at RJ
      rw [HN.out] at RJ
      obtain ⟨_, _, e, _, hc⟩ := RJ
      cases e
      obtain ⟨b, off, rfl, hc2⟩ := hc.resolve_left (by omega)
      have c1 : wr.cell? ⟨b, off + j, none⟩ = some (.int .i64 ((L.getD j 0 : Nat) : Int)) := hc2 j hlt
      clear hc hc2
      have c2 := ho.out.cellAt (j * 2) (by omega)
      rw [tc_at0 _ _ _ hlt] at c2
      have f2 := ho.out.frozenAt (j * 2)
      have hst := ho.out.stored (j * 2) (.int .i64 ((L.getD j 0 : Nat) : Int))
      have ej : (L.getD j 0, (upTo R j j).2) = R j := by rw [HR.out]; simp [upTo]
      rw [tc_set0, ej, upTo_succ] at hst
      have HS := Lib.hid hst
      have BS := Lib.hid (hb.setCell (p := ⟨w.heap.size, j * 2, none⟩) (Nat.le_refl _) (.int .i64 ((L.getD j 0 : Nat) : Int)))
      clear hst ho ej
      generalize L.getD j 0 = x at *
      generalize (upTo R j j).1 = y at c2
      go_wp2
      go_roundw
      case rel => exact ⟨j + 1, by omega, by go_num, Lib.hid HS.out.1, BS.out⟩
      case measure => simp [intOf]; omega
    · obtain rfl : j = n := by omega
      have E : Hid (tc (upTo R j) j = tc R j) := Lib.hid (tc_congr fun i hi => by unfold upTo; rw [if_pos hi])
      go_wp2
      go_ret
      exact ⟨rfl, by rw [← E.out]; exact ho.out, hb⟩


/-- Rows with the traces 2^i, the first j. -/
def num (L : List Nat) (j : Nat) : Nat → TR := fun i => (L.getD i 0, if i < j then 2 ^ i else 0)
theorem num_zero (L : List Nat) : num L 0 = fun i => (L.getD i 0, 0) := by funext i; simp [num]
theorem num_succ (L : List Nat) (j : Nat) : (fun i => if i = j then ((num L j j).1, 2 ^ j) else num L j i) = num L (j + 1) := by
  funext i
  unfold num
  by_cases e : i = j
  · subst e; simp
  · by_cases h : i < j
    · rw [if_neg e, if_pos h, if_pos (by omega)]
    · rw [if_neg e, if_neg h, if_neg (by omega)]

theorem numberedRows_any (s : Value) (L : List Nat) (w : World) (h : RdN w s L) (hl : L.length ≤ 60) :
    Calls Tryd.prog 92 #[s] w fun e w' => ∃ u, e = .returned u ∧ w'.ownsRow w.heap.size 91 2 u L.length (tc (fun i => (L.getD i 0, 2 ^ i)) L.length) ∧ Below w.heap.size w w' := by
  have PR := Lib.hid (plainRows_at s L w h (by omega))
  have t3 := Tryd.underlying91
  clear h
  rw [← num_zero] at PR
  have FIN : Hid (tc (fun i => (L.getD i 0, 2 ^ i)) L.length = tc (num L L.length) L.length) := Lib.hid (tc_congr fun i hi => by unfold num; rw [if_pos hi])
  generalize hn : L.length = n at *
  clear hn
  go_enter Tryd.func92, Tryd.ntmps92
  go_wp2_with fail
  refine PR.out.mono ?_
  rintro e w1 ⟨rfl, o1, b1⟩
  have H1 := Lib.hid o1
  have B1 := b1
  clear PR o1 b1
  go_wp2
  go_loopw [4, 9] (fun _ c wr => ∃ j : Nat, j ≤ n ∧ c = .int .i64 j ∧ Hid (wr.ownsRow w.heap.size 91 2 (.slice (some ⟨w.heap.size, 0, none⟩) n n) n (tc (num L j) n)) ∧ Below w.heap.size w wr) (fun _ c _ => n - (intOf c).toNat)
  case atStart => exact ⟨0, by omega, rfl, H1, B1⟩
  case round =>
    clear H1 B1
    obtain ⟨j, hj, rfl, ho, hb⟩ := hrel
    by_cases hlt : j < n
    · have hlt' : (j : Int) < (n : Int) := by omega
      have c2 := ho.out.cellAt (j * 2 + 1) (by omega)
      rw [tc_at1 _ _ _ hlt] at c2
      have f2 := ho.out.frozenAt (j * 2 + 1)
      have hst := ho.out.stored (j * 2 + 1) (.int .i64 (wrap64 (2 ^ j)))
      rw [wrap_two j (by omega), tc_set1, num_succ] at hst
      rw [← wrap_two j (by omega)] at hst
      have HS := Lib.hid hst
      have BS := Lib.hid (hb.setCell (p := ⟨w.heap.size, j * 2 + 1, none⟩) (Nat.le_refl _) (.int .i64 (wrap64 (2 ^ j))))
      clear hst ho
      generalize (num L j j).2 = y at c2
      go_wp2
      go_roundw
      case rel => exact ⟨j + 1, by omega, by go_num, Lib.hid HS.out.1, BS.out⟩
      case measure => simp [intOf]; omega
    · obtain rfl : j = n := by omega
      go_wp2
      go_ret
      exact ⟨_, rfl, by rw [FIN.out]; exact ho.out, hb⟩

/-- The traces of the rows that are 0. -/
def tzs (R : Nat → TR) : Nat → List Nat
  | 0 => []
  | j + 1 => tzs R j ++ (if (R j).1 = 0 then [(R j).2] else [])
theorem tzs_len (R : Nat → TR) (n : Nat) : (tzs R n).length ≤ n := by
  induction n with
  | zero => exact Nat.le_refl _
  | succ n ih => rw [tzs]; split <;> simp <;> omega

set_option maxHeartbeats 1000000 in
theorem tracesOfZeros_any (v : Value) (n : Nat) (R : Nat → TR) (w : World) (hv : RdT w v n R) (hn : n ≤ 200) :
    Calls Tryd.prog 94 #[v] w (PutRes w.heap.size (tzs R n) w) := by
  have HV := Lib.hid hv
  obtain ⟨a, cap, rfl, _⟩ := hv
  have t3 := Tryd.underlying91
  go_enter Tryd.func94, Tryd.ntmps94
  go_wp2
  go_loopw [3, 5, 8] (fun o _ c wr => ∃ (j : Nat) (va : Option Addr) (vc : Nat), j ≤ n ∧ c = .int .i64 j ∧ o = .slice va (tzs R j).length vc ∧ Hid (wr.ownsRow w.heap.size 2 1 (.slice va (tzs R j).length vc) (tzs R j).length ((nI (tzs R j)).map (Value.int .i64))) ∧ Hid (Below w.heap.size w wr)) (fun _ _ c _ => n - (intOf c).toNat)
  case atStart => exact ⟨0, none, 0, by omega, rfl, rfl, Lib.hid (World.ownsRow_nil _ _ _ _), Lib.hid (Below.refl _ _)⟩
  case round =>
    obtain ⟨j, va, vc, hj, rfl, rfl, O, B⟩ := hrel
    have hlen := tzs_len R j
    by_cases hlt : j < n
    · have hlt' : (j : Int) < (n : Int) := by omega
      obtain ⟨b, rfl, c0, c1⟩ := (HV.out.up B.out).at hlt
      have E : Hid (tzs R (j + 1) = tzs R j ++ (if (R j).1 = 0 then [(R j).2] else [])) := Lib.hid rfl
      generalize R j = r at *
      generalize tzs R j = L at *
      have A := Lib.hid (own_below O.out ((Below.refl _ _).alloc (Nat.le_refl _) (.cells #[.int .i64 ((r.1 : Nat) : Int), .int .i64 ((r.2 : Nat) : Int)] 91)))
      have AB := Lib.hid (B.out.alloc B.out.size (.cells #[.int .i64 ((r.1 : Nat) : Int), .int .i64 ((r.2 : Nat) : Int)] 91))
      by_cases h0 : r.1 = 0
      · have hb : (((r.1 : Nat) : Int) == 0) = true := by rw [h0]; rfl
        have EQ : Hid (tzs R (j + 1) = L ++ [r.2]) := Lib.hid (by rw [E.out, if_pos h0])
        clear h0 E
        have A3 := Lib.hid (own_below A.out ((Below.refl _ _).alloc (Nat.le_refl _) (.cells #[.int .i64 ((r.2 : Nat) : Int)] 2)))
        have AB3 := Lib.hid (AB.out.alloc AB.out.size (.cells #[.int .i64 ((r.2 : Nat) : Int)] 2))
        have CN : Hid (((wr.alloc (.cells #[.int .i64 ((r.1 : Nat) : Int), .int .i64 ((r.2 : Nat) : Int)] 91)).alloc (.cells #[.int .i64 ((r.2 : Nat) : Int)] 2)).cell? ⟨wr.heap.size + 1, 0, none⟩ = some (.int .i64 ((r.2 : Nat) : Int))) := Lib.hid (by simp)
        go_wp2_with (at_builtin; refine wpList_append1 rfl _ _ rfl w.heap.size _ L.length (nI L) rfl A3.out _ _ 1 rfl CN.out ?c1 ?c2 ?_)
        case c1 => omega
        case c2 => exact AB3.out.size
        intro v' w2 ho hg
        obtain ⟨wa, wc, rfl⟩ := ho.shape
        have F1 := Lib.hid ho
        have F2 := Lib.hid (AB3.out.grown hg AB3.out.size (fun q hq => (A3.out.lt q hq).1))
        clear ho hg
        have ELN : Hid ((tzs R (j + 1)).length = L.length + 1) := Lib.hid (by rw [EQ.out]; simp)
        go_wp2
        go_roundw
        case rel => exact ⟨j + 1, wa, wc, by omega, by go_num, by rw [ELN.out], Lib.hid (by rw [ELN.out, EQ.out, ← nI_snoc, List.map_append]; exact F1.out), F2⟩
        case measure => simp [intOf]; omega
      · have hb : (((r.1 : Nat) : Int) == 0) = false := by rw [beq_eq_false_iff_ne]; omega
        have EQ : Hid (tzs R (j + 1) = L) := Lib.hid (by rw [E.out, if_neg h0, List.append_nil])
        clear h0 E
        go_wp2
        go_roundw
        case rel => exact ⟨j + 1, va, vc, by omega, by go_num, by rw [EQ.out], Lib.hid (by rw [EQ.out]; exact A.out), AB⟩
        case measure => simp [intOf]; omega
    · obtain rfl : j = n := by omega
      go_wp2
      go_ret
      exact ⟨_, rfl, O.out, B.out⟩

/-- The traces, as the plain texts have them. -/
theorem ktr_tzs (G : Nat → Nat) (n : Nat) : krunS G n = addN (fun _ => (0, 0)) (fun i => (G i, 2 ^ i)) n ∧ ktr G n = tzs (lft (fun _ => (0, 0)) (fun i => (G i, 2 ^ i))) n := by
  induction n with
  | zero => exact ⟨rfl, rfl⟩
  | succ n ih =>
    have e1 : krunS G (n + 1) = addN (fun _ => (0, 0)) (fun i => (G i, 2 ^ i)) (n + 1) := by rw [krunS, ih.1]; rfl
    refine ⟨e1, ?_⟩
    rw [ktr, tzs, ih.2, ih.1]
    rfl
end Go.Proofs.YtdojblmffmefgaaDoor
