/-
  laws.likeInts, laws.matrix9; a code that came in.
-/
import Derived.Test.YtdojblmffmefgaaDoorDSrc
import Derived.Test.YtdojblmffmefgaaDoorMLaw
namespace Go.Proofs.YtdojblmffmefgaaDoor
open Go.RowKit
set_option linter.unusedVariables false
set_option maxRecDepth 100000

theorem u8_bounds {n : Int} (h : (Lit.int .u8 n).wf = true) : 0 ≤ n ∧ n ≤ 255 := by
  simpa [Lit.wf, IntKind.min, IntKind.max, IntKind.signed, IntKind.bits] using h
theorem IsRow.code {w : World} {a : Option Addr} {n cap : Nat} {zs : List Int} (h : IsRow .u8 w a n cap zs) : Code w w.heap.size a n ∧ n ≤ maxLen := by
  rcases h with ⟨rfl, rfl, rfl, _⟩ | ⟨x, rfl, h1, h2, h3, h4, h5⟩
  · exact ⟨.inl rfl, Nat.zero_le _⟩
  · refine ⟨?_, Nat.le_trans h1 h2⟩
    by_cases h0 : n = 0
    · exact .inl h0
    · obtain ⟨b, off, spot⟩ := x
      have hc := h4 0 (by omega)
      have hs : spot = none := by simpa [Addr.add] using World.cell?_spot hc
      subst hs
      have hcell : ∀ i, i < n → w.cell? ⟨b, off + i, none⟩ = some (.int .u8 (zs.getD i 0)) := by
        intro i hi
        have h6 := h4 i (by omega)
        have e : (⟨b, off, none⟩ : Addr).add i = ⟨b, off + i, none⟩ := by
          by_cases h7 : i = 0
          · subst h7; simp [Addr.add]
          · simp [Addr.add, h7]
        rw [← e]
        exact h6
      refine .inr ⟨b, off, rfl, World.block_lt_of_cell? w _ (hcell 0 (by omega)), fun i hi => ⟨zs.getD i 0, ?_, ?_, hcell i hi⟩⟩
      all_goals
        have hm : zs.getD i 0 ∈ zs := by
          rw [List.getD_eq_getElem?_getD, List.getElem?_eq_getElem (by omega)]
          exact List.getElem_mem _
        have h8 := u8_bounds (h5 _ hm)
        omega

theorem likeInts_same (va vb : Value) (n : Nat) (G : Nat → Int) (w : World) (ha : RdI w va n G) (hb : RdI w vb n G) :
    Calls Tryd.prog 58 #[va, vb] w fun e w' => e = .returned (.bool true) ∧ ∃ q, w' = w.drewN q := by
  obtain ⟨aa, capa, rfl, hm, ha⟩ := ha
  obtain ⟨ab, capb, rfl, _, hb⟩ := hb
  unfold maxLen at hm
  by_cases h0 : n = 0
  · subst h0
    clear ha hb
    go_enter Tryd.func58, Tryd.ntmps58
    go_wp2
    refine wp_loop_rounds 1 ?_
    rw [rounds_succ]
    go_wp2
    go_ret
    exact ⟨rfl, 0, rfl⟩
  · obtain ⟨ba, offa, rfl, hca⟩ := ha.resolve_left h0
    obtain ⟨bb, offb, rfl, hcb⟩ := hb.resolve_left h0
    clear ha hb
    have hpos : 0 < n := by omega
    have HA := Lib.hid hca
    have HB := Lib.hid hcb
    clear hca hcb h0
    go_enter Tryd.func58, Tryd.ntmps58
    go_wp2
    go_loopw [5] (fun i wr => ∃ k q : Nat, k ≤ n ∧ i = .int .i64 k ∧ Hid (wr = w.drewN q)) (fun i _ => n - (intOf i).toNat)
    case atStart => exact ⟨0, 0, by omega, rfl, Lib.hid rfl⟩
    case round =>
      obtain ⟨k, q, hk, rfl, hw⟩ := hrel
      by_cases hlt : k < n
      · have c1 : wr.cell? ⟨ba, offa + k, none⟩ = some (.int .i64 (G k)) := by rw [hw.out]; exact HA.out k hlt
        have c2 : wr.cell? ⟨bb, offb + k, none⟩ = some (.int .i64 (G k)) := by rw [hw.out]; exact HB.out k hlt
        have hlt' : (k : Int) < (n : Int) := by omega
        go_wp2
        go_quiet (fail)
        go_wp2
        go_roundw
        case rel => exact ⟨k + 1, q + nq, by omega, by go_num, Lib.hid (by rw [hw.out]; exact World.drewN_drewN ..)⟩
        case measure => simp [intOf]; omega
      · go_wp2
        go_ret
        exact ⟨rfl, q, hw.out⟩


theorem matrix9_same (c : Int) (s1 s2 : Value) (n : Nat) (G : Nat → Int) (w : World) (h1 : RdI w s1 n G) (h2 : RdI w s2 n G) :
    Calls Tryd.prog 25 #[.agg #[.int .i64 c, s1], .agg #[.int .i64 c, s2]] w fun e w' => e = .returned (.bool true) ∧ Below w.heap.size w w' := by
  have H1 := Lib.hid h1
  have H2 := Lib.hid h2
  obtain ⟨a1, q1, rfl, _, _⟩ := h1
  obtain ⟨a2, q2, rfl, _, _⟩ := h2
  have t2 := Tryd.underlying26
  have B0 : Hid (Below w.heap.size w ((w.alloc (.cells #[.int .i64 c, .slice a1 n q1] 26)).alloc (.cells #[.int .i64 c, .slice a2 n q2] 26))) := Lib.hid (((Below.refl w.heap.size w).alloc (Nat.le_refl _) _).alloc (by simp) _)
  have E := Lib.hid (likeInts_same _ _ n G _ (H1.out.below B0.out) (H2.out.below B0.out))
  go_enter Tryd.func25, Tryd.ntmps25
  go_wp2_with fail
  refine E.out.mono ?_
  rintro e w' ⟨rfl, q, rfl⟩
  go_wp2_with fail
  go_ret
  exact ⟨rfl, below_drewN B0.out _⟩
end Go.Proofs.YtdojblmffmefgaaDoor
