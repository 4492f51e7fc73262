/-
  Contracts of spec.MatrixOfLists out of range, and of impl.MatrixOfLists.
-/
import Derived.Test.YtdojblmffmefgaaMLists
import Derived.Deep.RegionLaw
namespace Go.Proofs.Ytdojblmffmefgaa
open Go.RowKit
set_option linter.unusedVariables false
set_option maxRecDepth 100000

theorem boxR_start (w : World) : Box (w.alloc (.cells #[.int .i64 0, .slice none 0 0] 27)) w.heap.size 27 (.int .i64 0) (.slice none 0 0) := Box.new w _ _ _

theorem specLists_out (c : Int) (m : Nat) (a : Option Addr) (cap : Nat) (w : World) (h : c < 0 ∨ 60 < c ∨ 200 < m) (hm : m ≤ maxLen) :
    Calls Try.prog 15 #[.int .i64 c, .slice a m cap] w (MRes 0 [] 2 w) := by
  unfold maxLen at hm
  have t2 := Try.underlying27
  have X1 := Lib.hid (boxR_start w)
  have B1 := Lib.hid ((Below.refl w.heap.size w).alloc (Nat.le_refl _) (.cells #[.int .i64 0, .slice none 0 0] 27))
  by_cases hc : c < 0 ∨ 60 < c
  · clear h
    go_enter Try.func15, Try.ntmps15
    go_wp2_with (go_at_call 37; refine (l01In_no c 0 60 _ hc).mono ?_; rintro e w' ⟨rfl, rfl⟩)
    refine bodyPost_ret (results_box_tmp rfl _ _ w.heap.size _ _ _ rfl X1.out t2 (by kernel_rfl)) rfl ?_
    exact ⟨_, rfl, World.ownsRow_nil _ _ _ _, B1.out⟩
  · have h0 : 0 ≤ c := by omega
    have h1 : c ≤ 60 := by omega
    have hm' : (200 : Int) < (m : Int) := by omega
    clear h hc
    go_enter Try.func15, Try.ntmps15
    go_wp2_with (go_at_call 37; refine (l01In_yes c 0 60 _ h0 h1).mono ?_; rintro e w' ⟨rfl, rfl⟩)
    refine bodyPost_ret (results_box_tmp rfl _ _ w.heap.size _ _ _ rfl X1.out t2 (by kernel_rfl)) rfl ?_
    exact ⟨_, rfl, World.ownsRow_nil _ _ _ _, B1.out⟩

theorem implLists_out (c : Int) (m : Nat) (a : Option Addr) (cap : Nat) (w : World) (h : c < 0 ∨ 60 < c ∨ 200 < m) (hm : m ≤ maxLen) :
    Calls Try.prog 17 #[.int .i64 c, .slice a m cap] w (MRes 0 [] 2 w) := by
  unfold maxLen at hm
  have t2 := Try.underlying27
  have X1 := Lib.hid (boxR_start w)
  have B1 := Lib.hid ((Below.refl w.heap.size w).alloc (Nat.le_refl _) (.cells #[.int .i64 0, .slice none 0 0] 27))
  by_cases hc : c < 0 ∨ 60 < c
  · clear h
    go_enter Try.func17, Try.ntmps17
    go_wp2_with (go_at_call 34; refine (isCC_no c _ hc).mono ?_; rintro e w' ⟨rfl, rfl⟩)
    refine bodyPost_ret (results_box_tmp rfl _ _ w.heap.size _ _ _ rfl X1.out t2 (by kernel_rfl)) rfl ?_
    exact ⟨_, rfl, World.ownsRow_nil _ _ _ _, B1.out⟩
  · obtain ⟨k, rfl⟩ : ∃ k : Nat, c = k := ⟨c.toNat, by omega⟩
    have hk : k ≤ 60 := by omega
    have hm' : (200 : Int) < (m : Int) := by omega
    clear h hc
    go_enter Try.func17, Try.ntmps17
    go_wp2_with (go_at_call 34; refine (isCC_yes k _ hk).mono ?_; rintro e w' ⟨rfl, rfl⟩)
    refine bodyPost_ret (results_box_tmp rfl _ _ w.heap.size _ _ _ rfl X1.out t2 (by kernel_rfl)) rfl ?_
    exact ⟨_, rfl, World.ownsRow_nil _ _ _ _, B1.out⟩

set_option maxHeartbeats 2000000 in
theorem implLists_in (k m : Nat) (a : Option Addr) (cap : Nat) (X : Nat → List Int) (C : Int) (L' : List Int) (cd : Int) (w : World) (h : RdSS w (.slice a m cap) m X) (hk : k ≤ 60) (hm : m ≤ 200) (hres : Ml k m X C L' cd) :
    Calls Try.prog 17 #[.int .i64 k, .slice a m cap] w (MRes C L' cd w) := by
  obtain ⟨z, hz, hgood, hbad⟩ := first_of (fun i => okR k (X i)) m
  have RB : Hid (z < m → C = 0 ∧ L' = [] ∧ cd = 2) := Lib.hid (fun hlt => hres.bad k rfl hk hm (fun hall => hbad hlt (hall z hlt)))
  have RG : Hid (z = m → C = k ∧ L' = obs k X m ∧ cd = 0) := Lib.hid (fun e => hres.good k rfl hk hm (fun i hi => hgood i (by omega)))
  obtain ⟨_, _, VS, hc, hr⟩ := h
  have HC := Lib.hid hc
  have HR := Lib.hid hr
  have HG := Lib.hid hgood
  have HB := Lib.hid hbad
  clear hc hr hgood hbad hres
  have hm' : (m : Int) ≤ 200 := by omega
  have t2 := Try.underlying27
  have W3 : ∃ w3, w3 = ((w.alloc (.cells #[.int .i64 0, .slice none 0 0] 27)).alloc (.cells #[.int .i64 k, .slice none 0 0] 27)) := ⟨_, rfl⟩
  obtain ⟨w3, hw3⟩ := W3
  have S3 : Hid (Bld w w.heap.size w.heap.size (w.heap.size + 1) (.int .i64 0) (.slice none 0 0) k (.slice none 0 0) (obs k X 0) w3) := Lib.hid (by rw [hw3]; exact lists_start w k X)
  go_enter Try.func17, Try.ntmps17
  go_wp2_with (go_at_call 34; refine (isCC_yes k _ hk).mono ?_; rintro e w' ⟨rfl, rfl⟩)
  rw [← hw3]
  clear hw3
  go_loopw [8, 22] (fun _ c wr => ∃ (i : Nat) (v : Value), i ≤ z ∧ c = .int .i64 i ∧ Hid (Bld w w.heap.size w.heap.size (w.heap.size + 1) (.int .i64 0) (.slice none 0 0) k v (obs k X i) wr)) (fun _ c _ => m - (intOf c).toNat)
  case atStart => exact ⟨0, _, by omega, rfl, S3⟩
  case round =>
    clear S3
    obtain ⟨i, v, hi, rfl, S⟩ := hrel
    have o0 := S.out.own
    rw [obs_length] at o0
    obtain ⟨va, vc, rfl⟩ := o0.shape
    have O := Lib.hid o0
    clear o0
    by_cases hlt : i < m
    · have hlt' : (i : Int) < (m : Int) := by omega
      obtain ⟨b, off, ⟨cap', e⟩, hc'⟩ := HC.out.resolve_left (by omega)
      cases e
      have c1 := (S.out.bel.cell (p := ⟨b, off + i, none⟩) (World.block_lt_of_cell? w _ (hc' i hlt))).trans (hc' i hlt)
      have rk := (HR.out i hlt).below S.out.bel
      obtain ⟨ua, uc, hv, hvm, hvc⟩ := id rk
      rw [hv] at c1 rk
      clear hv hc' hvc
      have RK := Lib.hid rk
      clear rk
      have cR0 := S.out.bR.c0
      have cR1 := S.out.bR.c1
      have fR0 := S.out.bR.fr 0
      have fR1 := S.out.bR.fr 1
      have X5 := Lib.hid ((S.out.bR.set0 (.int .i64 0)).set1 (.slice none 0 0))
      have B5 := Lib.hid ((S.out.bel.setCell (p := ⟨w.heap.size, 0, none⟩) (by simp) (.int .i64 0)).setCell (p := ⟨w.heap.size, 1, none⟩) (by simp) (.slice none 0 0))
      by_cases hlen : (X i).length = k
      · rw [hlen] at c1 RK
        by_cases hiz : i < z
        · have AB := Lib.hid (areBits_some _ k k true _ wr RK.out (Nat.le_refl _) (HG.out i hiz).2 (.inl ⟨rfl, rfl⟩))
          have RKD := RK.out.drewN 1
          have TM := Lib.hid (rowOfBits_any _ k (X i) wr.drew RKD hk)
          have BO : Hid (Box wr.drew (w.heap.size + 1) 27 (.int .i64 k) (.slice va i vc)) := Lib.hid (S.out.bO.drewN 1)
          have SD : Hid (Bld w w.heap.size w.heap.size (w.heap.size + 1) (.int .i64 0) (.slice none 0 0) k (.slice va i vc) (obs k X i) wr.drew) := Lib.hid S.out.drew
          have OD : Hid (wr.drew.ownsRow w.heap.size 2 1 (.slice va i vc) i ((obs k X i).map (Value.int .i64))) := Lib.hid (own_drewN O.out 1)
          have E : Hid (obs k X (i + 1) = obs k X i ++ [ob (X i) k]) := Lib.hid (obs_succ k X i)
          have LL := Lib.hid (obs_length k X i)
          have cO1 := S.out.bO.c1
          have cO0 := S.out.bO.c0
          clear cR0 cR1 fR0 fR1 X5 B5 hlen hvm RKD
          generalize hr : ob (X i) k = r at *
          clear hr
          generalize obs k X i = L at *
          go_wp2_with (go_at_call 38; refine AB.out.mono ?_; rintro e w' ⟨rfl, rfl⟩)
          go_region_law (first | (go_simp; go_at_call 39; refine TM.out.mono ?_; rintro e w11 ⟨rfl, b11⟩; have bo11 := (BO.out.up b11).c1; have bo12 := ((BO.out.up b11).alloc (.cells #[.int .i64 r] 2)).c1; have AO11 := Lib.hid (own_below (own_below OD.out b11) ((Below.refl w11.heap.size w11).alloc (Nat.le_refl _) (.cells #[.int .i64 r] 2))); have BO11 := Lib.hid ((BO.out.up b11).alloc (.cells #[.int .i64 r] 2)); have AS11 := Lib.hid (Nat.le_trans (Nat.le_trans SD.out.bel.size b11.size) ((Below.refl w11.heap.size w11).alloc (Nat.le_refl _) (.cells #[.int .i64 r] 2)).size); have NE11 := Lib.hid (BO11.out.ne_row AO11.out ne_mi1)) | (refine step_append1 (by rfl) _ _ (by rfl) w.heap.size (.slice va i vc) i L (by rfl) AO11.out _ _ 1 (by rfl) (World.cell?_alloc_new _ _ _ _) (by omega) AS11.out ?_; intro va' vc' w12 ho hg; have x1 := (BO11.out.grown hg NE11.out).c1; have x2 := (BO11.out.grown hg NE11.out).fr 1))
          all_goals
            have A2 := Lib.hid (((SD.out.up b11).alloc (.cells #[.int .i64 r] 2)).app (r := r) (by rw [LL.out, List.map_append]; simpa using ho) hg)
            have F := Lib.hid (Bld2.store ((SD.out.up b11).alloc (.cells #[.int .i64 r] 2)) A2.out)
            clear ho hg x1 x2 bo11 bo12 b11 AO11 BO11 AS11 NE11
            go_wp2
            go_roundw
            case rel => exact ⟨i + 1, _, by omega, by go_num, Lib.hid (by rw [E.out]; exact F.out)⟩
            case measure => simp [intOf]; omega
        · obtain rfl : i = z := by omega
          obtain ⟨zj, hzj, hgj, hbj⟩ := first_of (okB (X i)) k
          have hzk : zj < k := by
            apply Decidable.byContradiction
            intro hn
            exact HB.out hlt ⟨hlen, fun j hj => hgj j (by omega)⟩
          have AB := Lib.hid (areBits_some _ k zj false _ wr RK.out hzj hgj (.inr ⟨hzk, hbj hzk, rfl⟩))
          obtain ⟨E1, E2, E3⟩ := RB.out hlt
          have E1 := Lib.hid E1
          have E2 := Lib.hid E2
          have E3 := Lib.hid E3
          clear hgj hbj hvm hlen
          go_wp2_with (go_at_call 38; refine AB.out.mono ?_; rintro e w' ⟨rfl, rfl⟩)
          refine bodyPost_ret (results_box_tmp rfl _ _ w.heap.size _ _ _ rfl X5.out t2 (by kernel_rfl)) rfl ?_
          exact ⟨_, by rw [E1.out, E3.out]; rfl, by rw [E2.out]; exact World.ownsRow_nil _ _ _ _, B5.out⟩
      · have hiz : z < m := by
          apply Decidable.byContradiction
          intro hn
          exact hlen ((HG.out i (by omega)).1)
        obtain ⟨E1, E2, E3⟩ := RB.out hiz
        have E1 := Lib.hid E1
        have E2 := Lib.hid E2
        have E3 := Lib.hid E3
        clear hvm
        clear RK
        generalize (X i).length = n at *
        have hne : ((n : Int) != (k : Int)) = true := by rw [bne_iff_ne]; omega
        clear hlen
        go_wp2
        refine bodyPost_ret (results_box_tmp rfl _ _ w.heap.size _ _ _ rfl X5.out t2 (by kernel_rfl)) rfl ?_
        exact ⟨_, by rw [E1.out, E3.out]; rfl, by rw [E2.out]; exact World.ownsRow_nil _ _ _ _, B5.out⟩
    · obtain rfl : i = m := by omega
      obtain ⟨E1, E2, E3⟩ := RG.out (by omega)
      have E1 := Lib.hid E1
      have E2 := Lib.hid E2
      have E3 := Lib.hid E3
      have cO0 := S.out.bO.c0
      have cO1 := S.out.bO.c1
      have cR0 := S.out.bR.c0
      have cR1 := S.out.bR.c1
      have fR0 := S.out.bR.fr 0
      have fR1 := S.out.bR.fr 1
      obtain ⟨F1, F2, F3⟩ := S.out.fin
      have F1 := Lib.hid F1
      have F2 := Lib.hid F2
      have F3 := Lib.hid F3
      go_wp2
      refine bodyPost_ret (results_box_tmp rfl _ _ w.heap.size _ _ _ rfl F1.out t2 (by kernel_rfl)) rfl ?_
      refine ⟨_, by rw [E1.out, E3.out]; rfl, ?_, F3.out⟩
      rw [E2.out]
      exact F2.out

theorem MatrixOfLists_both (c : Int) (m : Nat) (X : Nat → List Int) : ∃ (C : Int) (L : List Int) (cd : Int), L.length ≤ 200 ∧
    (∀ w V, RdSS w V m X → Calls Try.prog 15 #[.int .i64 c, V] w (MRes C L cd w)) ∧
    (∀ w V, RdSS w V m X → Calls Try.prog 17 #[.int .i64 c, V] w (MRes C L cd w)) := by
  obtain ⟨C, L, cd, hr, hl⟩ := ml_ex c m X
  refine ⟨C, L, cd, hl, fun w V h => ?_, fun w V h => ?_⟩
  all_goals
    obtain ⟨a, cap, rfl⟩ := h.head
    by_cases h0 : c < 0 ∨ 60 < c ∨ 200 < m
    · obtain ⟨rfl, rfl, rfl⟩ := hr.out h0
      first
        | exact specLists_out c m a cap w h0 h.small
        | exact implLists_out c m a cap w h0 h.small
    · obtain ⟨k, rfl⟩ : ∃ k : Nat, c = k := ⟨c.toNat, by omega⟩
      first
        | exact specLists_in k m a cap X C L cd w h (by omega) (by omega) hr
        | exact implLists_in k m a cap X C L cd w h (by omega) (by omega) hr
end Go.Proofs.Ytdojblmffmefgaa
