/-
  Joined: YFamQ, YFamR.
-/
import Derived.Test.YtnfhfilconcajaaZtTotalSquare39
import Derived.Test.YtnfhfilconcajaaZtTotalSquare11
section
namespace Go.Proofs.Ytnfhfilconcajaa.Pl
open Go.RowKit
set_option linter.unusedVariables false
set_option maxRecDepth 100000

theorem heldSS_fromY (k0 : Int) (hk0 : 0 ≤ k0) (V : Value) (m : Nat) (B : Nat) (VS : Nat → Value) (Y : Nat → List Int) (w : World) (h : Fam w B V m VS (mkd k0 Y m))
    (hk : off k0 (fun i => (Y i).length) m ≤ 1152921504606846976) :
    Calls Try.prog 47 #[V, .int .i64 k0] w fun e w' => e = .returned (.int .i64 (off k0 (fun i => (Y i).length) m)) ∧ w = w' := by
  obtain ⟨a, cap, rfl, hm, hc⟩ := h.head
  unfold maxLen at hm
  by_cases h0 : m = 0
  · subst h0
    clear hc h
    go_enter Try.func47, Try.ntmps47
    go_wp2
    refine wp_loop_rounds 1 ?_
    rw [rounds_succ]
    go_wp2
    go_ret
    exact ⟨rfl, rfl⟩
  · obtain ⟨b, rfl, hc'⟩ := hc.resolve_left h0
    have HK := Lib.hid hk
    have H := Lib.hid h
    have HC := Lib.hid hc'
    generalize hL : (fun i => (Y i).length) = L at hk ⊢
    have HL := Lib.hid hL
    clear hL hc hc' h0 h
    go_enter Try.func47, Try.ntmps47
    go_wp2
    go_loop [1, 5] (fun c i => ∃ j : Nat, j ≤ m ∧ i = .int .i64 j ∧ c = .int .i64 (off k0 L j)) (fun _ i => m - (intOf i).toNat)
    case atStart => exact ⟨0, by omega, rfl, rfl⟩
    case round =>
      obtain ⟨j, hj, rfl, rfl⟩ := hrel
      by_cases hlt : j < m
      · have hlt' : (j : Int) < (m : Int) := by omega
        have c1 := HC.out j hlt
        have hlow := off_low k0 L j
        have hup := off_le k0 L (j + 1) m (by omega)
        have hsm : off k0 L m ≤ 1152921504606846976 := by rw [← HL.out]; exact HK.out
        have hnx : off k0 L (j + 1) = off k0 L j + (L j : Int) := rfl
        have hY : mkd k0 Y m j = marks (off k0 L j) (L j) := by unfold mkd; rw [if_pos hlt, ← HL.out]
        have hin := H.out.inn j hlt
        rw [hY, marks_length] at hin
        have M := Lib.hid (heldInt64S_own (VS j) (L j) (off k0 L j) B w (by omega) (by omega) (by omega) hin)
        have NX : Hid (off k0 L (j + 1) = off k0 L j + (L j : Int)) := Lib.hid hnx
        have hge : ¬ off k0 L j + (L j : Int) < 0 := by omega
        clear hin hY hnx hup hlow hsm hk
        generalize VS j = vj at c1 M
        go_wp2_with (go_at_call 78; refine M.out.mono ?_; rintro e w2 ⟨rfl, rfl⟩)
        go_round
        case rel => exact ⟨j + 1, by omega, by go_num, by rw [NX.out]⟩
        case measure => simp [intOf]; omega
      · obtain rfl : j = m := by omega
        go_wp2
        go_ret
        exact ⟨rfl, rfl⟩

/-- Where the marks of the element i begin: the first is its number of Variables. -/
def offP (k : Int) (n : Nat → Nat) (Y : Nat → Nat → List Int) : Nat → Int
  | 0 => k
  | i + 1 => off (offP k n Y i + 1) (fun l => (Y i l).length) (n i)
theorem offP_next (k : Int) (n : Nat → Nat) (Y : Nat → Nat → List Int) (i : Nat) : offP k n Y (i + 1) = offP k n Y i + 1 + (tot (Y i) (n i) : Int) := by
  rw [offP, off_any]
theorem offP_low (k : Int) (n : Nat → Nat) (Y : Nat → Nat → List Int) : ∀ i, k ≤ offP k n Y i
  | 0 => Int.le_refl _
  | i + 1 => by
    have := offP_low k n Y i
    rw [offP_next]
    omega
theorem offP_le (k : Int) (n : Nat → Nat) (Y : Nat → Nat → List Int) (i : Nat) : ∀ m, i ≤ m → offP k n Y i ≤ offP k n Y m
  | 0, h => by obtain rfl : i = 0 := by omega
               exact Int.le_refl _
  | m + 1, h => by
    by_cases e : i = m + 1
    · subst e; exact Int.le_refl _
    · have h1 := offP_le k n Y i m (by omega)
      rw [offP_next k n Y m]
      omega
/-- The first j elements are marked. -/
def mkPK (k : Int) (n : Nat → Nat) (Y : Nat → Nat → List Int) (KS : Nat → Int) (j i : Nat) : Int := if i < j then offP k n Y i else KS i
def mkPY (k : Int) (n : Nat → Nat) (Y : Nat → Nat → List Int) (j i : Nat) : Nat → List Int := if i < j then mkd (offP k n Y i + 1) (Y i) (n i) else Y i
theorem mkPY_len (k : Int) (n : Nat → Nat) (Y : Nat → Nat → List Int) (j i l : Nat) : (mkPY k n Y j i l).length = (Y i l).length := by
  unfold mkPY
  split
  · exact mkd_len _ _ _ _
  · rfl
theorem mkPK_next (k : Int) (n : Nat → Nat) (Y : Nat → Nat → List Int) (KS : Nat → Int) (j i : Nat) : updK (mkPK k n Y KS j) j (offP k n Y j) i = mkPK k n Y KS (j + 1) i := by
  unfold updK mkPK
  by_cases e : i = j
  · subst e; rw [if_pos rfl, if_pos (by omega)]
  · rw [if_neg e]
    by_cases h : i < j
    · rw [if_pos h, if_pos (by omega)]
    · rw [if_neg h, if_neg (by omega)]

theorem fam_beyond {w w' : World} {B : Nat} {U : Value} {n : Nat} {VS : Nat → Value} {Y : Nat → List Int} (h : Fam w B U n VS Y) (g : Nat) (k : w.grownBy w' (some g)) (h1 : U.ownBlock ≠ some g) (h2 : ∀ i, i < n → (VS i).ownBlock ≠ some g) : Fam w' B U n VS Y :=
  ⟨own_sameblock h.out fun q hq => k.block q (h.out.lt q hq).2 (by rw [← hq]; exact h1), fun i hi => own_sameblock (h.inn i hi) fun q hq => k.block q ((h.inn i hi).lt q hq).2 (by rw [← hq]; exact h2 i hi)⟩
section
variable {w w' : World} {B m b cap : Nat} {KS : Nat → Int} {US : Nat → Value} {n : Nat → Nat} {VS : Nat → Nat → Value} {Y : Nat → Nat → List Int}
theorem FamP.apart (h : FamP w B (.slice (some ⟨b, 0, none⟩) m cap) m KS US n VS Y) (i : Nat) (hi : i < m) : (US i).ownBlock ≠ some b ∧ ∀ l, l < n i → (VS i l).ownBlock ≠ some b := by
  constructor
  · rcases own_types h.out (h.inn i hi).out (by decide) with h1 | h1
    · cases h1
    · exact fun e => h1 e.symm
  · intro l hl
    rcases own_types h.out ((h.inn i hi).inn l hl) (by decide) with h1 | h1
    · cases h1
    · exact fun e => h1 e.symm
theorem FamP.setK (h : FamP w B (.slice (some ⟨b, 0, none⟩) m cap) m KS US n VS Y) (j : Nat) (hj : j < m) (x : Int) : FamP (w.setCell ⟨b, j * 2, none⟩ (.int .i64 x)) B (.slice (some ⟨b, 0, none⟩) m cap) m (updK KS j x) US n VS Y := by
  obtain ⟨h1, h2⟩ := World.ownsRow.stored h.out (j * 2) (.int .i64 x)
  rw [pairsP_set KS US x m j hj] at h1
  exact ⟨h1, fun i hi => fam_beyond (h.inn i hi) b h2 (h.apart i hi).1 (h.apart i hi).2⟩
end

set_option maxHeartbeats 1000000 in
theorem markPolyS_own (k0 : Int) (hk0 : 0 ≤ k0) (V : Value) (m B : Nat) (KS : Nat → Int) (US : Nat → Value) (n : Nat → Nat) (VS : Nat → Nat → Value) (Y : Nat → Nat → List Int) (w : World) (h : FamP w B V m KS US n VS Y) (hs : SepP m n VS) (hB : B ≤ w.heap.size)
    (hk : offP k0 n Y m ≤ 1152921504606846976) :
    Calls Try.prog 30 #[V, .int .i64 k0] w fun e w' => e = .returned (.int .i64 (offP k0 n Y m)) ∧ FamP w' B V m (mkPK k0 n Y KS m) US n VS (mkPY k0 n Y m) ∧ Below B w w' := by
  obtain ⟨a, cap, hV, hm, hc⟩ := h.head
  unfold maxLen at hm
  have t2 := Try.underlying27
  by_cases h0 : m = 0
  · subst h0
    subst hV
    clear hc
    have H := Lib.hid h
    go_enter Try.func30, Try.ntmps30
    go_wp2
    refine wp_loop_rounds 1 ?_
    rw [rounds_succ]
    go_wp2
    go_ret
    exact ⟨rfl, ⟨H.out.out, fun i hi => absurd hi (by omega)⟩, Below.refl _ _⟩
  · obtain ⟨b, rfl, hc'⟩ := hc.resolve_left h0
    subst hV
    have HK := Lib.hid hk
    have HS := Lib.hid hs
    have H := Lib.hid h
    have hbB : B ≤ b := (h.out.lt b rfl).1
    clear hc hc' h0 hs h hk
    go_enter Try.func30, Try.ntmps30
    go_wp2
    go_loopw [1, 5] (fun c i wr => ∃ j : Nat, j ≤ m ∧ i = .int .i64 j ∧ c = .int .i64 (offP k0 n Y j) ∧ Hid (FamP wr B (.slice (some ⟨b, 0, none⟩) m cap) m (mkPK k0 n Y KS j) US n VS (mkPY k0 n Y j)) ∧ Hid (Below B w wr)) (fun _ i _ => m - (intOf i).toNat)
    case atStart => exact ⟨0, by omega, rfl, rfl, Lib.hid ⟨by rw [pairsP_congr (mkPK k0 n Y KS 0) KS US m fun i hi => if_neg (by omega)]; exact H.out.out, fun i hi => by rw [show mkPY k0 n Y 0 i = Y i by unfold mkPY; rw [if_neg (by omega)]]; exact H.out.inn i hi⟩, Lib.hid (Below.refl _ _)⟩
    case round =>
      obtain ⟨j, hj, rfl, rfl, hF, hBe⟩ := hrel
      by_cases hlt : j < m
      · have hlt' : (j : Int) < (m : Int) := by omega
        obtain ⟨a', cap', hV', _, hc'⟩ := hF.out.head
        cases hV'
        obtain ⟨b', e, hc''⟩ := hc'.resolve_left (by omega)
        cases e
        have c0 := (hc'' j hlt).1
        have f0 := World.ownsRow.frozenAt hF.out.out (j * 2)
        have hlow := offP_low k0 n Y j
        have hup := offP_le k0 n Y (j + 1) m (by omega)
        have hnx := offP_next k0 n Y j
        have hkk := HK.out
        have hY : mkPY k0 n Y j j = Y j := by unfold mkPY; rw [if_neg (by omega)]
        have S1 := Lib.hid (hF.out.setK j hlt (offP k0 n Y j))
        have B1 := Lib.hid (hBe.out.setCell (p := ⟨b, j * 2, none⟩) hbB (.int .i64 (offP k0 n Y j)))
        have NXE : Hid (offP k0 n Y (j + 1) = off (offP k0 n Y j + 1) (fun l => (Y j l).length) (n j)) := Lib.hid rfl
        have KN : Hid (pairsP (updK (mkPK k0 n Y KS j) j (offP k0 n Y j)) US m = pairsP (mkPK k0 n Y KS (j + 1)) US m) := Lib.hid (pairsP_congr _ _ US m fun i hi => mkPK_next k0 n Y KS j i)
        have hin := S1.out.inn j hlt
        rw [hY] at hin
        have M := Lib.hid (markSS_from (offP k0 n Y j + 1) (by omega) (US j) (n j) B (VS j) (Y j) _ hin (HS.out.1 j hlt) (by rw [← NXE.out]; omega))
        have hw1 : wrap64 (offP k0 n Y j + 1) = offP k0 n Y j + 1 := wrap_sm (by omega) (by omega)
        have S1c : (wr.setCell ⟨b, j * 2, none⟩ (.int .i64 (offP k0 n Y j))).cell? ⟨b, j * 2 + 1, none⟩ = some (US j) := by
          obtain ⟨a2, cap2, hV2, _, hc2⟩ := S1.out.head
          cases hV2
          obtain ⟨b2, e, hc3⟩ := hc2.resolve_left (by omega)
          cases e
          exact (hc3 j hlt).2
        have hin := Lib.hid hin
        rw [← NXE.out] at M
        clear hY hup hlow hnx hkk hc' hc'' hF hBe
        go_upto_region 5 with fail
        generalize wr.setCell ⟨b, j * 2, none⟩ (.int .i64 (offP k0 n Y j)) = w1 at *
        clear c0 f0
        go_wp2_with fail
        refine M.out.mono ?_
        rintro e w2 ⟨rfl, ho2, hb2, hr2⟩
        have F2 : Hid (FamP w2 B (.slice (some ⟨b, 0, none⟩) m cap) m (mkPK k0 n Y KS (j + 1)) US n VS (mkPY k0 n Y (j + 1))) := by
          refine Lib.hid ⟨?_, fun i hi => ?_⟩
          · rw [← KN.out]
            exact own_sameblock S1.out.out fun g hg => hr2.2 g (S1.out.out.lt g hg).2 fun i hi e => by
              cases hg
              exact (S1.out.apart j hlt).2 i hi e
          · by_cases e : i = j
            · subst e
              have e2 : mkPY k0 n Y (i + 1) i = mkd (offP k0 n Y i + 1) (Y i) (n i) := by unfold mkPY; rw [if_pos (by omega)]
              rw [e2]
              exact ho2
            · have e2 : mkPY k0 n Y (j + 1) i = mkPY k0 n Y j i := by
                unfold mkPY
                by_cases h1 : i < j
                · rw [if_pos h1, if_pos (by omega)]
                · rw [if_neg h1, if_neg (by omega)]
              rw [e2]
              exact (S1.out.inn i hi).rest hin.out hr2 (HS.out.2 i j hi hlt e)
        have B2 : Hid (Below B w w2) := Lib.hid (B1.out.trans hb2)
        clear ho2 hb2 hr2 M S1c
        go_wp2
        go_roundw
        case rel => exact ⟨j + 1, by omega, by go_num, rfl, F2, B2⟩
        case measure => simp [intOf]; omega
      · obtain rfl : j = m := by omega
        go_wp2
        go_ret
        exact ⟨rfl, hF.out, hBe.out⟩
end Go.Proofs.Ytnfhfilconcajaa.Pl
end
section
namespace Go.Proofs.Ytnfhfilconcajaa.Pl
open Go.RowKit
set_option linter.unusedVariables false
set_option maxRecDepth 100000

set_option maxHeartbeats 1000000 in
theorem heldPolyS_own (V : Value) (m B : Nat) (KS : Nat → Int) (US : Nat → Value) (n : Nat → Nat) (VS : Nat → Nat → Value) (Y : Nat → Nat → List Int) (w : World) (h : FamP w B V m (mkPK 1 n Y KS m) US n VS (mkPY 1 n Y m))
    (hk : offP 1 n Y m ≤ 1152921504606846976) :
    Calls Try.prog 31 #[V, .int .i64 1] w fun e w' => e = .returned (.int .i64 (offP 1 n Y m)) ∧ w = w' := by
  obtain ⟨a, cap, rfl, hm, hc⟩ := h.head
  unfold maxLen at hm
  have t2 := Try.underlying27
  by_cases h0 : m = 0
  · subst h0
    clear hc h
    go_enter Try.func31, Try.ntmps31
    go_wp2
    refine wp_loop_rounds 1 ?_
    rw [rounds_succ]
    go_wp2
    go_ret
    exact ⟨rfl, rfl⟩
  · obtain ⟨b, rfl, hc'⟩ := hc.resolve_left h0
    have HK := Lib.hid hk
    have H := Lib.hid h
    have HC := Lib.hid hc'
    clear hc hc' h0 h hk
    go_enter Try.func31, Try.ntmps31
    go_wp2
    go_loop [1, 5] (fun c i => ∃ j : Nat, j ≤ m ∧ i = .int .i64 j ∧ c = .int .i64 (offP 1 n Y j)) (fun _ i => m - (intOf i).toNat)
    case atStart => exact ⟨0, by omega, rfl, rfl⟩
    case round =>
      obtain ⟨j, hj, rfl, rfl⟩ := hrel
      by_cases hlt : j < m
      · have hlt' : (j : Int) < (m : Int) := by omega
        obtain ⟨c0, c1⟩ := HC.out j hlt
        rw [show mkPK 1 n Y KS m j = offP 1 n Y j from if_pos hlt] at c0
        have hlow := offP_low 1 n Y j
        have hlow1 := offP_low 1 n Y (j + 1)
        have hup := offP_le 1 n Y (j + 1) m (by omega)
        have hnx := offP_next 1 n Y j
        have hkk := HK.out
        have hin := H.out.inn j hlt
        rw [show mkPY 1 n Y m j = mkd (offP 1 n Y j + 1) (Y j) (n j) from if_pos hlt] at hin
        have NXE : Hid (offP 1 n Y (j + 1) = off (offP 1 n Y j + 1) (fun l => (Y j l).length) (n j)) := Lib.hid rfl
        have M := Lib.hid (heldSS_fromY (offP 1 n Y j + 1) (by omega) (US j) (n j) B (VS j) (Y j) w hin (by rw [← NXE.out]; omega))
        rw [← NXE.out] at M
        have hge : ¬ offP 1 n Y (j + 1) < 0 := by omega
        have hw1 : wrap64 (offP 1 n Y j + 1) = offP 1 n Y j + 1 := wrap_sm (by omega) (by omega)
        clear hin hup hlow hlow1 hnx hkk
        generalize US j = uj at c1 M
        go_wp2_with fail
        refine M.out.mono ?_
        rintro e w2 ⟨rfl, rfl⟩
        go_wp2_with fail
        go_round
        case rel => exact ⟨j + 1, by omega, by go_num, rfl⟩
        case measure => simp [intOf]; omega
      · obtain rfl : j = m := by omega
        go_wp2
        go_ret
        exact ⟨rfl, rfl⟩
end Go.Proofs.Ytnfhfilconcajaa.Pl
end
