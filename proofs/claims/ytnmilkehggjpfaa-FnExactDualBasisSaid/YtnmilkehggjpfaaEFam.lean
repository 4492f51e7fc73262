/-
  Slices of structs of lists: laws.eqDualS, markDualS, heldDualS.
-/
import Derived.Test.YtnmilkehggjpfaaERes
import Derived.Deep.RegionHeld3
namespace Go.Proofs.Ytnmilkehggjpfaa
open Go.RowKit
set_option linter.unusedVariables false
set_option maxRecDepth 100000

theorem heldSSd_from (k0 : Int) (hk0 : 0 ≤ k0) (V : Value) (m : Nat) (B : Nat) (VS : Nat → Value) (Y : Nat → List Int) (w : World) (h : Fam w B V m VS (mkd k0 Y m))
    (hk : off k0 (fun i => (Y i).length) m ≤ 1152921504606846976) :
    Calls Try.prog 61 #[V, .int .i64 k0] w fun e w' => e = .returned (.int .i64 (off k0 (fun i => (Y i).length) m)) ∧ w = w' := by
  obtain ⟨a, cap, rfl, hm, hc⟩ := h.head
  unfold maxLen at hm
  by_cases h0 : m = 0
  · subst h0
    clear hc h
    go_enter Try.func61, Try.ntmps61
    go_wp2
    refine wp_loop_rounds 1 ?_
    rw [rounds_succ]
    go_wp2
    go_ret
    exact ⟨rfl, rfl⟩
  · obtain ⟨b, rfl, hc'⟩ := hc.resolve_left h0
    have HK := Lib.hid hk
    have H := Lib.hid h
    have HC := Lib.hid hc'
    generalize hL : (fun i => (Y i).length) = L at hk ⊢
    have HL := Lib.hid hL
    clear hL hc hc' h0 h
    go_enter Try.func61, Try.ntmps61
    go_wp2
    go_loop [1, 5] (fun c i => ∃ j : Nat, j ≤ m ∧ i = .int .i64 j ∧ c = .int .i64 (off k0 L j)) (fun _ i => m - (intOf i).toNat)
    case atStart => exact ⟨0, by omega, rfl, rfl⟩
    case round =>
      obtain ⟨j, hj, rfl, rfl⟩ := hrel
      by_cases hlt : j < m
      · have hlt' : (j : Int) < (m : Int) := by omega
        have c1 := HC.out j hlt
        have hlow := off_low k0 L j
        have hup := off_le k0 L (j + 1) m (by omega)
        have hsm : off k0 L m ≤ 1152921504606846976 := by rw [← HL.out]; exact HK.out
        have hnx : off k0 L (j + 1) = off k0 L j + (L j : Int) := rfl
        have hY : mkd k0 Y m j = marks (off k0 L j) (L j) := by unfold mkd; rw [if_pos hlt, ← HL.out]
        have hin := H.out.inn j hlt
        rw [hY, marks_length] at hin
        have M := Lib.hid (heldInt64S_own (VS j) (L j) (off k0 L j) B w (by omega) (by omega) (by omega) hin)
        have NX : Hid (off k0 L (j + 1) = off k0 L j + (L j : Int)) := Lib.hid hnx
        have hge : ¬ off k0 L j + (L j : Int) < 0 := by omega
        clear hin hY hnx hup hlow hsm hk
        generalize VS j = vj at c1 M
        go_wp2_with (go_at_call 94; refine M.out.mono ?_; rintro e w2 ⟨rfl, rfl⟩)
        go_round
        case rel => exact ⟨j + 1, by omega, by go_num, by rw [NX.out]⟩
        case measure => simp [intOf]; omega
      · obtain rfl : j = m := by omega
        go_wp2
        go_ret
        exact ⟨rfl, rfl⟩

namespace Dl
/-- A slice of structs, each of which holds a list of lists. -/
structure FamM (w : World) (B : Nat) (V : Value) (m : Nat) (US : Nat → Value) (n : Nat → Nat) (VS : Nat → Nat → Value) (Y : Nat → Nat → List Int) : Prop where
  out : w.ownsRow B 27 1 V m ((List.range m).map US)
  inn : ∀ i, i < m → Fam w B (US i) (n i) (VS i) (Y i)
/-- All rows lie apart. -/
def SepM (m : Nat) (n : Nat → Nat) (VS : Nat → Nat → Value) : Prop := (∀ i, i < m → Sep (n i) (VS i)) ∧ ∀ i j, i < m → j < m → i ≠ j → FApart (n i) (VS i) (n j) (VS j)
section
variable {w w' : World} {B m : Nat} {V : Value} {US : Nat → Value} {n : Nat → Nat} {VS : Nat → Nat → Value} {Y : Nat → Nat → List Int}
theorem FamM.below (h : FamM w B V m US n VS Y) (k : Below w.heap.size w w') : FamM w' B V m US n VS Y := ⟨own_below h.out k, fun i hi => (h.inn i hi).below k⟩
theorem FamM.drewN (h : FamM w B V m US n VS Y) (q : Nat) : FamM (w.drewN q) B V m US n VS Y := ⟨h.out, fun i hi => (h.inn i hi).drewN q⟩
theorem FamM.head (h : FamM w B V m US n VS Y) : ∃ a cap, V = .slice a m cap ∧ m ≤ maxLen ∧ (m = 0 ∨ ∃ b, a = some ⟨b, 0, none⟩ ∧ ∀ i, i < m → w.cell? ⟨b, i, none⟩ = some (US i)) := by
  rcases h.out.2 with ⟨rfl, h0⟩ | ⟨g, cap, cur, rfl, hb, hg, h1, h2, h3, h4⟩
  · exact ⟨none, 0, by rw [h0], by rw [h0]; exact Nat.zero_le _, .inl h0⟩
  · refine ⟨_, cap, rfl, Nat.le_trans h1 h2, .inr ⟨g, rfl, fun i hi => ?_⟩⟩
    rw [h.out.cellAt i (by omega)]
    simp [hi]
theorem FamM.low (h : FamM w B V m US n VS Y) {a b : World} (k : Below w.heap.size a b) (hs : FamM a B V m US n VS Y) : FamM b B V m US n VS Y :=
  ⟨own_lowC hs.out (fun g hg => (h.out.lt g hg).2) k, fun i hi => (hs.inn i hi).lowC (fun g hg => ((h.inn i hi).out.lt g hg).2) (fun j hj g hg => (((h.inn i hi).inn j hj).lt g hg).2) k⟩
end

set_option maxHeartbeats 1000000 in
theorem eqDualS_same (Va Vb : Value) (m : Nat) (Ba Bb : Nat) (UA UB : Nat → Value) (n : Nat → Nat) (VA VB : Nat → Nat → Value) (Y : Nat → Nat → List Int) (w : World) (ha : FamM w Ba Va m UA n VA Y) (hb : FamM w Bb Vb m UB n VB Y) :
    Calls Try.prog 22 #[Va, Vb] w fun e w' => e = .returned (.bool true) ∧ Below w.heap.size w w' := by
  obtain ⟨aa, capa, rfl, hm, hca⟩ := ha.head
  obtain ⟨ab, capb, rfl, _, hcb⟩ := hb.head
  unfold maxLen at hm
  have t2 := Try.underlying27
  have RA := Lib.hid ha
  have RB := Lib.hid hb
  clear ha hb
  by_cases h0 : m = 0
  · subst h0
    clear hca hcb RA RB
    go_enter Try.func22, Try.ntmps22
    go_wp2
    refine wp_loop_rounds 1 ?_
    rw [rounds_succ]
    go_wp2
    go_ret
    exact ⟨rfl, Below.refl _ _⟩
  · obtain ⟨ba, rfl, hca'⟩ := hca.resolve_left h0
    obtain ⟨bb, rfl, hcb'⟩ := hcb.resolve_left h0
    have CA := Lib.hid hca'
    have CB := Lib.hid hcb'
    have hla : ba < w.heap.size := World.block_lt_of_cell? w ⟨ba, 0, none⟩ (hca' 0 (by omega))
    have hlb : bb < w.heap.size := World.block_lt_of_cell? w ⟨bb, 0, none⟩ (hcb' 0 (by omega))
    have HLA := Lib.hid hla
    have HLB := Lib.hid hlb
    clear hca hcb hca' hcb' h0 hla hlb
    go_enter Try.func22, Try.ntmps22
    go_wp2
    go_loopw [5] (fun c wr => ∃ j : Nat, j ≤ m ∧ c = .int .i64 j ∧ Hid (Below w.heap.size w wr)) (fun c _ => m - (intOf c).toNat)
    case atStart => exact ⟨0, by omega, rfl, Lib.hid (Below.refl _ _)⟩
    case round =>
      obtain ⟨j, hj, rfl, hw⟩ := hrel
      by_cases hlt : j < m
      · have hlt' : (j : Int) < (m : Int) := by omega
        have F1 := Lib.hid ((RA.out.inn j hlt).below hw.out)
        have F2 := Lib.hid ((RB.out.inn j hlt).below hw.out)
        have c1 : Hid (wr.cell? ⟨ba, j, none⟩ = some (UA j)) := Lib.hid ((hw.out.cell (p := ⟨ba, j, none⟩) HLA.out).trans (CA.out j hlt))
        have c2 : Hid (wr.cell? ⟨bb, j, none⟩ = some (UB j)) := Lib.hid ((hw.out.cell (p := ⟨bb, j, none⟩) HLB.out).trans (CB.out j hlt))
        obtain ⟨ua, uca, ea, _⟩ := F1.out.head
        obtain ⟨ub, ucb, eb, _⟩ := F2.out.head
        rw [ea] at F1 c1
        rw [eb] at F2 c2
        clear ea eb
        generalize n j = nj at F1 F2 c1 c2
        have HL1 := Lib.hid (World.block_lt_of_cell? wr ⟨ba, j, none⟩ c1.out)
        have HL2 := Lib.hid (World.block_lt_of_cell? wr ⟨bb, j, none⟩ c2.out)
        have KEEP : Hid (∀ wx, Below wr.heap.size wr wx → (wx.cell? ⟨ba, j, none⟩ = some (.slice ua nj uca) ∧ wx.cell? ⟨bb, j, none⟩ = some (.slice ub nj ucb) ∧ Below wr.heap.size wr wx)) :=
          Lib.hid (fun wx hb => ⟨(hb.cell (p := ⟨ba, j, none⟩) HL1.out).trans c1.out, (hb.cell (p := ⟨bb, j, none⟩) HL2.out).trans c2.out, hb⟩)
        have z0 : Below wr.heap.size wr wr.drew := (Below.refl _ _).drew
        go_wp2_with fail
        go_region_held3 (fun wx => wx.cell? ⟨ba, j, none⟩ = some (.slice ua nj uca) ∧ wx.cell? ⟨bb, j, none⟩ = some (.slice ub nj ucb) ∧ Below wr.heap.size wr wx)
          (first | exact KEEP.out _ (Below.refl _ _).drew | exact KEEP.out _ (by assumption))
          ((go_at_call 15; refine (eqDual_same _ _ nj _ _ _ _ _ _ (F1.out.below z0) (F2.out.below z0)).mono ?_; rintro e w9 ⟨rfl, b9⟩; have z9 := z0.step1 b9))
        have H9 := Lib.hid (hw.out.step1 z9)
        go_wp2_with fail
        go_roundw
        case rel => exact ⟨j + 1, by omega, by go_num, H9⟩
        case measure => simp [intOf]; omega
      · go_wp2
        go_ret
        exact ⟨rfl, hw.out⟩

/-- Where the marks of the element i begin. -/
def offM (k : Int) (n : Nat → Nat) (Y : Nat → Nat → List Int) : Nat → Int
  | 0 => k
  | i + 1 => off (offM k n Y i) (fun l => (Y i l).length) (n i)
theorem offM_any (k : Int) (n : Nat → Nat) (Y : Nat → Nat → List Int) (i : Nat) : ∃ t : Nat, offM k n Y i = k + (t : Int) := by
  induction i with
  | zero => exact ⟨0, by simp [offM]⟩
  | succ i ih =>
    obtain ⟨t, h⟩ := ih
    refine ⟨t + tot (Y i) (n i), ?_⟩
    rw [offM, off_any, h]
    omega
theorem offM_low (k : Int) (n : Nat → Nat) (Y : Nat → Nat → List Int) (i : Nat) : k ≤ offM k n Y i := by
  obtain ⟨t, h⟩ := offM_any k n Y i
  omega
theorem offM_le (k : Int) (n : Nat → Nat) (Y : Nat → Nat → List Int) (i m : Nat) (h : i ≤ m) : offM k n Y i ≤ offM k n Y m := by
  induction m with
  | zero => obtain rfl : i = 0 := by omega
            exact Int.le_refl _
  | succ m ih =>
    by_cases e : i = m + 1
    · subst e; exact Int.le_refl _
    · have h1 := ih (by omega)
      have h2 := off_any (offM k n Y m) (Y m) (n m)
      have h3 : offM k n Y (m + 1) = off (offM k n Y m) (fun l => (Y m l).length) (n m) := rfl
      omega
/-- The first j elements are marked. -/
def mkM (k : Int) (n : Nat → Nat) (Y : Nat → Nat → List Int) (j i : Nat) : Nat → List Int := if i < j then mkd (offM k n Y i) (Y i) (n i) else Y i
theorem mkM_len (k : Int) (n : Nat → Nat) (Y : Nat → Nat → List Int) (j i l : Nat) : (mkM k n Y j i l).length = (Y i l).length := by
  unfold mkM
  split
  · exact mkd_len _ _ _ _
  · rfl

set_option maxHeartbeats 1000000 in
theorem markDualS_own (k0 : Int) (hk0 : 0 ≤ k0) (V : Value) (m B : Nat) (US : Nat → Value) (n : Nat → Nat) (VS : Nat → Nat → Value) (Y : Nat → Nat → List Int) (w : World) (h : FamM w B V m US n VS Y) (hs : SepM m n VS) (hB : B ≤ w.heap.size)
    (hk : offM k0 n Y m ≤ 1152921504606846976) :
    Calls Try.prog 23 #[V, .int .i64 k0] w fun e w' => e = .returned (.int .i64 (offM k0 n Y m)) ∧ FamM w' B V m US n VS (mkM k0 n Y m) ∧ Below B w w' := by
  obtain ⟨a, cap, hV, hm, hc⟩ := h.head
  unfold maxLen at hm
  have t2 := Try.underlying27
  by_cases h0 : m = 0
  · subst h0
    subst hV
    clear hc
    have H := Lib.hid h
    go_enter Try.func23, Try.ntmps23
    go_wp2
    refine wp_loop_rounds 1 ?_
    rw [rounds_succ]
    go_wp2
    go_ret
    exact ⟨rfl, ⟨H.out.out, fun i hi => absurd hi (by omega)⟩, Below.refl _ _⟩
  · obtain ⟨b, rfl, hc'⟩ := hc.resolve_left h0
    have HK := Lib.hid hk
    have HS := Lib.hid hs
    have H := Lib.hid h
    have HV := Lib.hid hV
    clear hc hc' h0 hs h hk
    rw [HV.out]
    clear hV
    go_enter Try.func23, Try.ntmps23
    go_wp2
    go_loopw [1, 5] (fun c i wr => ∃ j : Nat, j ≤ m ∧ i = .int .i64 j ∧ c = .int .i64 (offM k0 n Y j) ∧ Hid (FamM wr B V m US n VS (mkM k0 n Y j)) ∧ Hid (Below B w wr)) (fun _ i _ => m - (intOf i).toNat)
    case atStart => exact ⟨0, by omega, rfl, rfl, Lib.hid ⟨H.out.out, fun i hi => by rw [show mkM k0 n Y 0 i = Y i by unfold mkM; rw [if_neg (by omega)]]; exact H.out.inn i hi⟩, Lib.hid (Below.refl _ _)⟩
    case round =>
      obtain ⟨j, hj, rfl, rfl, hF, hBe⟩ := hrel
      by_cases hlt : j < m
      · have hlt' : (j : Int) < (m : Int) := by omega
        have c1 : wr.cell? ⟨b, j, none⟩ = some (US j) := by
          obtain ⟨a', cap', hV', _, hc'⟩ := hF.out.head
          rw [HV.out] at hV'
          cases hV'
          obtain ⟨b', e, hc''⟩ := hc'.resolve_left (by omega)
          cases e
          exact hc'' j hlt
        have hlow := offM_low k0 n Y j
        have hup := offM_le k0 n Y (j + 1) m (by omega)
        have hY : mkM k0 n Y j j = Y j := by unfold mkM; rw [if_neg (by omega)]
        have hin := hF.out.inn j hlt
        rw [hY] at hin
        have M := Lib.hid (markSS_from (offM k0 n Y j) (by omega) (US j) (n j) B (VS j) (Y j) wr hin (HS.out.1 j hlt) (by have := HK.out; have e : offM k0 n Y (j + 1) = off (offM k0 n Y j) (fun l => (Y j l).length) (n j) := rfl; omega))
        have hin := Lib.hid hin
        have NX : Hid (offM k0 n Y (j + 1) = off (offM k0 n Y j) (fun l => (Y j l).length) (n j)) := Lib.hid rfl
        clear hY hup hlow
        generalize off (offM k0 n Y j) (fun l => (Y j l).length) (n j) = kk at M NX
        go_wp2_with fail
        refine M.out.mono ?_
        rintro e w2 ⟨rfl, ho2, hb2, hr2⟩
        have F2 : Hid (FamM w2 B V m US n VS (mkM k0 n Y (j + 1))) := by
          refine Lib.hid ⟨own_sameblock hF.out.out fun g hg => hr2.2 g (hF.out.out.lt g hg).2 fun i hi e => ?_, fun i hi => ?_⟩
          · rcases own_types hF.out.out (hin.out.inn i hi) (by decide) with h1 | h1
            · rw [h1] at hg; cases hg
            · exact h1 (hg.trans e.symm)
          · by_cases e : i = j
            · subst e
              have e2 : mkM k0 n Y (i + 1) i = mkd (offM k0 n Y i) (Y i) (n i) := by unfold mkM; rw [if_pos (by omega)]
              rw [e2]
              exact ho2
            · have e2 : mkM k0 n Y (j + 1) i = mkM k0 n Y j i := by
                unfold mkM
                by_cases h1 : i < j
                · rw [if_pos h1, if_pos (by omega)]
                · rw [if_neg h1, if_neg (by omega)]
              rw [e2]
              exact (hF.out.inn i hi).rest hin.out hr2 (HS.out.2 i j hi hlt e)
        have B2 : Hid (Below B w w2) := Lib.hid (hBe.out.trans hb2)
        clear ho2 hb2 hr2 hF hBe M
        go_wp2
        go_roundw
        case rel => exact ⟨j + 1, by omega, by go_num, by rw [NX.out], F2, B2⟩
        case measure => simp [intOf]; omega
      · obtain rfl : j = m := by omega
        go_wp2
        go_ret
        exact ⟨rfl, by rw [← HV.out]; exact hF.out, hBe.out⟩

theorem heldDualS_own (V : Value) (m B : Nat) (US : Nat → Value) (n : Nat → Nat) (VS : Nat → Nat → Value) (Y : Nat → Nat → List Int) (w : World) (h : FamM w B V m US n VS (mkM 1 n Y m))
    (hk : offM 1 n Y m ≤ 1152921504606846976) :
    Calls Try.prog 24 #[V, .int .i64 1] w fun e w' => e = .returned (.int .i64 (offM 1 n Y m)) ∧ w = w' := by
  obtain ⟨a, cap, rfl, hm, hc⟩ := h.head
  unfold maxLen at hm
  have t2 := Try.underlying27
  by_cases h0 : m = 0
  · subst h0
    clear hc h
    go_enter Try.func24, Try.ntmps24
    go_wp2
    refine wp_loop_rounds 1 ?_
    rw [rounds_succ]
    go_wp2
    go_ret
    exact ⟨rfl, rfl⟩
  · obtain ⟨b, rfl, hc'⟩ := hc.resolve_left h0
    have HK := Lib.hid hk
    have H := Lib.hid h
    have HC := Lib.hid hc'
    clear hc hc' h0 h hk
    go_enter Try.func24, Try.ntmps24
    go_wp2
    go_loop [1, 5] (fun c i => ∃ j : Nat, j ≤ m ∧ i = .int .i64 j ∧ c = .int .i64 (offM 1 n Y j)) (fun _ i => m - (intOf i).toNat)
    case atStart => exact ⟨0, by omega, rfl, rfl⟩
    case round =>
      obtain ⟨j, hj, rfl, rfl⟩ := hrel
      by_cases hlt : j < m
      · have hlt' : (j : Int) < (m : Int) := by omega
        have c1 := HC.out j hlt
        have hlow := offM_low 1 n Y j
        have hlow1 := offM_low 1 n Y (j + 1)
        have hup := offM_le 1 n Y (j + 1) m (by omega)
        have hin := H.out.inn j hlt
        rw [show mkM 1 n Y m j = mkd (offM 1 n Y j) (Y j) (n j) by unfold mkM; rw [if_pos hlt]] at hin
        have M := Lib.hid (heldSSd_from (offM 1 n Y j) (by omega) (US j) (n j) B (VS j) (Y j) w hin (by have := HK.out; have e : offM 1 n Y (j + 1) = off (offM 1 n Y j) (fun l => (Y j l).length) (n j) := rfl; omega))
        have NX : Hid (offM 1 n Y (j + 1) = off (offM 1 n Y j) (fun l => (Y j l).length) (n j)) := Lib.hid rfl
        have hge : ¬ off (offM 1 n Y j) (fun l => (Y j l).length) (n j) < 0 := by rw [← NX.out]; omega
        clear hin hup hlow hlow1
        generalize off (offM 1 n Y j) (fun l => (Y j l).length) (n j) = kk at M NX hge
        generalize US j = uj at c1 M
        go_wp2_with fail
        refine M.out.mono ?_
        rintro e w2 ⟨rfl, rfl⟩
        go_wp2_with fail
        go_round
        case rel => exact ⟨j + 1, by omega, by go_num, by rw [NX.out]⟩
        case measure => simp [intOf]; omega
      · obtain rfl : j = m := by omega
        go_wp2
        go_ret
        exact ⟨rfl, rfl⟩
end Dl
end Go.Proofs.Ytnmilkehggjpfaa
