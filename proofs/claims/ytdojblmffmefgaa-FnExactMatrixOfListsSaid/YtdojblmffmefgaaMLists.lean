/-
  Contracts of spec.MatrixOfLists and impl.MatrixOfLists.
-/
import Derived.Test.YtdojblmffmefgaaMAppend
import Derived.Test.YtdojblmffmefgaaMIs
import Derived.Test.YtdojblmffmefgaaWToSS
namespace Go.Proofs.Ytdojblmffmefgaa
open Go.RowKit
set_option linter.unusedVariables false
set_option maxRecDepth 100000

/-- A list of digits as a row: the first j. -/
def ob (Z : List Int) : Nat → Int
  | 0 => 0
  | j + 1 => bits .or .i64 (ob Z j) (wrap64 (Z[j]?.getD 0 * 2 ^ j))
def okB (Z : List Int) (j : Nat) : Prop := Z[j]?.getD 0 = 0 ∨ Z[j]?.getD 0 = 1
def okR (k : Nat) (Z : List Int) : Prop := Z.length = k ∧ ∀ j, j < k → okB Z j
/-- The first j rows. -/
def obs (k : Nat) (X : Nat → List Int) (j : Nat) : List Int := (List.range j).map fun i => ob (X i) k
theorem obs_succ (k : Nat) (X : Nat → List Int) (j : Nat) : obs k X (j + 1) = obs k X j ++ [ob (X j) k] := by simp [obs, List.range_succ]
theorem obs_length (k : Nat) (X : Nat → List Int) (j : Nat) : (obs k X j).length = j := by simp [obs]

theorem first_of (P : Nat → Prop) (n : Nat) : ∃ z, z ≤ n ∧ (∀ i, i < z → P i) ∧ (z < n → ¬ P z) := by
  induction n with
  | zero => exact ⟨0, Nat.le_refl _, fun i hi => absurd hi (Nat.not_lt_zero _), fun h => absurd h (Nat.lt_irrefl _)⟩
  | succ n ih =>
    obtain ⟨z, h1, h2, h3⟩ := ih
    by_cases hz : z < n
    · exact ⟨z, by omega, h2, fun _ => h3 hz⟩
    · obtain rfl : z = n := by omega
      by_cases hP : P z
      · exact ⟨z + 1, Nat.le_refl _, fun i hi => by
          by_cases e : i = z
          · subst e; exact hP
          · exact h2 i (by omega), fun h => absurd h (Nat.lt_irrefl _)⟩
      · exact ⟨z, by omega, h2, fun _ => hP⟩

theorem areBits_some (s : Value) (n z : Nat) (r : Bool) (G : Nat → Int) (w : World) (h : RdI w s n G) (hz : z ≤ n) (hgood : ∀ i, i < z → G i = 0 ∨ G i = 1)
    (hend : (z = n ∧ r = true) ∨ (z < n ∧ ¬ (G z = 0 ∨ G z = 1) ∧ r = false)) :
    Calls Try.prog 38 #[s] w fun e w' => e = .returned (.bool r) ∧ w = w' := by
  obtain ⟨a, cap, rfl, hm, hc⟩ := h
  unfold maxLen at hm
  have HG := Lib.hid hgood
  have HE := Lib.hid hend
  have HC := Lib.hid hc
  clear hc hgood hend
  go_enter Try.func38, Try.ntmps38
  go_wp2
  go_loop [4, 7] (fun _ i => ∃ j : Nat, j ≤ z ∧ i = .int .i64 j) (fun _ i => n - (intOf i).toNat)
  case atStart => exact ⟨0, by omega, rfl⟩
  case round =>
    obtain ⟨j, hj, rfl⟩ := hrel
    by_cases hlt : j < n
    · have hlt' : (j : Int) < (n : Int) := by omega
      obtain ⟨b, off, rfl, hc⟩ := HC.out.resolve_left (by omega)
      have d1 := hc j hlt
      clear hc
      by_cases hz2 : j < z
      · have hg := HG.out j hz2
        rcases hg with hg | hg <;> rw [hg] at d1 <;> clear hg
        · go_wp2
          go_round
          case rel => exact ⟨j + 1, by omega, by go_num⟩
          case measure => simp [intOf]; omega
        · go_wp2
          go_round
          case rel => exact ⟨j + 1, by omega, by go_num⟩
          case measure => simp [intOf]; omega
      · obtain rfl : j = z := by omega
        obtain ⟨_, hg, rfl⟩ := HE.out.resolve_left (fun h => by omega)
        generalize G j = x at d1 hg
        have h0 : (x != 0) = true := by rw [bne_iff_ne]; exact fun h => hg (.inl h)
        have h1 : (x != 1) = true := by rw [bne_iff_ne]; exact fun h => hg (.inr h)
        clear hg
        go_wp2
        go_ret
        exact ⟨rfl, rfl⟩
    · obtain rfl : j = n := by omega
      have hr : r = true := by
        rcases HE.out with ⟨_, h⟩ | ⟨h, _⟩
        · exact h
        · omega
      subst hr
      go_wp2
      go_ret
      exact ⟨rfl, rfl⟩

theorem rowOfBits_any (s : Value) (k : Nat) (Z : List Int) (w : World) (h : RdI w s k (fun j => Z[j]?.getD 0)) (hk : k ≤ 60) :
    Calls Try.prog 39 #[s] w fun e w' => e = .returned (.int .i64 (ob Z k)) ∧ Below w.heap.size w w' := by
  obtain ⟨a, cap, rfl, hm, hc⟩ := h
  have HC := Lib.hid hc
  clear hc hm
  go_enter Try.func39, Try.ntmps39
  go_wp2
  go_loop [3, 4, 5, 8] (fun t _ _ i => ∃ j : Nat, j ≤ k ∧ i = .int .i64 j ∧ t = .int .i64 (ob Z j)) (fun _ _ _ i => k - (intOf i).toNat)
  case atStart => exact ⟨0, by omega, rfl, rfl⟩
  case round =>
    obtain ⟨j, hj, rfl, rfl⟩ := hrel
    by_cases hlt : j < k
    · have hlt' : (j : Int) < (k : Int) := by omega
      obtain ⟨b, off, rfl, hc⟩ := HC.out.resolve_left (by omega)
      have d1 := hc j hlt
      clear hc
      have HT : Hid (ob Z (j + 1) = bits .or .i64 (ob Z j) (wrap64 (Z[j]?.getD 0 * 2 ^ j))) := Lib.hid rfl
      generalize Z[j]?.getD 0 = z at d1 HT
      generalize ob Z j = t at HT ⊢
      go_wp2
      go_round
      case rel => exact ⟨j + 1, by omega, by go_num, by rw [HT.out]⟩
      case measure => simp [intOf]; omega
    · obtain rfl : j = k := by omega
      go_wp2
      go_ret
      exact ⟨rfl, Below.refl _ _⟩

/-- What both return. -/
structure Ml (c : Int) (m : Nat) (X : Nat → List Int) (C : Int) (L : List Int) (cd : Int) : Prop where
  out : (c < 0 ∨ 60 < c ∨ 200 < m) → C = 0 ∧ L = [] ∧ cd = 2
  bad : ∀ k : Nat, c = k → k ≤ 60 → m ≤ 200 → (¬ ∀ i, i < m → okR k (X i)) → C = 0 ∧ L = [] ∧ cd = 2
  good : ∀ k : Nat, c = k → k ≤ 60 → m ≤ 200 → (∀ i, i < m → okR k (X i)) → C = k ∧ L = obs k X m ∧ cd = 0
theorem ml_ex (c : Int) (m : Nat) (X : Nat → List Int) : ∃ C L cd, Ml c m X C L cd ∧ L.length ≤ 200 := by
  by_cases h0 : c < 0 ∨ 60 < c ∨ 200 < m
  · refine ⟨0, [], 2, ⟨fun _ => ⟨rfl, rfl, rfl⟩, fun _ _ _ _ _ => ⟨rfl, rfl, rfl⟩, fun k h1 h2 h3 _ => ?_⟩, by simp⟩
    exact absurd h0 (by omega)
  · obtain ⟨k, rfl⟩ : ∃ k : Nat, c = k := ⟨c.toNat, by omega⟩
    by_cases hg : ∀ i, i < m → okR k (X i)
    · refine ⟨k, obs k X m, 0, ⟨fun h => absurd h h0, fun k' h1 _ _ hb => ?_, fun k' h1 _ _ _ => ?_⟩, by rw [obs_length]; omega⟩
      · have e : k = k' := by omega
        subst e
        exact absurd hg hb
      · have e : k = k' := by omega
        subst e
        exact ⟨rfl, rfl, rfl⟩
    · refine ⟨0, [], 2, ⟨fun _ => ⟨rfl, rfl, rfl⟩, fun _ _ _ _ _ => ⟨rfl, rfl, rfl⟩, fun k' h1 _ _ hb => ?_⟩, by simp⟩
      have e : k = k' := by omega
      subst e
      exact absurd hb hg

/-- Both functions begin with a box for the result and one for the matrix. -/
theorem lists_start (w : World) (k : Nat) (X : Nat → List Int) : Bld w w.heap.size w.heap.size (w.heap.size + 1) (.int .i64 0) (.slice none 0 0) k (.slice none 0 0) (obs k X 0)
    ((w.alloc (.cells #[.int .i64 0, .slice none 0 0] 27)).alloc (.cells #[.int .i64 k, .slice none 0 0] 27)) := by
  refine ⟨((Below.refl w.heap.size w).alloc (Nat.le_refl _) _).alloc (by simp) _, (Box.new w _ _ _).alloc _, (Box.new w _ _ _).alloc _, ?_, World.ownsRow_nil _ _ _ _, by omega, by omega, by omega, by omega, by omega⟩
  have := Box.new (w.alloc (.cells #[.int .i64 0, .slice none 0 0] 27)) 27 (.int .i64 k) (.slice none 0 0)
  simpa using this

theorem ne_mi1 : 27 ≠ 2 := by decide

set_option maxHeartbeats 2000000 in
theorem specLists_in (k m : Nat) (a : Option Addr) (cap : Nat) (X : Nat → List Int) (C : Int) (L' : List Int) (cd : Int) (w : World) (h : RdSS w (.slice a m cap) m X) (hk : k ≤ 60) (hm : m ≤ 200) (hres : Ml k m X C L' cd) :
    Calls Try.prog 15 #[.int .i64 k, .slice a m cap] w (MRes C L' cd w) := by
  obtain ⟨z, hz, hgood, hbad⟩ := first_of (fun i => okR k (X i)) m
  have RB : Hid (z < m → C = 0 ∧ L' = [] ∧ cd = 2) := Lib.hid (fun hlt => hres.bad k rfl hk hm (fun hall => hbad hlt (hall z hlt)))
  have RG : Hid (z = m → C = k ∧ L' = obs k X m ∧ cd = 0) := Lib.hid (fun e => hres.good k rfl hk hm (fun i hi => hgood i (by omega)))
  obtain ⟨_, _, VS, hc, hr⟩ := h
  have HC := Lib.hid hc
  have HR := Lib.hid hr
  have HG := Lib.hid hgood
  have HB := Lib.hid hbad
  clear hc hr hgood hbad hres
  have hm' : (m : Int) ≤ 200 := by omega
  have t2 := Try.underlying27
  have W3 : ∃ w3, w3 = ((w.alloc (.cells #[.int .i64 0, .slice none 0 0] 27)).alloc (.cells #[.int .i64 k, .slice none 0 0] 27)) := ⟨_, rfl⟩
  obtain ⟨w3, hw3⟩ := W3
  have S3 : Hid (Bld w w.heap.size w.heap.size (w.heap.size + 1) (.int .i64 0) (.slice none 0 0) k (.slice none 0 0) (obs k X 0) w3) := Lib.hid (by rw [hw3]; exact lists_start w k X)
  go_enter Try.func15, Try.ntmps15
  go_wp2_with (go_at_call 37; refine (l01In_yes k 0 60 _ (by omega) (by omega)).mono ?_; rintro e w' ⟨rfl, rfl⟩)
  rw [← hw3]
  clear hw3
  go_loopw [7] (fun c wr => ∃ (i : Nat) (v : Value), i ≤ z ∧ c = .int .i64 i ∧ Hid (Bld w w.heap.size w.heap.size (w.heap.size + 1) (.int .i64 0) (.slice none 0 0) k v (obs k X i) wr)) (fun c _ => m - (intOf c).toNat)
  case atStart => exact ⟨0, _, by omega, rfl, S3⟩
  case round =>
    clear S3
    obtain ⟨i, v, hi, rfl, S⟩ := hrel
    have o0 := S.out.own
    rw [obs_length] at o0
    obtain ⟨va, vc, rfl⟩ := o0.shape
    have O := Lib.hid o0
    clear o0
    by_cases hlt : i < m
    · have hlt' : (i : Int) < (m : Int) := by omega
      obtain ⟨b, off, ⟨cap', e⟩, hc'⟩ := HC.out.resolve_left (by omega)
      cases e
      have c1 := (S.out.bel.cell (p := ⟨b, off + i, none⟩) (World.block_lt_of_cell? w _ (hc' i hlt))).trans (hc' i hlt)
      obtain ⟨ua, uc, hv, hvm, hvc⟩ := (HR.out i hlt).below S.out.bel
      rw [hv] at c1
      clear hv hc'
      have cR0 := S.out.bR.c0
      have cR1 := S.out.bR.c1
      have fR0 := S.out.bR.fr 0
      have fR1 := S.out.bR.fr 1
      have X5 := Lib.hid ((S.out.bR.set0 (.int .i64 0)).set1 (.slice none 0 0))
      have B5 := Lib.hid ((S.out.bel.setCell (p := ⟨w.heap.size, 0, none⟩) (by simp) (.int .i64 0)).setCell (p := ⟨w.heap.size, 1, none⟩) (by simp) (.slice none 0 0))
      by_cases hlen : (X i).length = k
      · obtain ⟨zj, hzj, hgj, hbj⟩ := first_of (okB (X i)) k
        have GJ := Lib.hid hgj
        have BJ := Lib.hid hbj
        have FULL : Hid (zj = k ↔ i < z) := Lib.hid (by
          constructor
          · intro e
            apply Decidable.byContradiction
            intro hn
            obtain rfl : i = z := by omega
            exact HB.out hlt ⟨hlen, fun j hj => hgj j (by omega)⟩
          · intro hl
            apply Decidable.byContradiction
            intro hn
            exact hbj (by omega) ((HG.out i hl).2 zj (by omega)))
        rw [hlen] at c1 hvc
        have VC := Lib.hid hvc
        clear hvc hgj hbj hlen hvm
        go_wp2
        go_loop [8, 9] (fun t q => ∃ j : Nat, j ≤ zj ∧ q = .int .i64 j ∧ t = .int .i64 (ob (X i) j)) (fun _ q => k - (intOf q).toNat)
        case atStart => exact ⟨0, by omega, rfl, rfl⟩
        case round =>
          obtain ⟨j, hj, rfl, rfl⟩ := hrel
          by_cases hlt2 : j < k
          · have hlt2' : (j : Int) < (k : Int) := by omega
            obtain ⟨b2, off2, rfl, hc2⟩ := VC.out.resolve_left (by omega)
            have d1 := hc2 j hlt2
            clear hc2
            by_cases hz2 : j < zj
            · have HT : Hid (ob (X i) (j + 1) = bits .or .i64 (ob (X i) j) (wrap64 ((X i)[j]?.getD 0 * 2 ^ j))) := Lib.hid rfl
              have hx := GJ.out j hz2
              unfold okB at hx
              generalize (X i)[j]?.getD 0 = x at d1 HT hx
              generalize ob (X i) j = t at HT ⊢
              have hx0 : 0 ≤ x := by omega
              have hx1 : x ≤ 1 := by omega
              clear hx
              go_wp2_with (go_at_call 37; refine (l01In_yes x 0 1 _ (by omega) (by omega)).mono ?_; rintro e w' ⟨rfl, rfl⟩)
              go_round
              case rel => exact ⟨j + 1, by omega, by go_num, by rw [HT.out]⟩
              case measure => simp [intOf]; omega
            · obtain rfl : j = zj := by omega
              have hx := BJ.out hlt2
              unfold okB at hx
              generalize (X i)[j]?.getD 0 = x at d1 hx
              generalize ob (X i) j = t
              have hx0 : x < 0 ∨ 1 < x := by omega
              clear hx
              have hiz : z < m := by
                have := FULL.out
                omega
              obtain ⟨E1, E2, E3⟩ := RB.out hiz
              have E1 := Lib.hid E1
              have E2 := Lib.hid E2
              have E3 := Lib.hid E3
              go_wp2_with (go_at_call 37; refine (l01In_no x 0 1 _ hx0).mono ?_; rintro e w' ⟨rfl, rfl⟩)
              refine bodyPost_ret (results_box_tmp rfl _ _ w.heap.size _ _ _ rfl X5.out t2 (by kernel_rfl)) rfl ?_
              exact ⟨_, by rw [E1.out, E3.out]; rfl, by rw [E2.out]; exact World.ownsRow_nil _ _ _ _, B5.out⟩
          · obtain rfl : j = k := by omega
            have hiz : i < z := FULL.out.1 (by omega)
            clear cR0 cR1 fR0 fR1 X5 B5
            have E : Hid (obs j X (i + 1) = obs j X i ++ [ob (X i) j]) := Lib.hid (obs_succ j X i)
            have LL := Lib.hid (obs_length j X i)
            generalize ob (X i) j = r at *
            generalize obs j X i = L at *
            have A := Lib.hid (S.out.alloc (.cells #[.int .i64 r] 2))
            have AO : Hid ((wr.alloc (.cells #[.int .i64 r] 2)).ownsRow w.heap.size 2 1 (.slice va i vc) i (L.map (Value.int .i64))) := Lib.hid (own_below O.out ((Below.refl _ _).alloc (Nat.le_refl _) _))
            have cO1 := S.out.bO.c1
            go_wp2_with (at_builtin; refine wpList_append1 rfl _ _ rfl w.heap.size _ i L rfl AO.out r _ 1 rfl (World.cell?_alloc_new _ _ _ _) ?c1 ?c2 ?_)
            case c1 => omega
            case c2 => have := S.out.bel.size; simp; omega
            intro v' w2 ho hg
            obtain ⟨va', vc', rfl⟩ := ho.shape
            have A2 := Lib.hid (A.out.app (r := r) (by rw [LL.out, List.map_append]; exact ho) hg)
            have F := Lib.hid (Bld2.store A.out A2.out)
            have e0 := A2.out.bO.c1
            have e1 := A2.out.bO.fr 1
            clear ho hg
            go_wp2
            go_roundw
            case rel => exact ⟨i + 1, _, by omega, by go_num, Lib.hid (by rw [E.out]; exact F.out)⟩
            case measure => simp [intOf]; omega
      · have hiz : z < m := by
          apply Decidable.byContradiction
          intro hn
          exact hlen ((HG.out i (by omega)).1)
        obtain ⟨E1, E2, E3⟩ := RB.out hiz
        have E1 := Lib.hid E1
        have E2 := Lib.hid E2
        have E3 := Lib.hid E3
        clear hvc hvm
        generalize (X i).length = n at *
        have hne : ((n : Int) != (k : Int)) = true := by rw [bne_iff_ne]; omega
        clear hlen
        go_wp2
        refine bodyPost_ret (results_box_tmp rfl _ _ w.heap.size _ _ _ rfl X5.out t2 (by kernel_rfl)) rfl ?_
        exact ⟨_, by rw [E1.out, E3.out]; rfl, by rw [E2.out]; exact World.ownsRow_nil _ _ _ _, B5.out⟩
    · obtain rfl : i = m := by omega
      obtain ⟨E1, E2, E3⟩ := RG.out (by omega)
      have E1 := Lib.hid E1
      have E2 := Lib.hid E2
      have E3 := Lib.hid E3
      have cO0 := S.out.bO.c0
      have cO1 := S.out.bO.c1
      have cR0 := S.out.bR.c0
      have cR1 := S.out.bR.c1
      have fR0 := S.out.bR.fr 0
      have fR1 := S.out.bR.fr 1
      obtain ⟨F1, F2, F3⟩ := S.out.fin
      have F1 := Lib.hid F1
      have F2 := Lib.hid F2
      have F3 := Lib.hid F3
      go_wp2
      refine bodyPost_ret (results_box_tmp rfl _ _ w.heap.size _ _ _ rfl F1.out t2 (by kernel_rfl)) rfl ?_
      refine ⟨_, by rw [E1.out, E3.out]; rfl, ?_, F3.out⟩
      rw [E2.out]
      exact F2.out

end Go.Proofs.Ytdojblmffmefgaa
