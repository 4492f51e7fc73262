/-
  Contracts of spec.MatrixOfLists and impl.MatrixOfLists.
  Contracts of spec.MatrixOfLists out of range, and of impl.MatrixOfLists.
  Contracts of spec.ListsOfMatrix and impl.ListsOfMatrix.
-/
import Derived.Test.YtdojblmffmefgaaDoorMAppend
import Derived.Test.YtdojblmffmefgaaDoorMIs
import Derived.Test.YtdojblmffmefgaaDoorDFam
import Derived.Deep.RegionLaw
import Derived.Test.YtdojblmffmefgaaDoorMFew
namespace Go.Proofs.YtdojblmffmefgaaDoor
open Go.RowKit
set_option linter.unusedVariables false
set_option maxRecDepth 100000
set_option maxRecDepth 100000

/-- A list of digits as a row: the first j. -/
def ob (Z : List Int) : Nat → Int
  | 0 => 0
  | j + 1 => bits .or .i64 (ob Z j) (wrap64 (Z[j]?.getD 0 * 2 ^ j))
def okB (Z : List Int) (j : Nat) : Prop := Z[j]?.getD 0 = 0 ∨ Z[j]?.getD 0 = 1
def okR (k : Nat) (Z : List Int) : Prop := Z.length = k ∧ ∀ j, j < k → okB Z j
/-- The first j rows. -/
def obs (k : Nat) (X : Nat → List Int) (j : Nat) : List Int := (List.range j).map fun i => ob (X i) k
theorem obs_succ (k : Nat) (X : Nat → List Int) (j : Nat) : obs k X (j + 1) = obs k X j ++ [ob (X j) k] := by simp [obs, List.range_succ]
theorem obs_length (k : Nat) (X : Nat → List Int) (j : Nat) : (obs k X j).length = j := by simp [obs]

theorem first_of (P : Nat → Prop) (n : Nat) : ∃ z, z ≤ n ∧ (∀ i, i < z → P i) ∧ (z < n → ¬ P z) := by
  induction n with
  | zero => exact ⟨0, Nat.le_refl _, fun i hi => absurd hi (Nat.not_lt_zero _), fun h => absurd h (Nat.lt_irrefl _)⟩
  | succ n ih =>
    obtain ⟨z, h1, h2, h3⟩ := ih
    by_cases hz : z < n
    · exact ⟨z, by omega, h2, fun _ => h3 hz⟩
    · obtain rfl : z = n := by omega
      by_cases hP : P z
      · exact ⟨z + 1, Nat.le_refl _, fun i hi => by
          by_cases e : i = z
          · subst e; exact hP
          · exact h2 i (by omega), fun h => absurd h (Nat.lt_irrefl _)⟩
      · exact ⟨z, by omega, h2, fun _ => hP⟩

theorem areBits_some (s : Value) (n z : Nat) (r : Bool) (G : Nat → Int) (w : World) (h : RdI w s n G) (hz : z ≤ n) (hgood : ∀ i, i < z → G i = 0 ∨ G i = 1)
    (hend : (z = n ∧ r = true) ∨ (z < n ∧ ¬ (G z = 0 ∨ G z = 1) ∧ r = false)) :
    Calls Tryd.prog 75 #[s] w fun e w' => e = .returned (.bool r) ∧ w = w' := by
  obtain ⟨a, cap, rfl, hm, hc⟩ := h
  unfold maxLen at hm
  have HG := Lib.hid hgood
  have HE := Lib.hid hend
  have HC := Lib.hid hc
  clear hc hgood hend
  go_enter Tryd.func75, Tryd.ntmps75
  go_wp2
  go_loop [4, 7] (fun _ i => ∃ j : Nat, j ≤ z ∧ i = .int .i64 j) (fun _ i => n - (intOf i).toNat)
  case atStart => exact ⟨0, by omega, rfl⟩
  case round =>
    obtain ⟨j, hj, rfl⟩ := hrel
    by_cases hlt : j < n
    · have hlt' : (j : Int) < (n : Int) := by omega
      obtain ⟨b, off, rfl, hc⟩ := HC.out.resolve_left (by omega)
      have d1 := hc j hlt
      clear hc
      by_cases hz2 : j < z
      · have hg := HG.out j hz2
        rcases hg with hg | hg <;> rw [hg] at d1 <;> clear hg
        · go_wp2
          go_round
          case rel => exact ⟨j + 1, by omega, by go_num⟩
          case measure => simp [intOf]; omega
        · go_wp2
          go_round
          case rel => exact ⟨j + 1, by omega, by go_num⟩
          case measure => simp [intOf]; omega
      · obtain rfl : j = z := by omega
        obtain ⟨_, hg, rfl⟩ := HE.out.resolve_left (fun h => by omega)
        generalize G j = x at d1 hg
        have h0 : (x != 0) = true := by rw [bne_iff_ne]; exact fun h => hg (.inl h)
        have h1 : (x != 1) = true := by rw [bne_iff_ne]; exact fun h => hg (.inr h)
        clear hg
        go_wp2
        go_ret
        exact ⟨rfl, rfl⟩
    · obtain rfl : j = n := by omega
      have hr : r = true := by
        rcases HE.out with ⟨_, h⟩ | ⟨h, _⟩
        · exact h
        · omega
      subst hr
      go_wp2
      go_ret
      exact ⟨rfl, rfl⟩

theorem rowOfBits_any (s : Value) (k : Nat) (Z : List Int) (w : World) (h : RdI w s k (fun j => Z[j]?.getD 0)) (hk : k ≤ 60) :
    Calls Tryd.prog 76 #[s] w fun e w' => e = .returned (.int .i64 (ob Z k)) ∧ Below w.heap.size w w' := by
  obtain ⟨a, cap, rfl, hm, hc⟩ := h
  have HC := Lib.hid hc
  clear hc hm
  go_enter Tryd.func76, Tryd.ntmps76
  go_wp2
  go_loop [3, 4, 5, 8] (fun t _ _ i => ∃ j : Nat, j ≤ k ∧ i = .int .i64 j ∧ t = .int .i64 (ob Z j)) (fun _ _ _ i => k - (intOf i).toNat)
  case atStart => exact ⟨0, by omega, rfl, rfl⟩
  case round =>
    obtain ⟨j, hj, rfl, rfl⟩ := hrel
    by_cases hlt : j < k
    · have hlt' : (j : Int) < (k : Int) := by omega
      obtain ⟨b, off, rfl, hc⟩ := HC.out.resolve_left (by omega)
      have d1 := hc j hlt
      clear hc
      have HT : Hid (ob Z (j + 1) = bits .or .i64 (ob Z j) (wrap64 (Z[j]?.getD 0 * 2 ^ j))) := Lib.hid rfl
      generalize Z[j]?.getD 0 = z at d1 HT
      generalize ob Z j = t at HT ⊢
      go_wp2
      go_round
      case rel => exact ⟨j + 1, by omega, by go_num, by rw [HT.out]⟩
      case measure => simp [intOf]; omega
    · obtain rfl : j = k := by omega
      go_wp2
      go_ret
      exact ⟨rfl, Below.refl _ _⟩

/-- What both return. -/
structure Ml (c : Int) (m : Nat) (X : Nat → List Int) (C : Int) (L : List Int) (cd : Int) : Prop where
  out : (c < 0 ∨ 60 < c ∨ 200 < m) → C = 0 ∧ L = [] ∧ cd = 2
  bad : ∀ k : Nat, c = k → k ≤ 60 → m ≤ 200 → (¬ ∀ i, i < m → okR k (X i)) → C = 0 ∧ L = [] ∧ cd = 2
  good : ∀ k : Nat, c = k → k ≤ 60 → m ≤ 200 → (∀ i, i < m → okR k (X i)) → C = k ∧ L = obs k X m ∧ cd = 0
theorem ml_ex (c : Int) (m : Nat) (X : Nat → List Int) : ∃ C L cd, Ml c m X C L cd ∧ L.length ≤ 200 := by
  by_cases h0 : c < 0 ∨ 60 < c ∨ 200 < m
  · refine ⟨0, [], 2, ⟨fun _ => ⟨rfl, rfl, rfl⟩, fun _ _ _ _ _ => ⟨rfl, rfl, rfl⟩, fun k h1 h2 h3 _ => ?_⟩, by simp⟩
    exact absurd h0 (by omega)
  · obtain ⟨k, rfl⟩ : ∃ k : Nat, c = k := ⟨c.toNat, by omega⟩
    by_cases hg : ∀ i, i < m → okR k (X i)
    · refine ⟨k, obs k X m, 0, ⟨fun h => absurd h h0, fun k' h1 _ _ hb => ?_, fun k' h1 _ _ _ => ?_⟩, by rw [obs_length]; omega⟩
      · have e : k = k' := by omega
        subst e
        exact absurd hg hb
      · have e : k = k' := by omega
        subst e
        exact ⟨rfl, rfl, rfl⟩
    · refine ⟨0, [], 2, ⟨fun _ => ⟨rfl, rfl, rfl⟩, fun _ _ _ _ _ => ⟨rfl, rfl, rfl⟩, fun k' h1 _ _ hb => ?_⟩, by simp⟩
      have e : k = k' := by omega
      subst e
      exact absurd hb hg

/-- Both functions begin with a box for the result and one for the matrix. -/
theorem lists_start (w : World) (k : Nat) (X : Nat → List Int) : Bld w w.heap.size w.heap.size (w.heap.size + 1) (.int .i64 0) (.slice none 0 0) k (.slice none 0 0) (obs k X 0)
    ((w.alloc (.cells #[.int .i64 0, .slice none 0 0] 26)).alloc (.cells #[.int .i64 k, .slice none 0 0] 26)) := by
  refine ⟨((Below.refl w.heap.size w).alloc (Nat.le_refl _) _).alloc (by simp) _, (Box.new w _ _ _).alloc _, (Box.new w _ _ _).alloc _, ?_, World.ownsRow_nil _ _ _ _, by omega, by omega, by omega, by omega, by omega⟩
  have := Box.new (w.alloc (.cells #[.int .i64 0, .slice none 0 0] 26)) 26 (.int .i64 k) (.slice none 0 0)
  simpa using this

theorem ne_mi1 : 26 ≠ 2 := by decide

set_option maxHeartbeats 2000000 in
theorem specLists_in (k m : Nat) (a : Option Addr) (cap : Nat) (X : Nat → List Int) (C : Int) (L' : List Int) (cd : Int) (w : World) (h : RdSS w (.slice a m cap) m X) (hk : k ≤ 60) (hm : m ≤ 200) (hres : Ml k m X C L' cd) :
    Calls Tryd.prog 24 #[.int .i64 k, .slice a m cap] w (MRes C L' cd w) := by
  obtain ⟨z, hz, hgood, hbad⟩ := first_of (fun i => okR k (X i)) m
  have RB : Hid (z < m → C = 0 ∧ L' = [] ∧ cd = 2) := Lib.hid (fun hlt => hres.bad k rfl hk hm (fun hall => hbad hlt (hall z hlt)))
  have RG : Hid (z = m → C = k ∧ L' = obs k X m ∧ cd = 0) := Lib.hid (fun e => hres.good k rfl hk hm (fun i hi => hgood i (by omega)))
  obtain ⟨_, _, VS, hc, hr⟩ := h
  have HC := Lib.hid hc
  have HR := Lib.hid hr
  have HG := Lib.hid hgood
  have HB := Lib.hid hbad
  clear hc hr hgood hbad hres
  have hm' : (m : Int) ≤ 200 := by omega
  have t2 := Tryd.underlying26
  have W3 : ∃ w3, w3 = ((w.alloc (.cells #[.int .i64 0, .slice none 0 0] 26)).alloc (.cells #[.int .i64 k, .slice none 0 0] 26)) := ⟨_, rfl⟩
  obtain ⟨w3, hw3⟩ := W3
  have S3 : Hid (Bld w w.heap.size w.heap.size (w.heap.size + 1) (.int .i64 0) (.slice none 0 0) k (.slice none 0 0) (obs k X 0) w3) := Lib.hid (by rw [hw3]; exact lists_start w k X)
  go_enter Tryd.func24, Tryd.ntmps24
  go_wp2_with (go_at_call 77; refine (l01In_yes k 0 60 _ (by omega) (by omega)).mono ?_; rintro e w' ⟨rfl, rfl⟩)
  rw [← hw3]
  clear hw3
  go_loopw [7] (fun c wr => ∃ (i : Nat) (v : Value), i ≤ z ∧ c = .int .i64 i ∧ Hid (Bld w w.heap.size w.heap.size (w.heap.size + 1) (.int .i64 0) (.slice none 0 0) k v (obs k X i) wr)) (fun c _ => m - (intOf c).toNat)
  case atStart => exact ⟨0, _, by omega, rfl, S3⟩
  case round =>
    clear S3
    obtain ⟨i, v, hi, rfl, S⟩ := hrel
    have o0 := S.out.own
    rw [obs_length] at o0
    obtain ⟨va, vc, rfl⟩ := o0.shape
    have O := Lib.hid o0
    clear o0
    by_cases hlt : i < m
    · have hlt' : (i : Int) < (m : Int) := by omega
      obtain ⟨b, off, ⟨cap', e⟩, hc'⟩ := HC.out.resolve_left (by omega)
      cases e
      have c1 := (S.out.bel.cell (p := ⟨b, off + i, none⟩) (World.block_lt_of_cell? w _ (hc' i hlt))).trans (hc' i hlt)
      obtain ⟨ua, uc, hv, hvm, hvc⟩ := (HR.out i hlt).below S.out.bel
      rw [hv] at c1
      clear hv hc'
      have cR0 := S.out.bR.c0
      have cR1 := S.out.bR.c1
      have fR0 := S.out.bR.fr 0
      have fR1 := S.out.bR.fr 1
      have X5 := Lib.hid ((S.out.bR.set0 (.int .i64 0)).set1 (.slice none 0 0))
      have B5 := Lib.hid ((S.out.bel.setCell (p := ⟨w.heap.size, 0, none⟩) (by simp) (.int .i64 0)).setCell (p := ⟨w.heap.size, 1, none⟩) (by simp) (.slice none 0 0))
      by_cases hlen : (X i).length = k
      · obtain ⟨zj, hzj, hgj, hbj⟩ := first_of (okB (X i)) k
        have GJ := Lib.hid hgj
        have BJ := Lib.hid hbj
        have FULL : Hid (zj = k ↔ i < z) := Lib.hid (by
          constructor
          · intro e
            apply Decidable.byContradiction
            intro hn
            obtain rfl : i = z := by omega
            exact HB.out hlt ⟨hlen, fun j hj => hgj j (by omega)⟩
          · intro hl
            apply Decidable.byContradiction
            intro hn
            exact hbj (by omega) ((HG.out i hl).2 zj (by omega)))
        rw [hlen] at c1 hvc
        have VC := Lib.hid hvc
        clear hvc hgj hbj hlen hvm
        go_wp2
        go_loop [8, 9] (fun t q => ∃ j : Nat, j ≤ zj ∧ q = .int .i64 j ∧ t = .int .i64 (ob (X i) j)) (fun _ q => k - (intOf q).toNat)
        case atStart => exact ⟨0, by omega, rfl, rfl⟩
        case round =>
          obtain ⟨j, hj, rfl, rfl⟩ := hrel
          by_cases hlt2 : j < k
          · have hlt2' : (j : Int) < (k : Int) := by omega
            obtain ⟨b2, off2, rfl, hc2⟩ := VC.out.resolve_left (by omega)
            have d1 := hc2 j hlt2
            clear hc2
            by_cases hz2 : j < zj
            · have HT : Hid (ob (X i) (j + 1) = bits .or .i64 (ob (X i) j) (wrap64 ((X i)[j]?.getD 0 * 2 ^ j))) := Lib.hid rfl
              have hx := GJ.out j hz2
              unfold okB at hx
              generalize (X i)[j]?.getD 0 = x at d1 HT hx
              generalize ob (X i) j = t at HT ⊢
              have hx0 : 0 ≤ x := by omega
              have hx1 : x ≤ 1 := by omega
              clear hx
              go_wp2_with (go_at_call 77; refine (l01In_yes x 0 1 _ (by omega) (by omega)).mono ?_; rintro e w' ⟨rfl, rfl⟩)
              go_round
              case rel => exact ⟨j + 1, by omega, by go_num, by rw [HT.out]⟩
              case measure => simp [intOf]; omega
            · obtain rfl : j = zj := by omega
              have hx := BJ.out hlt2
              unfold okB at hx
              generalize (X i)[j]?.getD 0 = x at d1 hx
              generalize ob (X i) j = t
              have hx0 : x < 0 ∨ 1 < x := by omega
              clear hx
              have hiz : z < m := by
                have := FULL.out
                omega
              obtain ⟨E1, E2, E3⟩ := RB.out hiz
              have E1 := Lib.hid E1
              have E2 := Lib.hid E2
              have E3 := Lib.hid E3
              go_wp2_with (go_at_call 77; refine (l01In_no x 0 1 _ hx0).mono ?_; rintro e w' ⟨rfl, rfl⟩)
              refine bodyPost_ret (results_box_tmp rfl _ _ w.heap.size _ _ _ rfl X5.out t2 (by kernel_rfl)) rfl ?_
              exact ⟨_, by rw [E1.out, E3.out]; rfl, by rw [E2.out]; exact World.ownsRow_nil _ _ _ _, B5.out⟩
          · obtain rfl : j = k := by omega
            have hiz : i < z := FULL.out.1 (by omega)
            clear cR0 cR1 fR0 fR1 X5 B5
            have E : Hid (obs j X (i + 1) = obs j X i ++ [ob (X i) j]) := Lib.hid (obs_succ j X i)
            have LL := Lib.hid (obs_length j X i)
            generalize ob (X i) j = r at *
            generalize obs j X i = L at *
            have A := Lib.hid (S.out.alloc (.cells #[.int .i64 r] 2))
            have AO : Hid ((wr.alloc (.cells #[.int .i64 r] 2)).ownsRow w.heap.size 2 1 (.slice va i vc) i (L.map (Value.int .i64))) := Lib.hid (own_below O.out ((Below.refl _ _).alloc (Nat.le_refl _) _))
            have cO1 := S.out.bO.c1
            go_wp2_with (at_builtin; refine wpList_append1 rfl _ _ rfl w.heap.size _ i L rfl AO.out r _ 1 rfl (World.cell?_alloc_new _ _ _ _) ?c1 ?c2 ?_)
            case c1 => omega
            case c2 => have := S.out.bel.size; simp; omega
            intro v' w2 ho hg
            obtain ⟨va', vc', rfl⟩ := ho.shape
            have A2 := Lib.hid (A.out.app (r := r) (by rw [LL.out, List.map_append]; exact ho) hg)
            have F := Lib.hid (Bld2.store A.out A2.out)
            have e0 := A2.out.bO.c1
            have e1 := A2.out.bO.fr 1
            clear ho hg
            go_wp2
            go_roundw
            case rel => exact ⟨i + 1, _, by omega, by go_num, Lib.hid (by rw [E.out]; exact F.out)⟩
            case measure => simp [intOf]; omega
      · have hiz : z < m := by
          apply Decidable.byContradiction
          intro hn
          exact hlen ((HG.out i (by omega)).1)
        obtain ⟨E1, E2, E3⟩ := RB.out hiz
        have E1 := Lib.hid E1
        have E2 := Lib.hid E2
        have E3 := Lib.hid E3
        clear hvc hvm
        generalize (X i).length = n at *
        have hne : ((n : Int) != (k : Int)) = true := by rw [bne_iff_ne]; omega
        clear hlen
        go_wp2
        refine bodyPost_ret (results_box_tmp rfl _ _ w.heap.size _ _ _ rfl X5.out t2 (by kernel_rfl)) rfl ?_
        exact ⟨_, by rw [E1.out, E3.out]; rfl, by rw [E2.out]; exact World.ownsRow_nil _ _ _ _, B5.out⟩
    · obtain rfl : i = m := by omega
      obtain ⟨E1, E2, E3⟩ := RG.out (by omega)
      have E1 := Lib.hid E1
      have E2 := Lib.hid E2
      have E3 := Lib.hid E3
      have cO0 := S.out.bO.c0
      have cO1 := S.out.bO.c1
      have cR0 := S.out.bR.c0
      have cR1 := S.out.bR.c1
      have fR0 := S.out.bR.fr 0
      have fR1 := S.out.bR.fr 1
      obtain ⟨F1, F2, F3⟩ := S.out.fin
      have F1 := Lib.hid F1
      have F2 := Lib.hid F2
      have F3 := Lib.hid F3
      go_wp2
      refine bodyPost_ret (results_box_tmp rfl _ _ w.heap.size _ _ _ rfl F1.out t2 (by kernel_rfl)) rfl ?_
      refine ⟨_, by rw [E1.out, E3.out]; rfl, ?_, F3.out⟩
      rw [E2.out]
      exact F2.out


set_option linter.unusedVariables false
set_option maxRecDepth 100000
set_option maxRecDepth 100000

theorem boxR_start (w : World) : Box (w.alloc (.cells #[.int .i64 0, .slice none 0 0] 26)) w.heap.size 26 (.int .i64 0) (.slice none 0 0) := Box.new w _ _ _

theorem specLists_out (c : Int) (m : Nat) (a : Option Addr) (cap : Nat) (w : World) (h : c < 0 ∨ 60 < c ∨ 200 < m) (hm : m ≤ maxLen) :
    Calls Tryd.prog 24 #[.int .i64 c, .slice a m cap] w (MRes 0 [] 2 w) := by
  unfold maxLen at hm
  have t2 := Tryd.underlying26
  have X1 := Lib.hid (boxR_start w)
  have B1 := Lib.hid ((Below.refl w.heap.size w).alloc (Nat.le_refl _) (.cells #[.int .i64 0, .slice none 0 0] 26))
  by_cases hc : c < 0 ∨ 60 < c
  · clear h
    go_enter Tryd.func24, Tryd.ntmps24
    go_wp2_with (go_at_call 77; refine (l01In_no c 0 60 _ hc).mono ?_; rintro e w' ⟨rfl, rfl⟩)
    refine bodyPost_ret (results_box_tmp rfl _ _ w.heap.size _ _ _ rfl X1.out t2 (by kernel_rfl)) rfl ?_
    exact ⟨_, rfl, World.ownsRow_nil _ _ _ _, B1.out⟩
  · have h0 : 0 ≤ c := by omega
    have h1 : c ≤ 60 := by omega
    have hm' : (200 : Int) < (m : Int) := by omega
    clear h hc
    go_enter Tryd.func24, Tryd.ntmps24
    go_wp2_with (go_at_call 77; refine (l01In_yes c 0 60 _ h0 h1).mono ?_; rintro e w' ⟨rfl, rfl⟩)
    refine bodyPost_ret (results_box_tmp rfl _ _ w.heap.size _ _ _ rfl X1.out t2 (by kernel_rfl)) rfl ?_
    exact ⟨_, rfl, World.ownsRow_nil _ _ _ _, B1.out⟩

theorem implLists_out (c : Int) (m : Nat) (a : Option Addr) (cap : Nat) (w : World) (h : c < 0 ∨ 60 < c ∨ 200 < m) (hm : m ≤ maxLen) :
    Calls Tryd.prog 23 #[.int .i64 c, .slice a m cap] w (MRes 0 [] 2 w) := by
  unfold maxLen at hm
  have t2 := Tryd.underlying26
  have X1 := Lib.hid (boxR_start w)
  have B1 := Lib.hid ((Below.refl w.heap.size w).alloc (Nat.le_refl _) (.cells #[.int .i64 0, .slice none 0 0] 26))
  by_cases hc : c < 0 ∨ 60 < c
  · clear h
    go_enter Tryd.func23, Tryd.ntmps23
    go_wp2_with (go_at_call 71; refine (isCC_no c _ hc).mono ?_; rintro e w' ⟨rfl, rfl⟩)
    refine bodyPost_ret (results_box_tmp rfl _ _ w.heap.size _ _ _ rfl X1.out t2 (by kernel_rfl)) rfl ?_
    exact ⟨_, rfl, World.ownsRow_nil _ _ _ _, B1.out⟩
  · obtain ⟨k, rfl⟩ : ∃ k : Nat, c = k := ⟨c.toNat, by omega⟩
    have hk : k ≤ 60 := by omega
    have hm' : (200 : Int) < (m : Int) := by omega
    clear h hc
    go_enter Tryd.func23, Tryd.ntmps23
    go_wp2_with (go_at_call 71; refine (isCC_yes k _ hk).mono ?_; rintro e w' ⟨rfl, rfl⟩)
    refine bodyPost_ret (results_box_tmp rfl _ _ w.heap.size _ _ _ rfl X1.out t2 (by kernel_rfl)) rfl ?_
    exact ⟨_, rfl, World.ownsRow_nil _ _ _ _, B1.out⟩

set_option maxHeartbeats 2000000 in
theorem implLists_in (k m : Nat) (a : Option Addr) (cap : Nat) (X : Nat → List Int) (C : Int) (L' : List Int) (cd : Int) (w : World) (h : RdSS w (.slice a m cap) m X) (hk : k ≤ 60) (hm : m ≤ 200) (hres : Ml k m X C L' cd) :
    Calls Tryd.prog 23 #[.int .i64 k, .slice a m cap] w (MRes C L' cd w) := by
  obtain ⟨z, hz, hgood, hbad⟩ := first_of (fun i => okR k (X i)) m
  have RB : Hid (z < m → C = 0 ∧ L' = [] ∧ cd = 2) := Lib.hid (fun hlt => hres.bad k rfl hk hm (fun hall => hbad hlt (hall z hlt)))
  have RG : Hid (z = m → C = k ∧ L' = obs k X m ∧ cd = 0) := Lib.hid (fun e => hres.good k rfl hk hm (fun i hi => hgood i (by omega)))
  obtain ⟨_, _, VS, hc, hr⟩ := h
  have HC := Lib.hid hc
  have HR := Lib.hid hr
  have HG := Lib.hid hgood
  have HB := Lib.hid hbad
  clear hc hr hgood hbad hres
  have hm' : (m : Int) ≤ 200 := by omega
  have t2 := Tryd.underlying26
  have W3 : ∃ w3, w3 = ((w.alloc (.cells #[.int .i64 0, .slice none 0 0] 26)).alloc (.cells #[.int .i64 k, .slice none 0 0] 26)) := ⟨_, rfl⟩
  obtain ⟨w3, hw3⟩ := W3
  have S3 : Hid (Bld w w.heap.size w.heap.size (w.heap.size + 1) (.int .i64 0) (.slice none 0 0) k (.slice none 0 0) (obs k X 0) w3) := Lib.hid (by rw [hw3]; exact lists_start w k X)
  go_enter Tryd.func23, Tryd.ntmps23
  go_wp2_with (go_at_call 71; refine (isCC_yes k _ hk).mono ?_; rintro e w' ⟨rfl, rfl⟩)
  rw [← hw3]
  clear hw3
  go_loopw [8, 22] (fun _ c wr => ∃ (i : Nat) (v : Value), i ≤ z ∧ c = .int .i64 i ∧ Hid (Bld w w.heap.size w.heap.size (w.heap.size + 1) (.int .i64 0) (.slice none 0 0) k v (obs k X i) wr)) (fun _ c _ => m - (intOf c).toNat)
  case atStart => exact ⟨0, _, by omega, rfl, S3⟩
  case round =>
    clear S3
    obtain ⟨i, v, hi, rfl, S⟩ := hrel
    have o0 := S.out.own
    rw [obs_length] at o0
    obtain ⟨va, vc, rfl⟩ := o0.shape
    have O := Lib.hid o0
    clear o0
    by_cases hlt : i < m
    · have hlt' : (i : Int) < (m : Int) := by omega
      obtain ⟨b, off, ⟨cap', e⟩, hc'⟩ := HC.out.resolve_left (by omega)
      cases e
      have c1 := (S.out.bel.cell (p := ⟨b, off + i, none⟩) (World.block_lt_of_cell? w _ (hc' i hlt))).trans (hc' i hlt)
      have rk := (HR.out i hlt).below S.out.bel
      obtain ⟨ua, uc, hv, hvm, hvc⟩ := id rk
      rw [hv] at c1 rk
      clear hv hc' hvc
      have RK := Lib.hid rk
      clear rk
      have cR0 := S.out.bR.c0
      have cR1 := S.out.bR.c1
      have fR0 := S.out.bR.fr 0
      have fR1 := S.out.bR.fr 1
      have X5 := Lib.hid ((S.out.bR.set0 (.int .i64 0)).set1 (.slice none 0 0))
      have B5 := Lib.hid ((S.out.bel.setCell (p := ⟨w.heap.size, 0, none⟩) (by simp) (.int .i64 0)).setCell (p := ⟨w.heap.size, 1, none⟩) (by simp) (.slice none 0 0))
      by_cases hlen : (X i).length = k
      · rw [hlen] at c1 RK
        by_cases hiz : i < z
        · have AB := Lib.hid (areBits_some _ k k true _ wr RK.out (Nat.le_refl _) (HG.out i hiz).2 (.inl ⟨rfl, rfl⟩))
          have RKD := RK.out.drewN 1
          have TM := Lib.hid (rowOfBits_any _ k (X i) wr.drew RKD hk)
          have BO : Hid (Box wr.drew (w.heap.size + 1) 26 (.int .i64 k) (.slice va i vc)) := Lib.hid (S.out.bO.drewN 1)
          have SD : Hid (Bld w w.heap.size w.heap.size (w.heap.size + 1) (.int .i64 0) (.slice none 0 0) k (.slice va i vc) (obs k X i) wr.drew) := Lib.hid S.out.drew
          have OD : Hid (wr.drew.ownsRow w.heap.size 2 1 (.slice va i vc) i ((obs k X i).map (Value.int .i64))) := Lib.hid (own_drewN O.out 1)
          have E : Hid (obs k X (i + 1) = obs k X i ++ [ob (X i) k]) := Lib.hid (obs_succ k X i)
          have LL := Lib.hid (obs_length k X i)
          have cO1 := S.out.bO.c1
          have cO0 := S.out.bO.c0
          clear cR0 cR1 fR0 fR1 X5 B5 hlen hvm RKD
          generalize hr : ob (X i) k = r at *
          clear hr
          generalize obs k X i = L at *
          go_wp2_with (go_at_call 75; refine AB.out.mono ?_; rintro e w' ⟨rfl, rfl⟩)
          go_region_law (first | (go_simp; go_at_call 76; refine TM.out.mono ?_; rintro e w11 ⟨rfl, b11⟩; have bo11 := (BO.out.up b11).c1; have bo12 := ((BO.out.up b11).alloc (.cells #[.int .i64 r] 2)).c1; have AO11 := Lib.hid (own_below (own_below OD.out b11) ((Below.refl w11.heap.size w11).alloc (Nat.le_refl _) (.cells #[.int .i64 r] 2))); have BO11 := Lib.hid ((BO.out.up b11).alloc (.cells #[.int .i64 r] 2)); have AS11 := Lib.hid (Nat.le_trans (Nat.le_trans SD.out.bel.size b11.size) ((Below.refl w11.heap.size w11).alloc (Nat.le_refl _) (.cells #[.int .i64 r] 2)).size); have NE11 := Lib.hid (BO11.out.ne_row AO11.out ne_mi1)) | (refine step_append1 (by rfl) _ _ (by rfl) w.heap.size (.slice va i vc) i L (by rfl) AO11.out _ _ 1 (by rfl) (World.cell?_alloc_new _ _ _ _) (by omega) AS11.out ?_; intro va' vc' w12 ho hg; have x1 := (BO11.out.grown hg NE11.out).c1; have x2 := (BO11.out.grown hg NE11.out).fr 1))
          all_goals
            have A2 := Lib.hid (((SD.out.up b11).alloc (.cells #[.int .i64 r] 2)).app (r := r) (by rw [LL.out, List.map_append]; simpa using ho) hg)
            have F := Lib.hid (Bld2.store ((SD.out.up b11).alloc (.cells #[.int .i64 r] 2)) A2.out)
            clear ho hg x1 x2 bo11 bo12 b11 AO11 BO11 AS11 NE11
            go_wp2
            go_roundw
            case rel => exact ⟨i + 1, _, by omega, by go_num, Lib.hid (by rw [E.out]; exact F.out)⟩
            case measure => simp [intOf]; omega
        · obtain rfl : i = z := by omega
          obtain ⟨zj, hzj, hgj, hbj⟩ := first_of (okB (X i)) k
          have hzk : zj < k := by
            apply Decidable.byContradiction
            intro hn
            exact HB.out hlt ⟨hlen, fun j hj => hgj j (by omega)⟩
          have AB := Lib.hid (areBits_some _ k zj false _ wr RK.out hzj hgj (.inr ⟨hzk, hbj hzk, rfl⟩))
          obtain ⟨E1, E2, E3⟩ := RB.out hlt
          have E1 := Lib.hid E1
          have E2 := Lib.hid E2
          have E3 := Lib.hid E3
          clear hgj hbj hvm hlen
          go_wp2_with (go_at_call 75; refine AB.out.mono ?_; rintro e w' ⟨rfl, rfl⟩)
          refine bodyPost_ret (results_box_tmp rfl _ _ w.heap.size _ _ _ rfl X5.out t2 (by kernel_rfl)) rfl ?_
          exact ⟨_, by rw [E1.out, E3.out]; rfl, by rw [E2.out]; exact World.ownsRow_nil _ _ _ _, B5.out⟩
      · have hiz : z < m := by
          apply Decidable.byContradiction
          intro hn
          exact hlen ((HG.out i (by omega)).1)
        obtain ⟨E1, E2, E3⟩ := RB.out hiz
        have E1 := Lib.hid E1
        have E2 := Lib.hid E2
        have E3 := Lib.hid E3
        clear hvm
        clear RK
        generalize (X i).length = n at *
        have hne : ((n : Int) != (k : Int)) = true := by rw [bne_iff_ne]; omega
        clear hlen
        go_wp2
        refine bodyPost_ret (results_box_tmp rfl _ _ w.heap.size _ _ _ rfl X5.out t2 (by kernel_rfl)) rfl ?_
        exact ⟨_, by rw [E1.out, E3.out]; rfl, by rw [E2.out]; exact World.ownsRow_nil _ _ _ _, B5.out⟩
    · obtain rfl : i = m := by omega
      obtain ⟨E1, E2, E3⟩ := RG.out (by omega)
      have E1 := Lib.hid E1
      have E2 := Lib.hid E2
      have E3 := Lib.hid E3
      have cO0 := S.out.bO.c0
      have cO1 := S.out.bO.c1
      have cR0 := S.out.bR.c0
      have cR1 := S.out.bR.c1
      have fR0 := S.out.bR.fr 0
      have fR1 := S.out.bR.fr 1
      obtain ⟨F1, F2, F3⟩ := S.out.fin
      have F1 := Lib.hid F1
      have F2 := Lib.hid F2
      have F3 := Lib.hid F3
      go_wp2
      refine bodyPost_ret (results_box_tmp rfl _ _ w.heap.size _ _ _ rfl F1.out t2 (by kernel_rfl)) rfl ?_
      refine ⟨_, by rw [E1.out, E3.out]; rfl, ?_, F3.out⟩
      rw [E2.out]
      exact F2.out

theorem MatrixOfLists_both (c : Int) (m : Nat) (X : Nat → List Int) : ∃ (C : Int) (L : List Int) (cd : Int), L.length ≤ 200 ∧
    (∀ w V, RdSS w V m X → Calls Tryd.prog 24 #[.int .i64 c, V] w (MRes C L cd w)) ∧
    (∀ w V, RdSS w V m X → Calls Tryd.prog 23 #[.int .i64 c, V] w (MRes C L cd w)) := by
  obtain ⟨C, L, cd, hr, hl⟩ := ml_ex c m X
  refine ⟨C, L, cd, hl, fun w V h => ?_, fun w V h => ?_⟩
  all_goals
    obtain ⟨a, cap, rfl⟩ := h.head
    by_cases h0 : c < 0 ∨ 60 < c ∨ 200 < m
    · obtain ⟨rfl, rfl, rfl⟩ := hr.out h0
      first
        | exact specLists_out c m a cap w h0 h.small
        | exact implLists_out c m a cap w h0 h.small
    · obtain ⟨k, rfl⟩ : ∃ k : Nat, c = k := ⟨c.toNat, by omega⟩
      first
        | exact specLists_in k m a cap X C L cd w h (by omega) (by omega) hr
        | exact implLists_in k m a cap X C L cd w h (by omega) (by omega) hr

set_option linter.unusedVariables false
set_option maxRecDepth 100000
set_option maxRecDepth 100000

/-- append(V, r), r a slice. -/
theorem wpList_append1S {w : World} {ops : Array Oper} {rest : List Oper} {o : Oper} {a : Act} {Q : Exit → Act → World → Prop} (hgd : o.guard = none) (s x : Operand)
    (ho : o.op = .call { callee := .builtin .append, args := #[s, x], argTypes := #[28, 28] })
    (B : Nat) (V : Value) (n : Nat) (xs : List Value) (hs : a.eval s = V) (hown : w.ownsRow B 24 1 V n xs)
    (r : Value) (hr1 : r.oneCell' = true) (g c : Nat) (hx : a.eval x = .slice (some ⟨g, 0, none⟩) 1 c) (hc : w.cell? ⟨g, 0, none⟩ = some r) (hn : n ≤ 1000000) (hB : B ≤ w.heap.size)
    (h : ∀ v' w', w'.ownsRow B 24 1 v' (n + 1) (xs ++ [r]) → w.grownBy w' V.ownBlock → wpList Tryd.prog ops Q rest (a.put o.dst v') w') : wpList Tryd.prog ops Q (o :: rest) a w := by
  obtain ⟨i0, hi, hz0, hz1, hz2⟩ := info_parts Tryd.infoS
  refine wpList_append_own w hgd s x 28 ho B 24 i0 (.slice none 0 0) 1 24 Tryd.underlying28 hi hz0 hz1 hz2 rfl (by decide) V n xs hs hown ⟨g, 0, none⟩ 1 c [r] hx rfl ?_ ?_ ?_ ?_ hB ?_
  · intro j u hj
    match j, hj with
    | 0, hj => simp at hj; subst hj; simpa [Addr.add] using hc
  · intro u hu; simp at hu; subst hu; exact hr1
  · unfold maxLen; omega
  · omega
  · intro v' w' h1 h2 _
    exact h v' w' h1 h2

theorem ext_snoc (VS : Nat → Value) (m : Nat) (v : Value) : (List.range (m + 1)).map (ext VS m v) = (List.range m).map VS ++ [v] := by
  rw [List.range_succ, List.map_append]
  congr 1
  · apply List.map_congr_left
    intro i hi
    rw [ext, if_pos (List.mem_range.1 hi)]
  · simp [ext]

/-- A family under construction. -/
structure FamB (w0 : World) (V : Value) (i : Nat) (VS : Nat → Value) (Y : Nat → List Int) (w : World) : Prop where
  fam : Fam w w0.heap.size V i VS Y
  sep : Sep i VS
  bel : Below w0.heap.size w0 w
theorem FamB.up {w0 w w' : World} {V : Value} {i : Nat} {VS : Nat → Value} {Y : Nat → List Int} (h : FamB w0 V i VS Y w) (k : Below w.heap.size w w') : FamB w0 V i VS Y w' :=
  ⟨h.fam.below k, h.sep, h.bel.trans (k.mono h.bel.size)⟩
theorem FamB.push {w0 wr w1 w2 : World} {V V' v : Value} {i n : Nat} {VS : Nat → Value} {Y : Nat → List Int} (h : FamB w0 V i VS Y wr) (b1 : Below wr.heap.size wr w1) (hv : w1.ownsRow wr.heap.size 2 1 v n ((Y i).map (Value.int .i64)))
    (hn : n = (Y i).length) (ho : w2.ownsRow w0.heap.size 24 1 V' (i + 1) ((List.range i).map VS ++ [v])) (k : w1.grownBy w2 V.ownBlock) : FamB w0 V' (i + 1) (ext VS i v) Y w2 := by
  have hout := own_below h.fam.out b1
  have hb1 := h.bel.trans (b1.mono h.bel.size)
  refine ⟨⟨by rw [ext_snoc]; exact ho, fun j hj => ?_⟩, sep_push h.sep (fun j hj => apart_lt (h.fam.inn j hj) hv), hb1.grown k hb1.size (fun q hq => (h.fam.out.lt q hq).1)⟩
  by_cases hlt : j < i
  · rw [ext, if_pos hlt]
    have h1 := own_below (h.fam.inn j hlt) b1
    exact h1.kept k (own_types h1 hout (by decide))
  · have e : j = i := by omega
    subst e
    rw [ext, if_neg (Nat.lt_irrefl _)]
    subst hn
    exact (own_base hv h.bel.size).kept k (own_types hv hout (by decide))
theorem FamB.start (w0 w : World) (Y : Nat → List Int) (h : Below w0.heap.size w0 w) : FamB w0 (.slice (some ⟨w.heap.size, 0, none⟩) 0 0) 0 (fun _ => undef) Y (w.alloc (.cells #[] 24)) :=
  ⟨⟨World.ownsRow_made w #[] 0 h.size (Nat.zero_le _) (by simp), fun i hi => absurd hi (Nat.not_lt_zero _)⟩, fun i j hi => absurd hi (Nat.not_lt_zero _), h.alloc h.size _⟩
theorem FamB.start0 (w0 w : World) (Y : Nat → List Int) (h : Below w0.heap.size w0 w) : FamB w0 (.slice none 0 0) 0 (fun _ => undef) Y w :=
  ⟨⟨World.ownsRow_nil _ _ _ _, fun i hi => absurd hi (Nat.not_lt_zero _)⟩, fun i j hi => absurd hi (Nat.not_lt_zero _), h⟩

/-- A matrix's block is no block of slices. -/
theorem Box.ne_rowS {w : World} {g B n : Nat} {x y v : Value} {xs : List Value} (h : Box w g 26 x y) (o : w.ownsRow B 24 1 v n xs) : some g ≠ v.ownBlock := by
  intro e
  rcases o.2 with ⟨rfl, _⟩ | ⟨q', cap', cur, rfl, _, hg, _⟩
  · cases e
  · simp only [Value.ownBlock, Option.some.injEq] at e
    subst e
    unfold Box at h
    rw [hg] at h
    simp at h

/-- What a function that makes lists returns. -/
def LRes (m : Nat) (Y : Nat → List Int) (cd : Int) (w : World) (e : Ending) (w' : World) : Prop :=
  ∃ U US, e = .returned (.tuple #[U, .int .i64 cd]) ∧ FamB w U m US Y w'

/-- The first k digits. -/
def dr (g : Int) (k : Nat) : List Int := (List.range k).map fun j => bits .and .i64 (g / 2 ^ j) 1
theorem dr_succ (g : Int) (k : Nat) : dr g (k + 1) = dr g k ++ [bits .and .i64 (g / 2 ^ k) 1] := by simp [dr, List.range_succ]
theorem dr_length (g : Int) (k : Nat) : (dr g k).length = k := by simp [dr]
theorem dr_cpy (g : Int) (k : Nat) : cpy (fun j => bits .and .i64 (g / 2 ^ j) 1) k k = dr g k := by
  unfold cpy dr
  apply List.map_congr_left
  intro i hi
  rw [if_pos (List.mem_range.1 hi)]

theorem bits_any (r : Int) (k : Nat) (w : World) (hk : k ≤ 60) :
    Calls Tryd.prog 69 #[.int .i64 r, .int .i64 k] w fun e w' => ∃ u, e = .returned u ∧ w'.ownsRow w.heap.size 2 1 u k ((dr r k).map (Value.int .i64)) ∧ Below w.heap.size w w' := by
  obtain ⟨i0, hi, hz0, hz1, hz2⟩ := info_parts Tryd.info2
  have EQ := Lib.hid (dr_cpy r k)
  have D := Lib.hid (fun (j : Nat) (hj : j < k) w => digit_any r j w (by omega))
  generalize hG : (fun j => bits .and .i64 (r / 2 ^ j) 1) = G at *
  have HG : Hid (∀ j, bits .and .i64 (r / 2 ^ j) 1 = G j) := Lib.hid (fun j => by rw [← hG])
  clear hG
  go_enter Tryd.func69, Tryd.ntmps69
  go_wp2_with (at_make; refine wpList_make_full _ rfl _ _ 24 rfl w.heap.size 2 i0 (.int .i64 0) 1 Tryd.underlying24 hi hz0 hz1 .i64 .i64 (k : Int) (k : Int) k rfl rfl rfl rfl (by rw [hz2]; omega) (by unfold maxLen; omega) (Nat.le_refl _) ?_; intro w1 hown hgrow; rw [made_list0, ← cpy_zero G k] at hown; have H1 := Lib.hid hown; have G1 := Lib.hid hgrow; clear hown hgrow)
  have B1 : Below w.heap.size w w1 := (Below.refl _ w).grown G1.out (Nat.le_refl _) (by intro k hk; cases hk)
  clear G1
  go_loopw [6, 11] (fun _ c wr => ∃ j : Nat, j ≤ k ∧ c = .int .i64 j ∧ Hid (wr.ownsRow w.heap.size 2 1 (.slice (some ⟨w.heap.size, 0, none⟩) k k) k ((cpy G k j).map (Value.int .i64))) ∧ Below w.heap.size w wr) (fun _ c _ => k - (intOf c).toNat)
  case atStart => exact ⟨0, by omega, rfl, H1, B1⟩
  case round =>
    clear H1 B1
    obtain ⟨j, hj, rfl, ho, hb⟩ := hrel
    by_cases hlt : j < k
    · have hlt' : (j : Int) < (k : Int) := by omega
      have D1 := D.out j hlt wr
      rw [HG.out j] at D1
      have D1 := Lib.hid D1
      have c2 := own_at ho.out j hlt
      have f2 := ho.out.frozenAt j
      have hst := ho.out.stored j (.int .i64 (G j))
      rw [← List.map_set, cpy_set] at hst
      have HS := Lib.hid hst
      generalize (cpy G k j)[j]?.getD 0 = z at c2
      clear hst ho
      generalize hgj : G j = gj at *
      clear hgj
      go_wp2_with (go_at_call 84; refine D1.out.mono ?_; rintro e w' ⟨rfl, rfl⟩)
      go_roundw
      case rel => exact ⟨j + 1, by omega, by go_num, Lib.hid HS.out.1, hb.setCell (Nat.le_refl _) _⟩
      case measure => simp [intOf]; omega
    · obtain rfl : j = k := by omega
      go_wp2
      go_ret
      exact ⟨_, rfl, by rw [← EQ.out]; exact ho.out, hb⟩

/-- What ListsOfMatrix returns. -/
noncomputable def lsN (c : Int) (n : Nat) (G : Nat → Int) : Nat := if isMat c n G = true then n else 0
noncomputable def lsC (c : Int) (n : Nat) (G : Nat → Int) : Int := if isMat c n G = true then 0 else 1

set_option maxHeartbeats 1000000 in
theorem specListsOf_any (c : Int) (s : Value) (n : Nat) (G : Nat → Int) (w : World) (h : RdI w s n G) :
    Calls Tryd.prog 18 #[.agg #[.int .i64 c, s]] w (LRes (lsN c n G) (fun i => dr (G i) c.toNat) (lsC c n G) w) := by
  have H := Lib.hid h
  obtain ⟨a, cap, rfl, hm, hc⟩ := h
  clear hc
  have t2 := Tryd.underlying26
  have W1 : ∃ w1, w1 = w.alloc (.cells #[.int .i64 c, .slice a n cap] 26) := ⟨_, rfl⟩
  obtain ⟨w1, hw1⟩ := W1
  have B1 : Hid (Below w.heap.size w w1) := Lib.hid (by rw [hw1]; exact (Below.refl w.heap.size w).alloc (Nat.le_refl _) _)
  have X1 : Hid (Box w1 w.heap.size 26 (.int .i64 c) (.slice a n cap)) := Lib.hid (by rw [hw1]; exact Box.new w _ _ _)
  have R1 := Lib.hid (H.out.below B1.out)
  go_enter Tryd.func18, Tryd.ntmps18
  go_wp2_with fail
  rw [← hw1]
  clear hw1
  refine (specIs_any c _ n G w1 R1.out).mono ?_
  rintro e w2 ⟨rfl, b2⟩
  have B2 := Lib.hid (B1.out.trans (b2.mono B1.out.size))
  have X2 := Lib.hid (X1.out.up b2)
  clear b2 B1 X1 R1
  cases hi : isMat c n G with
  | false =>
    have E1 : Hid (lsN c n G = 0) := Lib.hid (by unfold lsN; rw [if_neg]; rw [hi]; simp)
    have E2 : Hid (lsC c n G = 1) := Lib.hid (by unfold lsC; rw [if_neg]; rw [hi]; simp)
    clear hi
    go_wp2_with fail
    go_ret2
    exact ⟨_, _, by rw [E2.out]; rfl, by rw [E1.out]; exact FamB.start0 w w2 _ B2.out⟩
  | true =>
    have E1 : Hid (lsN c n G = n) := Lib.hid (by unfold lsN; rw [if_pos hi])
    have E2 : Hid (lsC c n G = 0) := Lib.hid (by unfold lsC; rw [if_pos hi])
    have IA : okMat c n G := Classical.byContradiction fun h => by rw [isMat_no h] at hi; cases hi
    obtain ⟨k, rfl, hk, hn, _⟩ := IA
    clear hi
    have YE : Hid (∀ i, (fun i => dr (G i) (k : Int).toNat) i = dr (G i) k) := Lib.hid (fun i => rfl)
    generalize hY : (fun i => dr (G i) (k : Int).toNat) = Y at *
    have YX := Lib.hid hY
    clear hY
    have S2 := Lib.hid (FamB.start w w2 Y B2.out)
    have X3 : Hid (Box (w2.alloc (.cells #[] 24)) w.heap.size 26 (.int .i64 k) (.slice a n cap)) := Lib.hid (X2.out.alloc _)
    clear X2 B2
    go_wp2
    generalize (w2.alloc (.cells #[] 24)) = w3 at *
    generalize w2.heap.size = g2 at *
    go_loopw [4, 5] (fun V c wr => ∃ (i : Nat) (VS : Nat → Value), i ≤ n ∧ c = .int .i64 i ∧ Hid (FamB w V i VS Y wr) ∧ Hid (Box wr w.heap.size 26 (.int .i64 k) (.slice a n cap))) (fun _ c _ => n - (intOf c).toNat)
    case atStart => exact ⟨0, _, by omega, rfl, S2, X3⟩
    case round =>
      clear S2 X3
      obtain ⟨i, VS, hi, rfl, S, X⟩ := hrel
      obtain ⟨wo, hwo⟩ : ∃ wo, wo = wr := ⟨_, rfl⟩
      subst hwo
      obtain ⟨va, vc, rfl⟩ := S.out.fam.out.shape
      have cA0 := X.out.c0
      have cA1 := X.out.c1
      by_cases hlt : i < n
      · have hlt' : (i : Int) < (n : Int) := by omega
        have hYi := YE.out i
        have W4 : ∃ w4, w4 = wo.alloc (.cells #[] 2) := ⟨_, rfl⟩
        obtain ⟨w4, hw4⟩ := W4
        have O4 : Hid (w4.ownsRow wo.heap.size 2 1 (.slice (some ⟨wo.heap.size, 0, none⟩) 0 0) 0 ((dr (G i) 0).map (Value.int .i64))) := Lib.hid (by rw [hw4]; exact World.ownsRow_made wo #[] 0 (Nat.le_refl _) (Nat.zero_le _) (by simp))
        have B4 : Hid (Below wo.heap.size wo w4) := Lib.hid (by rw [hw4]; exact (Below.refl _ _).alloc (Nat.le_refl _) _)
        have YI := Lib.hid hYi
        clear hYi
        go_wp2
        rw [← hw4]
        clear hw4 cA0 cA1
        go_loopw [6, 7] (fun u q wi => ∃ j : Nat, j ≤ k ∧ q = .int .i64 j ∧ Hid (wi.ownsRow wo.heap.size 2 1 u j ((dr (G i) j).map (Value.int .i64))) ∧ Hid (Below wo.heap.size wo wi)) (fun _ q _ => k - (intOf q).toNat)
        case atStart => exact ⟨0, by omega, rfl, O4, B4⟩
        case round =>
          clear O4 B4
          obtain ⟨j, hj, rfl, O, B⟩ := hrel
          obtain ⟨ua, uc, rfl⟩ := O.out.shape
          have cA0 := (X.out.up B.out).c0
          have cA1 := (X.out.up B.out).c1
          by_cases hlt2 : j < k
          · have hlt2' : (j : Int) < (k : Int) := by omega
            have HR := Lib.hid (H.out.below (S.out.bel.trans (B.out.mono S.out.bel.size)))
            obtain ⟨_, _, e, _, hc⟩ := HR.out
            cases e
            obtain ⟨b, off, rfl, hc2⟩ := hc.resolve_left (by omega)
            have c1 := hc2 i hlt
            clear hc hc2
            have E : Hid (dr (G i) (j + 1) = dr (G i) j ++ [bits .and .i64 (G i / 2 ^ j) 1]) := Lib.hid (dr_succ _ _)
            have LL := Lib.hid (dr_length (G i) j)
            generalize dr (G i) j = L at *
            generalize G i = z at c1 E
            have A := Lib.hid (own_below O.out ((Below.refl _ _).alloc (Nat.le_refl _) (.cells #[.int .i64 (bits .and .i64 (z / 2 ^ j) 1)] 2)))
            have AB := Lib.hid (B.out.alloc B.out.size (.cells #[.int .i64 (bits .and .i64 (z / 2 ^ j) 1)] 2))
            go_wp2_with (at_builtin; refine wpList_append1 rfl _ _ rfl wo.heap.size _ j L rfl A.out _ _ 1 rfl (World.cell?_alloc_new _ _ _ _) ?c1 ?c2 ?_)
            case c1 => omega
            case c2 => exact AB.out.size
            intro v' w5 ho hg
            have F1 := Lib.hid ho
            have F2 := Lib.hid (AB.out.grown hg AB.out.size (fun q hq => (A.out.lt q hq).1))
            clear ho hg
            go_wp2
            go_roundw
            case rel => exact ⟨j + 1, by omega, by go_num, Lib.hid (by rw [E.out, List.map_append]; exact F1.out), F2⟩
            case measure => simp [intOf]; omega
          · obtain rfl : j = k := by omega
            have A := Lib.hid (B.out.alloc B.out.size (.cells #[.slice ua j uc] 24))
            have AV := Lib.hid (own_below O.out ((Below.refl _ _).alloc (Nat.le_refl _) (.cells #[.slice ua j uc] 24)))
            have AO := Lib.hid (own_below S.out.fam.out A.out)
            go_wp2_with (at_builtin; refine wpList_append1S rfl _ _ rfl w.heap.size _ i _ rfl AO.out (.slice ua j uc) rfl _ 1 rfl (World.cell?_alloc_new _ _ _ _) ?c1 ?c2 ?_)
            case c1 => omega
            case c2 => exact Nat.le_trans S.out.bel.size A.out.size
            intro v' w5 ho hg
            have F := Lib.hid (S.out.push A.out (by rw [YI.out]; exact AV.out) (by rw [YI.out, dr_length]) ho hg)
            have X5 := Lib.hid ((X.out.up A.out).grown hg ((X.out.up A.out).ne_rowS AO.out))
            clear ho hg
            go_wp2
            go_roundw
            case rel => exact ⟨i + 1, _, by omega, by go_num, F, X5⟩
            case measure => simp [intOf]; omega
      · obtain rfl : i = n := by omega
        go_wp2
        go_ret2
        exact ⟨_, VS, by rw [E2.out]; rfl, by rw [E1.out, YX.out]; exact S.out⟩

set_option maxHeartbeats 1000000 in
theorem implListsOf_any (c : Int) (s : Value) (n : Nat) (G : Nat → Int) (w : World) (h : RdI w s n G) :
    Calls Tryd.prog 17 #[.agg #[.int .i64 c, s]] w (LRes (lsN c n G) (fun i => dr (G i) c.toNat) (lsC c n G) w) := by
  have H := Lib.hid h
  obtain ⟨a, cap, rfl, hm, hc⟩ := h
  clear hc
  have t2 := Tryd.underlying26
  have W1 : ∃ w1, w1 = w.alloc (.cells #[.int .i64 c, .slice a n cap] 26) := ⟨_, rfl⟩
  obtain ⟨w1, hw1⟩ := W1
  have B1 : Hid (Below w.heap.size w w1) := Lib.hid (by rw [hw1]; exact (Below.refl w.heap.size w).alloc (Nat.le_refl _) _)
  have X1 : Hid (Box w1 w.heap.size 26 (.int .i64 c) (.slice a n cap)) := Lib.hid (by rw [hw1]; exact Box.new w _ _ _)
  have R1 := Lib.hid (H.out.below B1.out)
  go_enter Tryd.func17, Tryd.ntmps17
  go_wp2_with fail
  rw [← hw1]
  clear hw1
  refine (implIs_any c _ n G w1 R1.out).mono ?_
  rintro e w2 ⟨rfl, b2⟩
  have B2 := Lib.hid (B1.out.trans (b2.mono B1.out.size))
  have X2 := Lib.hid (X1.out.up b2)
  clear b2 B1 X1 R1
  cases hi : isMat c n G with
  | false =>
    have E1 : Hid (lsN c n G = 0) := Lib.hid (by unfold lsN; rw [if_neg]; rw [hi]; simp)
    have E2 : Hid (lsC c n G = 1) := Lib.hid (by unfold lsC; rw [if_neg]; rw [hi]; simp)
    clear hi
    go_wp2_with fail
    go_ret2
    exact ⟨_, _, by rw [E2.out]; rfl, by rw [E1.out]; exact FamB.start0 w w2 _ B2.out⟩
  | true =>
    have E1 : Hid (lsN c n G = n) := Lib.hid (by unfold lsN; rw [if_pos hi])
    have E2 : Hid (lsC c n G = 0) := Lib.hid (by unfold lsC; rw [if_pos hi])
    have IA : okMat c n G := Classical.byContradiction fun h => by rw [isMat_no h] at hi; cases hi
    obtain ⟨k, rfl, hk, hn, _⟩ := IA
    clear hi
    have YE : Hid (∀ i, (fun i => dr (G i) (k : Int).toNat) i = dr (G i) k) := Lib.hid (fun i => rfl)
    generalize hY : (fun i => dr (G i) (k : Int).toNat) = Y at *
    have YX := Lib.hid hY
    clear hY
    have S2 := Lib.hid (FamB.start0 w w2 Y B2.out)
    have cA0 := X2.out.c0
    have cA1 := X2.out.c1
    go_wp2
    clear cA0 cA1 B2
    go_loopw [4, 6, 13] (fun V _ c wr => ∃ (i : Nat) (VS : Nat → Value), i ≤ n ∧ c = .int .i64 i ∧ Hid (FamB w V i VS Y wr) ∧ Hid (Box wr w.heap.size 26 (.int .i64 k) (.slice a n cap))) (fun _ _ c _ => n - (intOf c).toNat)
    case atStart => exact ⟨0, _, by omega, rfl, S2, X2⟩
    case round =>
      clear S2 X2
      obtain ⟨i, VS, hi, rfl, S, X⟩ := hrel
      obtain ⟨va, vc, rfl⟩ := S.out.fam.out.shape
      have cA0 := X.out.c0
      have cA1 := X.out.c1
      by_cases hlt : i < n
      · have hlt' : (i : Int) < (n : Int) := by omega
        have YI := Lib.hid (YE.out i)
        have HR := Lib.hid (H.out.below S.out.bel)
        obtain ⟨_, _, e, _, hc⟩ := HR.out
        cases e
        obtain ⟨b, off, rfl, hc2⟩ := hc.resolve_left (by omega)
        have c1 := hc2 i hlt
        clear hc hc2
        have BT := Lib.hid (bits_any (G i) k wr hk)
        generalize G i = z at c1 BT YI
        go_wp2_with fail
        refine BT.out.mono ?_
        rintro e w4 ⟨u, rfl, o4, b4⟩
        obtain ⟨ua, uc, rfl⟩ := o4.shape
        have A := Lib.hid (b4.alloc b4.size (.cells #[.slice ua k uc] 24))
        have AV := Lib.hid (own_below o4 ((Below.refl _ _).alloc (Nat.le_refl _) (.cells #[.slice ua k uc] 24)))
        have AO := Lib.hid (own_below S.out.fam.out A.out)
        clear o4 b4
        go_wp2_with (at_builtin; refine wpList_append1S rfl _ _ rfl w.heap.size _ i _ rfl AO.out (.slice ua k uc) rfl _ 1 rfl (World.cell?_alloc_new _ _ _ _) ?c1 ?c2 ?_)
        case c1 => omega
        case c2 => exact Nat.le_trans S.out.bel.size A.out.size
        intro v' w5 ho hg
        have F := Lib.hid (S.out.push A.out (by rw [YI.out]; exact AV.out) (by rw [YI.out, dr_length]) ho hg)
        have X5 := Lib.hid ((X.out.up A.out).grown hg ((X.out.up A.out).ne_rowS AO.out))
        clear ho hg
        go_wp2
        go_roundw
        case rel => exact ⟨i + 1, _, by omega, by go_num, F, X5⟩
        case measure => simp [intOf]; omega
      · obtain rfl : i = n := by omega
        go_wp2
        go_ret2
        exact ⟨_, VS, by rw [E2.out]; rfl, by rw [E1.out, YX.out]; exact S.out⟩

theorem ListsOfMatrix_both (c : Int) (n : Nat) (G : Nat → Int) : ∃ (m : Nat) (Y : Nat → List Int) (cd : Int), m ≤ 200 ∧ (∀ i, i < m → (Y i).length ≤ 60) ∧
    (∀ w s, RdI w s n G → Calls Tryd.prog 18 #[.agg #[.int .i64 c, s]] w (LRes m Y cd w)) ∧
    (∀ w s, RdI w s n G → Calls Tryd.prog 17 #[.agg #[.int .i64 c, s]] w (LRes m Y cd w)) := by
  refine ⟨_, _, _, ?_, ?_, fun w s h => specListsOf_any c s n G w h, fun w s h => implListsOf_any c s n G w h⟩
  · unfold lsN
    split
    · rename_i hi
      obtain ⟨k, e, hk, hn, _⟩ : okMat c n G := Classical.byContradiction fun h => by rw [isMat_no h] at hi; cases hi
      exact hn
    · omega
  · intro i hi
    unfold lsN at hi
    split at hi
    · rename_i hm
      obtain ⟨k, rfl, hk, hn, _⟩ : okMat c n G := Classical.byContradiction fun h => by rw [isMat_no h] at hm; cases hm
      rw [dr_length]
      show k ≤ 60
      exact hk
    · exact absurd hi (Nat.not_lt_zero _)
end Go.Proofs.YtdojblmffmefgaaDoor
