/-
  Joined: NNilA.
-/
import Derived.Test.YtfgkpkdoemnnmaaZBMil37
import Derived.Test.YtfgkpkdoemnnmaaZBMil36
import Derived.Deep.RegionWith
section
namespace Go.Proofs.Ytfgkpkdoemnnmaa.Ml
open Go.RowKit
set_option linter.unusedVariables false
set_option maxRecDepth 100000

theorem infoM1 : (Try.prog.info? 26).map (fun i => (i.zero, i.size, i.bytes)) = some (some (.agg #[.slice none 0 0]), 1, 24) := by kernel_rfl
/-- append of structs to structs. -/
theorem wpList_mils1 {ops : Array Oper} {rest : List Oper} {o : Oper} {a : Act} {Q : Exit → Act → World → Prop} (w : World) (hgd : o.guard = none) (s x : Operand) (ho : o.op = .call { callee := .builtin .append, args := #[s, x], argTypes := #[79, 79] })
    (B n : Nat) (v : Value) (xs : List Value) (hs : a.eval s = v) (hown : w.ownsRow B 26 1 v n xs) (ad : Addr) (m c : Nat) (news : List Value) (hx : a.eval x = .slice (some ad) m c)
    (hc : ∀ j u, news[j]? = some u → w.cell? (ad.add j) = some u) (hl : news.length = m) (h1 : ∀ u ∈ news, u.oneCell' = true) (hn : n + m ≤ 400000000000) (hB : B ≤ w.heap.size)
    (h : ∀ v' w', w'.ownsRow B 26 1 v' (n + m) (xs ++ news) → w.grownBy w' v.ownBlock → wpList Try.prog ops Q rest (a.put o.dst v') w') : wpList Try.prog ops Q (o :: rest) a w := by
  obtain ⟨i0, hi, hz0, hz1, hz2⟩ := info_parts infoM1
  exact wpList_append_own w hgd s x 79 ho B 26 i0 (.agg #[.slice none 0 0]) 1 24 Try.underlying79 hi hz0 hz1 hz2 rfl (by decide) v n xs hs hown ad m c news hx (by omega) hc h1 (by unfold maxLen; omega) (by omega) hB
      (fun v' w' h2 h3 _ => h v' w' h2 h3)

/-- The power number j + 1: its terms, and how many. -/
noncomputable def npw (X : Nat → List Int) (m : Nat) : Nat → (Nat → List Int) × Nat
  | 0 => (X, m)
  | j + 1 => (rowsOf (prodT (npw X m j).1 X (npw X m j).2 m), (prodT (npw X m j).1 X (npw X m j).2 m).length)
/-- The terms of the power number j + 2. -/
noncomputable def npL (X : Nat → List Int) (m j : Nat) : List (List Int) := prodT (npw X m j).1 X (npw X m j).2 m
theorem npw_succ (X : Nat → List Int) (m j : Nat) : npw X m (j + 1) = (rowsOf (npL X m j), (npL X m j).length) := rfl
structure NpOk (X : Nat → List Int) (m j : Nat) : Prop where
  el : okMl (npw X m j).1 (npw X m j).2
  deg : 0 < (npw X m j).2 → dgL ((npw X m j).1 0) = ((j : Int) + 1) * dgL (X 0)
theorem np_zero {X : Nat → List Int} {m : Nat} (hX : okMl X m) : NpOk X m 0 := ⟨hX, fun _ => by simp [npw]⟩
theorem np_fac {X : Nat → List Int} {m j : Nat} (hX : okMl X m) (h : NpOk X m j) (hd : ((j : Int) + 2) * dgL (X 0) ≤ 40) : Fac (npw X m j).1 X (npw X m j).2 m :=
  ⟨h.el, hX, fun a b => by
    rw [h.deg a]
    have e : ((j : Int) + 2) * dgL (X 0) = ((j : Int) + 1) * dgL (X 0) + dgL (X 0) := by rw [Int.add_mul, Int.add_mul]; omega
    omega⟩
theorem np_succ {X : Nat → List Int} {m j : Nat} (hX : okMl X m) (h : NpOk X m j) (hd : ((j : Int) + 2) * dgL (X 0) ≤ 40) : NpOk X m (j + 1) := by
  have hF := np_fac hX h hd
  refine ⟨hF.el, fun h0 => ?_⟩
  have h1 := hF.deg h0
  show dgL (rowsOf (prodT _ _ _ _) 0) = _
  rw [h1]
  by_cases c : 0 < (npw X m j).2
  · rw [h.deg c]
    have : ((j + 1 : Nat) : Int) = (j : Int) + 1 := by omega
    rw [this]
    have e : ((j : Int) + 1 + 1) * dgL (X 0) = ((j : Int) + 1) * dgL (X 0) + dgL (X 0) := by rw [Int.add_mul ((j : Int) + 1), Int.one_mul]
    omega
  · exfalso
    have e : (npw X m j).2 = 0 := by omega
    have hz : prodT (npw X m j).1 X (npw X m j).2 m = [] := by
      rw [e]
      rfl
    change 0 < (prodT (npw X m j).1 X (npw X m j).2 m).length at h0
    rw [hz] at h0
    simp at h0
theorem np_le {d : Int} (hd : 0 ≤ d) {j n : Nat} (h : j + 1 < n) (hn : (n : Int) * d ≤ 40) : ((j : Int) + 2) * d ≤ 40 := by
  have : ((j : Int) + 2) * d ≤ (n : Int) * d := Int.mul_le_mul_of_nonneg_right (by omega) hd
  omega
theorem np_all {X : Nat → List Int} {m n : Nat} (hX : okMl X m) (hd : 0 ≤ dgL (X 0)) (hn : (n : Int) * dgL (X 0) ≤ 40) : ∀ j, j < n → NpOk X m j
  | 0, _ => np_zero hX
  | j + 1, hj => np_succ hX (np_all hX hd hn j (by omega)) (np_le hd hj hn)

/-! ### slices.IndexFunc -/
theorem idxZero_any (g n cap : Nat) (US : Nat → Value) (M : Nat → Nat) (J : Nat) (r : Int) (w : World) (hb : g < w.heap.size) (hc : ∀ j, j < n → w.cell? ⟨g, j, none⟩ = some (US j)) (hs : ∀ j, j < n → ∃ a c, US j = .slice a (M j) c) (hn : n ≤ 40) (hJ : J ≤ n)
    (h1 : ∀ i, i < J → M i ≠ 0) (h2 : (J < n ∧ M J = 0 ∧ r = (J : Int)) ∨ (J = n ∧ r = -1)) :
    Calls Try.prog 75 #[.slice (some ⟨g, 0, none⟩) n cap, .func (.func 71) #[] #[]] w fun e w' => e = .returned (.int .i64 r) ∧ Below w.heap.size w w' := by
  have t2 := Try.underlying26
  have HB := Lib.hid hb
  have HC := Lib.hid hc
  have HS := Lib.hid hs
  have H1 := Lib.hid h1
  have H2 := Lib.hid h2
  clear hb hc hs h1 h2
  go_enter Try.func75, Try.ntmps75
  go_wp2_with fail
  go_loopw [5, 8] (fun _ s8 wr => ∃ j : Nat, j ≤ J ∧ s8 = .int .i64 (j : Int) ∧ Hid (Below w.heap.size w wr)) (fun _ s8 _ => n + 1 - (intOf s8).toNat)
  case atStart => exact ⟨0, Nat.zero_le _, rfl, Lib.hid (Below.refl _ _)⟩
  case round =>
    obtain ⟨j, hj, rfl, hB⟩ := hrel
    by_cases hlt : j < n
    · have hlt' : (j : Int) < (n : Int) := by omega
      obtain ⟨a, c, ea⟩ := HS.out j hlt
      have c1 : wr.cell? ⟨g, j, none⟩ = some (.slice a (M j) c) := by
        rw [← ea]
        exact (hB.out.cell (p := ⟨g, j, none⟩) HB.out).trans (HC.out j hlt)
      clear ea
      by_cases hz : M j = 0
      · have hJ2 : j = J := by
          by_cases h : j < J
          · exact absurd hz (H1.out j h)
          · omega
        have Z : Hid (Calls Try.prog 71 #[.agg #[.slice a (M j) c]] wr fun e w' => e = .returned (.bool true) ∧ Below wr.heap.size wr w') := Lib.hid (by
          have := isZeroM_any a (M j) c wr
          rw [decide_eq_true hz] at this
          exact this)
        have HR : Hid (r = (j : Int)) := Lib.hid (by rcases H2.out with h | h <;> omega)
        clear hz
        clear hJ2 hj hJ
        generalize M j = mj at *
        go_wp2_with fail
        refine Z.out.mono ?_
        rintro e w2 ⟨rfl, b2⟩
        have B2 := Lib.hid (hB.out.step1 b2)
        clear b2
        go_wp2_with fail
        go_ret
        exact ⟨by rw [HR.out]; rfl, B2.out⟩
      · have hJ2 : j < J := by
          rcases H2.out with h | h
          · by_cases e : j = J
            · subst e; exact absurd h.2.1 hz
            · omega
          · omega
        have Z : Hid (Calls Try.prog 71 #[.agg #[.slice a (M j) c]] wr fun e w' => e = .returned (.bool false) ∧ Below wr.heap.size wr w') := Lib.hid (by
          have := isZeroM_any a (M j) c wr
          rw [decide_eq_false hz] at this
          exact this)
        clear hz
        generalize M j = mj at *
        go_wp2_with fail
        refine Z.out.mono ?_
        rintro e w2 ⟨rfl, b2⟩
        have B2 := Lib.hid (hB.out.step1 b2)
        have hwj : wrap64 ((j : Int) + 1) = ((j + 1 : Nat) : Int) := by unfold wrap64; omega
        clear b2 hB
        go_wp2_with fail
        go_roundw
        case rel => exact ⟨j + 1, by omega, by first | rfl | go_num, B2⟩
        case measure => simp [intOf]; omega
    · have hn2 : j = n := by omega
      have HR : Hid (r = -1) := Lib.hid (by rcases H2.out with h | h <;> omega)
      have hlt' : ¬ (j : Int) < (n : Int) := by omega
      go_wp2_with fail
      go_ret
      exact ⟨by rw [HR.out]; rfl, hB.out⟩

/-! ### powersOf -/
structure PwS (w : World) (X : Nat → List Int) (m k : Nat) (va S : Value) (US : Nat → Value) (W : World) : Prop where
  bel : Below w.heap.size w W
  bA : Box1 W w.heap.size 26 va
  row : W.ownsRow (w.heap.size + 1) 26 1 S (k + 1) ((List.range (k + 1)).map US)
  shp : ∀ j, j < k + 1 → ∃ a c, US j = .slice a (npw X m j).2 c
  last : RdSS W (US k) (npw X m k).2 (npw X m k).1
theorem PwS.start {w : World} {X : Nat → List Int} {m cap : Nat} {a : Option Addr} (h : RdSS w (.slice a m cap) m X) :
    PwS w X m 0 (.slice a m cap) (.slice (some ⟨w.heap.size + 1, 0, none⟩) 1 1) (fun _ => .slice a m cap) ((w.alloc (.cells #[.slice a m cap] 26)).alloc (.cells #[.slice a m cap] 26)) := by
  have b1 : Below w.heap.size w (w.alloc (.cells #[.slice a m cap] 26)) := (Below.refl _ w).alloc (Nat.le_refl _) _
  have b2 := b1.alloc b1.size (.cells #[.slice a m cap] 26)
  refine ⟨b2, (Box1.new w _ _).alloc _, ?_, fun j hj => by
    have e : j = 0 := by omega
    subst e
    exact ⟨a, cap, rfl⟩, h.below b2⟩
  refine ⟨rfl, .inr ⟨w.heap.size + 1, 1, #[.slice a m cap], rfl, Nat.le_refl _, ?_, Nat.le_refl _, by unfold maxLen; omega, rfl, by simp [List.range_succ]⟩⟩
  have := heap_alloc_new (w.alloc (.cells #[.slice a m cap] 26)) (.cells #[.slice a m cap] 26)
  rw [World.size_alloc] at this
  exact this
theorem PwS.push {w wr w5 w7 : World} {X : Nat → List Int} {m k : Nat} {va S S' V : Value} {US VS : Nat → Value} (h : PwS w X m k va S US wr) (b : Below wr.heap.size wr w5) (f : FamL w5 wr.heap.size V VS (npL X m k))
    (ho : w7.ownsRow (w.heap.size + 1) 26 1 S' (k + 1 + 1) ((List.range (k + 1)).map US ++ [V])) (hg : (w5.alloc (.cells #[V] 26)).grownBy w7 S.ownBlock) : PwS w X m (k + 1) va S' (ext US (k + 1) V) w7 := by
  have b6 : Below wr.heap.size wr (w5.alloc (.cells #[V] 26)) := b.alloc b.size _
  have B6 := h.bel.step1 b6
  have O6 := own_below h.row b6
  have F6 : FamL (w5.alloc (.cells #[V] 26)) wr.heap.size V VS (npL X m k) := Fam.below f ((Below.refl _ w5).alloc (Nat.le_refl _) _)
  have A6 := h.bA.up b6
  refine ⟨B6.grown hg B6.size (fun q hq => by have := (O6.lt q (hq.symm ▸ rfl)).1; omega), ?_, by rw [ext_map]; exact ho, fun j hj => ?_, ?_⟩
  · exact (hg.block _ A6.lt (fun e => by first | (have := (O6.lt _ e).1; omega) | (have := (O6.lt _ e.symm).1; omega))).trans A6
  · by_cases hlt : j < k + 1
    · rw [ext, if_pos hlt]; exact h.shp j hlt
    · obtain rfl : j = k + 1 := by omega
      rw [ext, if_neg (Nat.lt_irrefl _)]
      obtain ⟨av, cv, e, _⟩ := Fam.head f
      exact ⟨av, cv, e⟩
  · rw [ext, if_neg (Nat.lt_irrefl _)]
    have F7 : FamL w7 wr.heap.size V VS (npL X m k) := ⟨F6.out.kept hg (own_types F6.out O6 (by decide)), fun i hi => (F6.inn i hi).kept hg (own_types (F6.inn i hi) O6 (by decide))⟩
    exact Fam.rdss F7
end Go.Proofs.Ytfgkpkdoemnnmaa.Ml
end
