/-
  Joined: YIs.
-/
import Derived.Test.YtggebkcmokpcmaaZBHit07
import Derived.Test.YtggebkcmokpcmaaZBHit09
import Derived.Deep.RegionHeld3
import Derived.Deep.QuietTactic
import Derived.BigQuiet
section
namespace Go.Proofs.Ytggebkcmokpcmaa
open Go.RowKit
set_option linter.unusedVariables false
set_option maxRecDepth 100000

/-- A step of a list of exponents. -/
def stepX (G : Nat → Int) (i : Nat) : Prop := 0 ≤ G i ∧ dsum G (i + 1) ≤ 40
/-- Exponents with a sum of at most 40. -/
def isX (xs : List Int) : Prop := ∀ i, i < xs.length → stepX (gOf xs) i
theorem dsum_nn (G : Nat → Int) (i : Nat) (h : ∀ j, j < i → 0 ≤ G j) : 0 ≤ dsum G i := by
  induction i with
  | zero => exact Int.le_refl _
  | succ i ih =>
    have h1 := ih (fun j hj => h j (by omega))
    have h2 := h i (by omega)
    rw [dsum]
    omega
theorem dsum_up (G : Nat → Int) (i j : Nat) (h : ∀ k, k < i + j → 0 ≤ G k) : dsum G i ≤ dsum G (i + j) := by
  induction j with
  | zero => exact Int.le_refl _
  | succ j ih =>
    have h1 := ih (fun k hk => h k (by omega))
    have h2 := h (i + j) (by omega)
    rw [← Nat.add_assoc, dsum]
    omega
/-- Exponents, one by one and by their sum. -/
theorem isX_iff {xs : List Int} : isX xs ↔ (∀ i, i < xs.length → 0 ≤ gOf xs i ∧ gOf xs i ≤ 40) ∧ sumL xs ≤ 40 := by
  constructor
  · intro h
    have hn : ∀ i, i < xs.length → 0 ≤ gOf xs i := fun i hi => (h i hi).1
    refine ⟨fun i hi => ⟨hn i hi, ?_⟩, ?_⟩
    · have h1 := (h i hi).2
      rw [dsum] at h1
      have h2 := dsum_nn (gOf xs) i (fun j hj => hn j (by omega))
      omega
    · unfold sumL
      cases e : xs.length with
      | zero => exact (by decide : (0 : Int) ≤ 40)
      | succ n => exact (h n (by omega)).2
  · rintro ⟨h1, h2⟩ i hi
    refine ⟨(h1 i hi).1, ?_⟩
    unfold sumL at h2
    have := dsum_up (gOf xs) (i + 1) (xs.length - (i + 1)) (fun j hj => (h1 j (by omega)).1)
    rw [show i + 1 + (xs.length - (i + 1)) = xs.length by omega] at this
    omega

def stepY (k : Int) (X : Nat → List Int) (i : Nat) : Prop := ((X i).length : Int) = k ∧ isX (X i) ∧ sumL (X i) = sumL (X 0)
/-- A polynomial. -/
def okPl (k : Int) (X : Nat → List Int) (m : Nat) : Prop := (1 ≤ k ∧ k ≤ 4) ∧ okTerms X m ∧ ∀ i, i < m → stepY k X i

theorem dsum_bnd (G : Nat → Int) : ∀ n : Nat, (∀ i, i < n → 0 ≤ G i ∧ G i ≤ 40) → dsum G n ≤ 40 * (n : Int)
  | 0, _ => by rw [dsum]; omega
  | n + 1, h => by
    have h1 := dsum_bnd G n (fun i hi => h i (by omega))
    have h2 := h n (by omega)
    rw [dsum]
    omega
theorem degIs_exp {w : World} {v : Value} {xs : List Int} (h : RdI w v xs.length (fun j => xs[j]?.getD 0)) (h4 : xs.length ≤ 4) (hx : ∀ i, i < xs.length → 0 ≤ gOf xs i ∧ gOf xs i ≤ 40) : DegIs w v (sumL xs) :=
  ⟨_, _, h, fun i hi => by
    have h1 := dsum_nn (gOf xs) i (fun j hj => (hx j (by omega)).1)
    have h2 := dsum_bnd (gOf xs) i (fun j hj => hx j (by omega))
    unfold gOf at h1 h2
    exact ⟨h1, by omega⟩, rfl⟩

/-- z: how far they are exponents. -/
theorem areExp_some (v : Value) (n z : Nat) (r : Bool) (G : Nat → Int) (w : World) (h : RdI w v n G) (hn0 : 0 < n) (hn : n ≤ 4) (hz : z ≤ n) (hgood : ∀ i, i < z → stepX G i)
    (hend : (z = n ∧ r = true) ∨ (z < n ∧ ¬ stepX G z ∧ r = false)) :
    Calls Try.prog 65 #[v] w fun e w' => e = .returned (.bool r) ∧ w = w' := by
  obtain ⟨a, cap, rfl, hm, hc⟩ := h
  obtain ⟨b, off, rfl, hc'⟩ := hc.resolve_left (by omega)
  have HC := Lib.hid hc'
  have HO := Lib.hid hgood
  have HE := Lib.hid hend
  clear hc hc' hn0 hgood hend
  go_enter Try.func65, Try.ntmps65
  go_wp2
  go_loop [3, 5, 8] (fun l _ c => ∃ j : Nat, j ≤ z ∧ c = .int .i64 j ∧ l = .int .i64 (40 - dsum G j)) (fun _ _ c => n - (intOf c).toNat)
  case atStart => exact ⟨0, by omega, rfl, rfl⟩
  case round =>
    obtain ⟨j, hj, rfl, rfl⟩ := hrel
    by_cases hjn : j < n
    · have hlt' : (j : Int) < (n : Int) := by omega
      have c1 := HC.out j hjn
      have hp := dsum_nn G j (fun i hi => (HO.out i (by omega)).1)
      have h40 : dsum G j ≤ 40 := by
        cases j with
        | zero => exact (by decide : (0 : Int) ≤ 40)
        | succ j => exact (HO.out j (by omega)).2
      have hs : Hid (dsum G (j + 1) = dsum G j + G j) := Lib.hid rfl
      by_cases hlt : j < z
      · have h1 := (HO.out j hlt).1
        have h2 := (HO.out j hlt).2
        rw [hs.out] at h2
        generalize dsum G j = y at *
        generalize G j = x at *
        have g1 : ¬ x < 0 := by omega
        have g2 : ¬ 40 - y < x := by omega
        go_wp2
        go_round
        case rel => exact ⟨j + 1, by omega, by go_num, by rw [hs.out]; go_num⟩
        case measure => simp [intOf]; omega
      · obtain rfl : j = z := by omega
        obtain ⟨_, hbad, rfl⟩ := HE.out.resolve_left (fun h => by omega)
        unfold stepX at hbad
        rw [hs.out] at hbad
        generalize dsum G j = y at *
        generalize G j = x at *
        by_cases g1 : x < 0
        · go_wp2
          go_ret
          exact ⟨rfl, rfl⟩
        · have g2 : 40 - y < x := by omega
          clear hbad
          go_wp2
          go_ret
          exact ⟨rfl, rfl⟩
    · obtain rfl : j = n := by omega
      obtain rfl : r = true := by
        rcases HE.out with ⟨_, h⟩ | ⟨h, _⟩
        · exact h
        · omega
      generalize dsum G j = y at *
      go_wp2
      go_ret
      exact ⟨rfl, rfl⟩
theorem areExp_yes {v : Value} {xs : List Int} (w : World) (h : RdI w v xs.length (fun j => xs[j]?.getD 0)) (h0 : 0 < xs.length) (h4 : xs.length ≤ 4) (hok : isX xs) :
    Calls Try.prog 65 #[v] w fun e w' => e = .returned (.bool true) ∧ w = w' :=
  areExp_some v _ _ true _ w h h0 h4 (Nat.le_refl _) hok (.inl ⟨rfl, rfl⟩)
theorem areExp_no {v : Value} {xs : List Int} (w : World) (h : RdI w v xs.length (fun j => xs[j]?.getD 0)) (h0 : 0 < xs.length) (h4 : xs.length ≤ 4) (hok : ¬ isX xs) :
    Calls Try.prog 65 #[v] w fun e w' => e = .returned (.bool false) ∧ w = w' := by
  obtain ⟨z, hz, hbad, hgood⟩ := first_bad0 (stepX (gOf xs)) xs.length hok
  exact areExp_some v _ z false _ w h h0 h4 (by omega) hgood (.inr ⟨hz, hbad, rfl⟩)

theorem isZeroP_any (k : Int) (a : Option Addr) (m cap : Nat) (w : World) :
    Calls Try.prog 51 #[.agg #[.int .i64 k, .slice a m cap]] w fun e w' => e = .returned (.bool (decide (m = 0))) ∧ Below w.heap.size w w' := by
  have t2 := Try.underlying31
  have B0 : Hid (Below w.heap.size w (w.alloc (.cells #[.int .i64 k, .slice a m cap] 31))) := Lib.hid ((Below.refl w.heap.size w).alloc (Nat.le_refl _) _)
  by_cases h0 : m = 0
  · subst h0
    go_enter Try.func51, Try.ntmps51
    go_wp2
    go_ret
    exact ⟨rfl, B0.out⟩
  · have hz : ((m : Int) == 0) = false := by rw [beq_eq_false_iff_ne]; omega
    have hd : Hid (decide (m = 0) = false) := Lib.hid (decide_eq_false h0)
    rw [hd.out]
    clear h0 hd
    go_enter Try.func51, Try.ntmps51
    go_wp2
    go_ret
    exact ⟨rfl, B0.out⟩

/-- The degree: that of the first term. -/
theorem degreeP_any (k : Int) (a : Option Addr) (m cap : Nat) (x : Int) (w : World) (h0 : m = 0 → x = 0) (h1 : 0 < m → ∃ b off v, a = some ⟨b, off, none⟩ ∧ w.cell? ⟨b, off, none⟩ = some v ∧ DegIs w v x) :
    Calls Try.prog 58 #[.agg #[.int .i64 k, .slice a m cap]] w fun e w' => e = .returned (.int .i64 x) ∧ Below w.heap.size w w' := by
  have t2 := Try.underlying31
  have B0 : Hid (Below w.heap.size w (w.alloc (.cells #[.int .i64 k, .slice a m cap] 31))) := Lib.hid ((Below.refl w.heap.size w).alloc (Nat.le_refl _) _)
  have BX : Hid (Box (w.alloc (.cells #[.int .i64 k, .slice a m cap] 31)) w.heap.size 31 (.int .i64 k) (.slice a m cap)) := Lib.hid (Box.new _ _ _ _)
  have Z := Lib.hid (isZeroP_any k a m cap (w.alloc (.cells #[.int .i64 k, .slice a m cap] 31)))
  by_cases hm : m = 0
  · subst hm
    obtain rfl := h0 rfl
    clear h0 h1 BX
    go_enter Try.func58, Try.ntmps58
    go_wp2_with fail
    refine Z.out.mono ?_
    rintro e w2 ⟨rfl, b2⟩
    have B2 := Lib.hid (B0.out.trans (b2.mono B0.out.size))
    clear b2
    go_wp2_with fail
    go_ret
    exact ⟨rfl, B2.out⟩
  · obtain ⟨b, off, v, rfl, hc, hd⟩ := h1 (by omega)
    have hdz : decide (m = 0) = false := decide_eq_false hm
    rw [hdz] at Z
    have hp : (0 : Int) < (m : Int) := by omega
    have HC := Lib.hid hc
    have HD := Lib.hid hd
    clear h0 h1 hc hd hdz hm
    go_enter Try.func58, Try.ntmps58
    go_wp2_with fail
    refine Z.out.mono ?_
    rintro e w2 ⟨rfl, b2⟩
    have B2 := Lib.hid (B0.out.trans (b2.mono B0.out.size))
    have c1 := (BX.out.up b2).c1
    have c2 : w2.cell? ⟨b, off, none⟩ = some v := (B2.out.cell (p := ⟨b, off, none⟩) (World.block_lt_of_cell? w _ HC.out)).trans HC.out
    have D2 := Lib.hid (HD.out.below B2.out)
    clear b2 BX Z
    go_wp2_with fail
    refine (degreeOfWord_is D2.out).mono ?_
    rintro e w3 ⟨rfl, rfl⟩
    go_wp2_with fail
    go_ret
    exact ⟨rfl, B2.out⟩
end Go.Proofs.Ytggebkcmokpcmaa
end
