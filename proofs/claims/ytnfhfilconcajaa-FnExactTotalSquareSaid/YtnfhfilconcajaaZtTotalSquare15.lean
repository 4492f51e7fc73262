/-
  Joined: YIs, YSum.
-/
import Derived.Test.YtnfhfilconcajaaZtTotalSquare13
import Derived.Test.YtnfhfilconcajaaZtTotalSquare14
import Derived.Test.YtnfhfilconcajaaZtTotalSquare04
import Derived.Deep.RegionHeld3
import Derived.Deep.QuietTactic
import Derived.BigQuiet
import Derived.Test.YtnfhfilconcajaaZtTotalSquare11
section
namespace Go.Proofs.Ytnfhfilconcajaa
open Go.RowKit
set_option linter.unusedVariables false
set_option maxRecDepth 100000

/-- A step of a list of exponents. -/
def stepX (G : Nat → Int) (i : Nat) : Prop := 0 ≤ G i ∧ dsum G (i + 1) ≤ 40
/-- Exponents with a sum of at most 40. -/
def isX (xs : List Int) : Prop := ∀ i, i < xs.length → stepX (gOf xs) i
theorem dsum_nn (G : Nat → Int) (i : Nat) (h : ∀ j, j < i → 0 ≤ G j) : 0 ≤ dsum G i := by
  induction i with
  | zero => exact Int.le_refl _
  | succ i ih =>
    have h1 := ih (fun j hj => h j (by omega))
    have h2 := h i (by omega)
    rw [dsum]
    omega
theorem dsum_up (G : Nat → Int) (i j : Nat) (h : ∀ k, k < i + j → 0 ≤ G k) : dsum G i ≤ dsum G (i + j) := by
  induction j with
  | zero => exact Int.le_refl _
  | succ j ih =>
    have h1 := ih (fun k hk => h k (by omega))
    have h2 := h (i + j) (by omega)
    rw [← Nat.add_assoc, dsum]
    omega
/-- Exponents, one by one and by their sum. -/
theorem isX_iff {xs : List Int} : isX xs ↔ (∀ i, i < xs.length → 0 ≤ gOf xs i ∧ gOf xs i ≤ 40) ∧ sumL xs ≤ 40 := by
  constructor
  · intro h
    have hn : ∀ i, i < xs.length → 0 ≤ gOf xs i := fun i hi => (h i hi).1
    refine ⟨fun i hi => ⟨hn i hi, ?_⟩, ?_⟩
    · have h1 := (h i hi).2
      rw [dsum] at h1
      have h2 := dsum_nn (gOf xs) i (fun j hj => hn j (by omega))
      omega
    · unfold sumL
      cases e : xs.length with
      | zero => exact (by decide : (0 : Int) ≤ 40)
      | succ n => exact (h n (by omega)).2
  · rintro ⟨h1, h2⟩ i hi
    refine ⟨(h1 i hi).1, ?_⟩
    unfold sumL at h2
    have := dsum_up (gOf xs) (i + 1) (xs.length - (i + 1)) (fun j hj => (h1 j (by omega)).1)
    rw [show i + 1 + (xs.length - (i + 1)) = xs.length by omega] at this
    omega

def stepY (k : Int) (X : Nat → List Int) (i : Nat) : Prop := ((X i).length : Int) = k ∧ isX (X i) ∧ sumL (X i) = sumL (X 0)
/-- A polynomial. -/
def okPl (k : Int) (X : Nat → List Int) (m : Nat) : Prop := (1 ≤ k ∧ k ≤ 4) ∧ okTerms X m ∧ ∀ i, i < m → stepY k X i

theorem dsum_bnd (G : Nat → Int) : ∀ n : Nat, (∀ i, i < n → 0 ≤ G i ∧ G i ≤ 40) → dsum G n ≤ 40 * (n : Int)
  | 0, _ => by rw [dsum]; omega
  | n + 1, h => by
    have h1 := dsum_bnd G n (fun i hi => h i (by omega))
    have h2 := h n (by omega)
    rw [dsum]
    omega
theorem degIs_exp {w : World} {v : Value} {xs : List Int} (h : RdI w v xs.length (fun j => xs[j]?.getD 0)) (h4 : xs.length ≤ 4) (hx : ∀ i, i < xs.length → 0 ≤ gOf xs i ∧ gOf xs i ≤ 40) : DegIs w v (sumL xs) :=
  ⟨_, _, h, fun i hi => by
    have h1 := dsum_nn (gOf xs) i (fun j hj => (hx j (by omega)).1)
    have h2 := dsum_bnd (gOf xs) i (fun j hj => hx j (by omega))
    unfold gOf at h1 h2
    exact ⟨h1, by omega⟩, rfl⟩

/-- z: how far they are exponents. -/
theorem areExp_some (v : Value) (n z : Nat) (r : Bool) (G : Nat → Int) (w : World) (h : RdI w v n G) (hn0 : 0 < n) (hn : n ≤ 4) (hz : z ≤ n) (hgood : ∀ i, i < z → stepX G i)
    (hend : (z = n ∧ r = true) ∨ (z < n ∧ ¬ stepX G z ∧ r = false)) :
    Calls Try.prog 52 #[v] w fun e w' => e = .returned (.bool r) ∧ w = w' := by
  obtain ⟨a, cap, rfl, hm, hc⟩ := h
  obtain ⟨b, off, rfl, hc'⟩ := hc.resolve_left (by omega)
  have HC := Lib.hid hc'
  have HO := Lib.hid hgood
  have HE := Lib.hid hend
  clear hc hc' hn0 hgood hend
  go_enter Try.func52, Try.ntmps52
  go_wp2
  go_loop [3, 5, 8] (fun l _ c => ∃ j : Nat, j ≤ z ∧ c = .int .i64 j ∧ l = .int .i64 (40 - dsum G j)) (fun _ _ c => n - (intOf c).toNat)
  case atStart => exact ⟨0, by omega, rfl, rfl⟩
  case round =>
    obtain ⟨j, hj, rfl, rfl⟩ := hrel
    by_cases hjn : j < n
    · have hlt' : (j : Int) < (n : Int) := by omega
      have c1 := HC.out j hjn
      have hp := dsum_nn G j (fun i hi => (HO.out i (by omega)).1)
      have h40 : dsum G j ≤ 40 := by
        cases j with
        | zero => exact (by decide : (0 : Int) ≤ 40)
        | succ j => exact (HO.out j (by omega)).2
      have hs : Hid (dsum G (j + 1) = dsum G j + G j) := Lib.hid rfl
      by_cases hlt : j < z
      · have h1 := (HO.out j hlt).1
        have h2 := (HO.out j hlt).2
        rw [hs.out] at h2
        generalize dsum G j = y at *
        generalize G j = x at *
        have g1 : ¬ x < 0 := by omega
        have g2 : ¬ 40 - y < x := by omega
        go_wp2
        go_round
        case rel => exact ⟨j + 1, by omega, by go_num, by rw [hs.out]; go_num⟩
        case measure => simp [intOf]; omega
      · obtain rfl : j = z := by omega
        obtain ⟨_, hbad, rfl⟩ := HE.out.resolve_left (fun h => by omega)
        unfold stepX at hbad
        rw [hs.out] at hbad
        generalize dsum G j = y at *
        generalize G j = x at *
        by_cases g1 : x < 0
        · go_wp2
          go_ret
          exact ⟨rfl, rfl⟩
        · have g2 : 40 - y < x := by omega
          clear hbad
          go_wp2
          go_ret
          exact ⟨rfl, rfl⟩
    · obtain rfl : j = n := by omega
      obtain rfl : r = true := by
        rcases HE.out with ⟨_, h⟩ | ⟨h, _⟩
        · exact h
        · omega
      generalize dsum G j = y at *
      go_wp2
      go_ret
      exact ⟨rfl, rfl⟩
theorem areExp_yes {v : Value} {xs : List Int} (w : World) (h : RdI w v xs.length (fun j => xs[j]?.getD 0)) (h0 : 0 < xs.length) (h4 : xs.length ≤ 4) (hok : isX xs) :
    Calls Try.prog 52 #[v] w fun e w' => e = .returned (.bool true) ∧ w = w' :=
  areExp_some v _ _ true _ w h h0 h4 (Nat.le_refl _) hok (.inl ⟨rfl, rfl⟩)
theorem areExp_no {v : Value} {xs : List Int} (w : World) (h : RdI w v xs.length (fun j => xs[j]?.getD 0)) (h0 : 0 < xs.length) (h4 : xs.length ≤ 4) (hok : ¬ isX xs) :
    Calls Try.prog 52 #[v] w fun e w' => e = .returned (.bool false) ∧ w = w' := by
  obtain ⟨z, hz, hbad, hgood⟩ := first_bad0 (stepX (gOf xs)) xs.length hok
  exact areExp_some v _ z false _ w h h0 h4 (by omega) hgood (.inr ⟨hz, hbad, rfl⟩)

theorem isZeroP_any (k : Int) (a : Option Addr) (m cap : Nat) (w : World) :
    Calls Try.prog 59 #[.agg #[.int .i64 k, .slice a m cap]] w fun e w' => e = .returned (.bool (decide (m = 0))) ∧ Below w.heap.size w w' := by
  have t2 := Try.underlying27
  have B0 : Hid (Below w.heap.size w (w.alloc (.cells #[.int .i64 k, .slice a m cap] 27))) := Lib.hid ((Below.refl w.heap.size w).alloc (Nat.le_refl _) _)
  by_cases h0 : m = 0
  · subst h0
    go_enter Try.func59, Try.ntmps59
    go_wp2
    go_ret
    exact ⟨rfl, B0.out⟩
  · have hz : ((m : Int) == 0) = false := by rw [beq_eq_false_iff_ne]; omega
    have hd : Hid (decide (m = 0) = false) := Lib.hid (decide_eq_false h0)
    rw [hd.out]
    clear h0 hd
    go_enter Try.func59, Try.ntmps59
    go_wp2
    go_ret
    exact ⟨rfl, B0.out⟩

/-- The degree: that of the first term. -/
theorem degreeP_any (k : Int) (a : Option Addr) (m cap : Nat) (x : Int) (w : World) (h0 : m = 0 → x = 0) (h1 : 0 < m → ∃ b off v, a = some ⟨b, off, none⟩ ∧ w.cell? ⟨b, off, none⟩ = some v ∧ DegIs w v x) :
    Calls Try.prog 54 #[.agg #[.int .i64 k, .slice a m cap]] w fun e w' => e = .returned (.int .i64 x) ∧ Below w.heap.size w w' := by
  have t2 := Try.underlying27
  have B0 : Hid (Below w.heap.size w (w.alloc (.cells #[.int .i64 k, .slice a m cap] 27))) := Lib.hid ((Below.refl w.heap.size w).alloc (Nat.le_refl _) _)
  have BX : Hid (Box (w.alloc (.cells #[.int .i64 k, .slice a m cap] 27)) w.heap.size 27 (.int .i64 k) (.slice a m cap)) := Lib.hid (Box.new _ _ _ _)
  have Z := Lib.hid (isZeroP_any k a m cap (w.alloc (.cells #[.int .i64 k, .slice a m cap] 27)))
  by_cases hm : m = 0
  · subst hm
    obtain rfl := h0 rfl
    clear h0 h1 BX
    go_enter Try.func54, Try.ntmps54
    go_wp2_with fail
    refine Z.out.mono ?_
    rintro e w2 ⟨rfl, b2⟩
    have B2 := Lib.hid (B0.out.trans (b2.mono B0.out.size))
    clear b2
    go_wp2_with fail
    go_ret
    exact ⟨rfl, B2.out⟩
  · obtain ⟨b, off, v, rfl, hc, hd⟩ := h1 (by omega)
    have hdz : decide (m = 0) = false := decide_eq_false hm
    rw [hdz] at Z
    have hp : (0 : Int) < (m : Int) := by omega
    have HC := Lib.hid hc
    have HD := Lib.hid hd
    clear h0 h1 hc hd hdz hm
    go_enter Try.func54, Try.ntmps54
    go_wp2_with fail
    refine Z.out.mono ?_
    rintro e w2 ⟨rfl, b2⟩
    have B2 := Lib.hid (B0.out.trans (b2.mono B0.out.size))
    have c1 := (BX.out.up b2).c1
    have c2 : w2.cell? ⟨b, off, none⟩ = some v := (B2.out.cell (p := ⟨b, off, none⟩) (World.block_lt_of_cell? w _ HC.out)).trans HC.out
    have D2 := Lib.hid (HD.out.below B2.out)
    clear b2 BX Z
    go_wp2_with fail
    refine (degreeOfWord_is D2.out).mono ?_
    rintro e w3 ⟨rfl, rfl⟩
    go_wp2_with fail
    go_ret
    exact ⟨rfl, B2.out⟩
end Go.Proofs.Ytnfhfilconcajaa
end
section
namespace Go.Proofs.Ytnfhfilconcajaa
open Go.RowKit Go.Maps
set_option linter.unusedVariables false
set_option maxRecDepth 100000

/-- Whether i occurs an odd number of times. -/
def oddN (N : List Nat) (i : Nat) : Bool := N.count i % 2 == 1
theorem oddN_snoc_same (N : List Nat) (i : Nat) : oddN (N ++ [i]) i = !oddN N i := by
  unfold oddN
  rw [List.count_append, List.count_singleton_self]
  rcases Nat.mod_two_eq_zero_or_one (N.count i) with h | h
  · rw [h, show (N.count i + 1) % 2 = 1 by omega]; rfl
  · rw [h, show (N.count i + 1) % 2 = 0 by omega]; rfl
theorem oddN_snoc_ne (N : List Nat) (i j : Nat) (h : i ≠ j) : oddN (N ++ [i]) j = oddN N j := by
  unfold oddN
  rw [List.count_append, List.count_singleton]
  simp [h]
/-- The cells of a sum. -/
def bitsL (N : List Nat) : List Value := (List.range 68921).map fun i => .bool (oddN N i)
def sumV (d : Int) (N : List Nat) : Array Value := (Value.int .i64 d :: bitsL N).toArray
theorem bitsL_len (N : List Nat) : (bitsL N).length = 68921 := by unfold bitsL; rw [List.length_map, List.length_range]
theorem bitsL_at (N : List Nat) (i : Nat) (h : i < 68921) : (bitsL N)[i]? = some (.bool (oddN N i)) := by
  unfold bitsL
  rw [List.getElem?_map, List.getElem?_range h]
  rfl
theorem bitsL_set (N : List Nat) (i : Nat) (h : i < 68921) : (bitsL N).set i (.bool (!oddN N i)) = bitsL (N ++ [i]) := by
  refine List.ext_getElem? fun j => ?_
  rw [List.getElem?_set, bitsL_len]
  by_cases hj : j < 68921
  · rw [bitsL_at _ _ hj, bitsL_at _ _ hj]
    by_cases e : i = j
    · subst e; rw [if_pos rfl, if_pos h, oddN_snoc_same]
    · rw [if_neg e, oddN_snoc_ne _ _ _ e]
  · rw [List.getElem?_eq_none (by rw [bitsL_len]; omega), List.getElem?_eq_none (by rw [bitsL_len]; omega), if_neg (by omega)]
def isF : Value → Bool
  | .bool b => !b
  | _ => false
theorem isF_eq {v : Value} (h : isF v = true) : v = .bool false := by
  cases v <;> simp [isF] at h
  rw [h]
theorem zall : (Try.zeroCells96.toList.tail).all isF = true := by kernel_rfl
theorem zhead : Try.zeroCells96.toList.head? = some (.int .i64 0) := by kernel_rfl
theorem zero_sum : Try.zeroCells96 = sumV 0 [] := by
  have hs := Try.zeroCells96_size
  have ha := zall
  have hh := zhead
  generalize Try.zeroCells96 = Z at *
  obtain ⟨L⟩ := Z
  cases L with
  | nil => cases hh
  | cons z L =>
    simp only [List.head?_cons, Option.some.injEq] at hh
    subst hh
    unfold sumV
    congr 1
    congr 1
    simp only [List.size_toArray, List.length_cons] at hs
    simp only [List.tail_cons] at ha
    refine List.ext_getElem? fun j => ?_
    by_cases hj : j < 68921
    · rw [bitsL_at _ _ hj, List.getElem?_eq_getElem (by omega), isF_eq (List.all_eq_true.1 ha _ (List.getElem_mem (by omega)))]
      rfl
    · rw [List.getElem?_eq_none (by omega), List.getElem?_eq_none (by rw [bitsL_len]; omega)]

/-- A sum lies in block g. -/
def SumAt (w : World) (g : Nat) (d : Int) (N : List Nat) : Prop := w.heap[g]? = some (.cells (sumV d N) 96 (0, 0))
section
variable {w w' : World} {g : Nat} {d : Int} {N : List Nat}
theorem SumAt.lt (h : SumAt w g d N) : g < w.heap.size := (Array.getElem?_eq_some_iff.1 h).1
theorem SumAt.c0 (h : SumAt w g d N) : w.cell? ⟨g, 0, none⟩ = some (.int .i64 d) := cell_of_row w g 0 _ _ (0, 0) h
theorem SumAt.ci (h : SumAt w g d N) (i : Nat) (hi : i < 68921) : w.cell? ⟨g, 1 + i, none⟩ = some (.bool (oddN N i)) := by
  rw [cell_of_row w g (1 + i) _ _ (0, 0) h]
  unfold sumV
  rw [List.getElem?_toArray, Nat.add_comm, List.getElem?_cons_succ]
  exact bitsL_at N i hi
theorem SumAt.fr (h : SumAt w g d N) (i : Nat) : w.frozen? ⟨g, i, none⟩ = false := by unfold SumAt at h; simp [World.frozen?, h]
theorem SumAt.set0 (h : SumAt w g d N) (d' : Int) : SumAt (w.setCell ⟨g, 0, none⟩ (.int .i64 d')) g d' N := heap_setCell_same w g 0 _ _ (.int .i64 d') h
theorem SumAt.seti (h : SumAt w g d N) (i : Nat) (hi : i < 68921) : SumAt (w.setCell ⟨g, 1 + i, none⟩ (.bool (!oddN N i))) g d (N ++ [i]) := by
  have := heap_setCell_same w g (1 + i) _ _ (.bool (!oddN N i)) h
  have e : (sumV d N).setIfInBounds (1 + i) (.bool (!oddN N i)) = sumV d (N ++ [i]) := by
    unfold sumV
    rw [List.setIfInBounds_toArray, Nat.add_comm, List.set_cons_succ, bitsL_set N i hi]
  rw [e] at this
  exact this
theorem SumAt.up (h : SumAt w g d N) (k : Below w.heap.size w w') : SumAt w' g d N := (k.block _ h.lt).trans h
theorem SumAt.drewN (h : SumAt w g d N) (q : Nat) : SumAt (w.drewN q) g d N := h
theorem SumAt.alloc (h : SumAt w g d N) (o : Obj) : SumAt (w.alloc o) g d N := (heap_alloc_old w o h.lt).trans h
theorem SumAt.new (w : World) : SumAt (w.alloc (.cells Try.zeroCells96 96)) w.heap.size 0 [] := by
  unfold SumAt
  rw [← zero_sum]
  exact heap_alloc_new w _
end

/-- The place of a monomial. -/
def ixM (a b c : Nat) : Nat := a * 1681 + b * 41 + c

end Go.Proofs.Ytnfhfilconcajaa
end
