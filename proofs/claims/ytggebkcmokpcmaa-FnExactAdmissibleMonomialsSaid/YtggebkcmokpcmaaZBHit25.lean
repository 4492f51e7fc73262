/-
  Joined: WPascal, WBinomial, WBinBoth, YSqS.
-/
import Derived.Test.YtggebkcmokpcmaaZBHit01
import Derived.Test.YtggebkcmokpcmaaRows
import Derived.WalkLawsBesides
import Derived.WalkSpells
import Derived.Test.YtggebkcmokpcmaaZBHit13
import Derived.Lib.Hide
import Derived.Test.YtggebkcmokpcmaaZBHit20
import Derived.Test.YtggebkcmokpcmaaZBHit24
import Derived.Test.YtggebkcmokpcmaaZBHit22
section
namespace Go.Proofs.Ytggebkcmokpcmaa
set_option maxRecDepth 100000

/-- The parity of the binomial number, by digits. -/
def bpar (n k : Nat) : Nat := if n &&& k = k then 1 else 0

theorem and_step (n k : Nat) : (n &&& k = k) ↔ (n % 2 &&& k % 2 = k % 2) ∧ (n / 2 &&& k / 2 = k / 2) := by
  have h1 : (n &&& k) / 2 = n / 2 &&& k / 2 := Nat.and_div_two
  have h2 : (n &&& k) % 2 = n % 2 &&& k % 2 := by
    have := Nat.and_mod_two_pow (a := n) (b := k) (n := 1)
    simpa using this
  constructor
  · intro h
    rw [h] at h1 h2
    exact ⟨h2.symm, h1.symm⟩
  · rintro ⟨h3, h4⟩
    rw [h3] at h2
    rw [h4] at h1
    omega

theorem bpar_step (a b i j : Nat) (hi : i < 2) (hj : j < 2) : bpar (2 * a + i) (2 * b + j) = if i &&& j = j then bpar a b else 0 := by
  unfold bpar
  have e := and_step (2 * a + i) (2 * b + j)
  rw [show (2 * a + i) % 2 = i by omega, show (2 * b + j) % 2 = j by omega, show (2 * a + i) / 2 = a by omega, show (2 * b + j) / 2 = b by omega] at e
  by_cases h1 : i &&& j = j
  · rw [if_pos h1]
    by_cases h2 : a &&& b = b
    · rw [if_pos (e.2 ⟨h1, h2⟩), if_pos h2]
    · rw [if_neg (fun h => h2 (e.1 h).2), if_neg h2]
  · rw [if_neg h1, if_neg (fun h => h1 (e.1 h).1)]

theorem bpar_oo (a b : Nat) : bpar (2 * a + 1) (2 * b + 1) = bpar a b := bpar_step a b 1 1 (by omega) (by omega)
theorem bpar_oe (a b : Nat) : bpar (2 * a + 1) (2 * b) = bpar a b := bpar_step a b 1 0 (by omega) (by omega)
theorem bpar_eo (a b : Nat) : bpar (2 * a) (2 * b + 1) = 0 := bpar_step a b 0 1 (by omega) (by omega)
theorem bpar_ee (a b : Nat) : bpar (2 * a) (2 * b) = bpar a b := bpar_step a b 0 0 (by omega) (by omega)

theorem pascal : ∀ n k : Nat, (bpar n (k + 1) + bpar n k) % 2 = bpar (n + 1) (k + 1) := by
  intro n
  induction n using Nat.strongRecOn with
  | _ n ih =>
    intro k
    obtain ⟨a, ha | ha⟩ : ∃ a, n = 2 * a ∨ n = 2 * a + 1 := ⟨n / 2, by omega⟩
    · obtain ⟨b, hb | hb⟩ : ∃ b, k = 2 * b ∨ k = 2 * b + 1 := ⟨k / 2, by omega⟩
      · subst ha hb
        rw [bpar_eo, bpar_ee, bpar_oo]
        unfold bpar
        split <;> rfl
      · subst ha hb
        rw [show 2 * b + 1 + 1 = 2 * (b + 1) by omega, bpar_ee, bpar_eo, bpar_oe]
        unfold bpar
        split <;> rfl
    · obtain ⟨b, hb | hb⟩ : ∃ b, k = 2 * b ∨ k = 2 * b + 1 := ⟨k / 2, by omega⟩
      · subst ha hb
        rw [bpar_oo, bpar_oe, show 2 * a + 1 + 1 = 2 * (a + 1) by omega, bpar_eo]
        omega
      · subst ha hb
        rw [show 2 * b + 1 + 1 = 2 * (b + 1) by omega, bpar_oe, bpar_oo, show 2 * a + 1 + 1 = 2 * (a + 1) by omega, bpar_ee]
        exact ih a (by omega) b
end Go.Proofs.Ytggebkcmokpcmaa
end
section
namespace Go.Proofs.Ytggebkcmokpcmaa
open Go.RowKit
set_option maxRecDepth 100000


end Go.Proofs.Ytggebkcmokpcmaa
end
section
namespace Go.Proofs.Ytggebkcmokpcmaa
open Go.RowKit
set_option maxRecDepth 100000
set_option linter.unusedVariables false

theorem andNot_bpar (n k : Nat) (hn : n ≤ 1000000000000) (hk : k ≤ 1000000000000) : (bits .andNot .i64 (k : Int) (n : Int) != 0) = decide (bpar n k = 0) := by
  have hz := andNot_zero k n (by omega) (by omega)
  rw [i64_andNot k n (by omega) (by omega)]
  unfold bpar
  by_cases h : n &&& k = k
  · rw [hz.2 h, if_pos h]
    rfl
  · have h' : k &&& (2 ^ 64 - (n + 1)) ≠ 0 := fun e => h (hz.1 e)
    rw [if_neg h]
    have e1 : (((k &&& (2 ^ 64 - (n + 1)) : Nat) : Int) != 0) = true := by
      rw [bne_iff_ne]; intro e; exact h' (by exact_mod_cast e)
    rw [e1]
    rfl

theorem bpar_two (n k : Nat) : bpar n k = 0 ∨ bpar n k = 1 := by
  unfold bpar
  split
  · exact .inr rfl
  · exact .inl rfl

theorem implBinomial_in (n k : Nat) (w : World) (hn : n ≤ 1000000000000) (hk : k ≤ 1000000000000) :
    Calls Try.prog 110 #[.int .i64 n, .int .i64 k] w fun e w' => e = .returned (.tuple #[.int .i64 (bpar n k), .int .i64 0]) ∧ w = w' := by
  have hb := andNot_bpar n k hn hk
  have h2 := bpar_two n k
  generalize bpar n k = p at hb h2
  have t1 : (n : Int) ≤ 1000000000000 := by omega
  have t2 : (k : Int) ≤ 1000000000000 := by omega
  rcases h2 with rfl | rfl
  · have h5 : (bits .andNot .i64 (k : Int) (n : Int) != 0) = true := hb
    clear hb
    go_enter Try.func110, Try.ntmps110
    go_wp2_with (go_at_call 89; refine (isNumber_yes _ _ (by omega) (by omega)).mono ?_; rintro e w' ⟨rfl, rfl⟩)
    go_ret2
    exact ⟨rfl, rfl⟩
  · have h5 : (bits .andNot .i64 (k : Int) (n : Int) != 0) = false := hb
    clear hb
    go_enter Try.func110, Try.ntmps110
    go_wp2_with (go_at_call 89; refine (isNumber_yes _ _ (by omega) (by omega)).mono ?_; rintro e w' ⟨rfl, rfl⟩)
    go_ret2
    exact ⟨rfl, rfl⟩

theorem l01Parity_in (n k : Nat) (w : World) (hn : n ≤ 1000000000000) (hk : k ≤ 1000000000000) :
    Calls Try.prog 105 #[.int .i64 n, .int .i64 k] w fun e w' => e = .returned (.int .i64 (bpar n k)) ∧ w = w' := by
  have hle : n &&& k ≤ n := Nat.and_le_left
  by_cases h : n &&& k = k
  · have hb : bpar n k = 1 := by unfold bpar; rw [if_pos h]
    have h5 : (bits .and .i64 (n : Int) (k : Int) != (k : Int)) = false := by
      rw [i64_and n k (by omega) (by omega), h]
      simp
    have h6 : (k : Int) ≤ (n : Int) := by omega
    rw [hb]
    clear hb h hle
    go_enter Try.func105, Try.ntmps105
    go_wp2
    go_ret
    exact ⟨rfl, rfl⟩
  · have hb : bpar n k = 0 := by unfold bpar; rw [if_neg h]
    have h5 : (bits .and .i64 (n : Int) (k : Int) != (k : Int)) = true := by
      rw [i64_and n k (by omega) (by omega), bne_iff_ne]
      intro e
      exact h (by exact_mod_cast e)
    rw [hb]
    clear hb h hle
    by_cases h6 : (k : Int) ≤ (n : Int)
    · go_enter Try.func105, Try.ntmps105
      go_wp2
      go_ret
      exact ⟨rfl, rfl⟩
    · go_enter Try.func105, Try.ntmps105
      go_wp2
      go_ret
      exact ⟨rfl, rfl⟩

end Go.Proofs.Ytggebkcmokpcmaa
end
section
namespace Go.Proofs.Ytggebkcmokpcmaa
open Go.RowKit
set_option linter.unusedVariables false
set_option maxRecDepth 100000

/-- Sq^i of a monomial: all ways to divide i among the exponents. -/
def sqL : List Int → Nat → List (List Int)
  | [], i => if i = 0 then [[]] else []
  | n :: r, i => (List.range (min n.toNat i + 1)).flatMap fun j => if bpar n.toNat j = 1 then (sqL r (i - j)).map fun z => (n + (j : Int)) :: z else []
/-- The same, the first J numbers for the first exponent alone. -/
def sqTo (n : Int) (r : List Int) (i J : Nat) : List (List Int) := (List.range J).flatMap fun j => if bpar n.toNat j = 1 then (sqL r (i - j)).map fun z => (n + (j : Int)) :: z else []
theorem sqL_cons (n : Int) (r : List Int) (i : Nat) : sqL (n :: r) i = sqTo n r i (min n.toNat i + 1) := rfl
theorem sqTo_succ (n : Int) (r : List Int) (i J : Nat) : sqTo n r i (J + 1) = sqTo n r i J ++ (if bpar n.toNat J = 1 then (sqL r (i - J)).map fun z => (n + (J : Int)) :: z else []) := by
  unfold sqTo
  rw [List.range_succ, List.flatMap_append]
  simp
theorem sqTo_len (n : Int) (r : List Int) (M : Nat) (h : ∀ i, i ≤ 40 → (sqL r i).length ≤ M) (i : Nat) (hi : i ≤ 40) (J : Nat) : (sqTo n r i J).length ≤ J * M := by
  induction J with
  | zero => simp [sqTo]
  | succ J ih =>
    rw [sqTo_succ, List.length_append, Nat.succ_mul]
    split
    · rw [List.length_map]
      have := h (i - J) (by omega)
      omega
    · simp; omega
theorem sqL_len : ∀ (r : List Int) (i : Nat), i ≤ 40 → (sqL r i).length ≤ 41 ^ r.length
  | [], i, _ => by rw [sqL]; split <;> simp
  | n :: r, i, hi => by
    rw [sqL_cons]
    have h1 := sqTo_len n r (41 ^ r.length) (fun i hi => sqL_len r i hi) i hi (min n.toNat i + 1)
    have h2 : (min n.toNat i + 1) * 41 ^ r.length ≤ 41 * 41 ^ r.length := Nat.mul_le_mul_right _ (by omega)
    rw [List.length_cons, Nat.pow_succ, Nat.mul_comm]
    omega
theorem sqL_row : ∀ (r : List Int) (i : Nat) (z : List Int), z ∈ sqL r i → z.length = r.length
  | [], i, z, h => by
    rw [sqL] at h
    split at h
    · rw [List.mem_singleton.1 h]
    · cases h
  | n :: r, i, z, h => by
    rw [sqL] at h
    obtain ⟨j, _, h⟩ := List.mem_flatMap.1 h
    split at h
    · obtain ⟨y, hy, rfl⟩ := List.mem_map.1 h
      rw [List.length_cons, List.length_cons, sqL_row r _ y hy]
    · cases h

theorem rowsL_ofY (L : List (List Int)) : rowsL (rowsOf L) L.length = L := by
  unfold rowsL rowsOf
  refine List.ext_getElem (by simp) fun i h1 h2 => ?_
  simp [h2]
theorem sum_famsY {w : World} {B1 B2 : Nat} {V U : Value} {VS US : Nat → Value} {Z P : List (List Int)} (h1 : FamL w B1 V VS (oddY Z)) (h2 : FamL w B2 U US (oddY P)) (l1 : Z.length ≤ 100000000000) (l2 : P.length ≤ 100000000000) (r1 : ∀ z ∈ Z, z.length ≤ 100) (r2 : ∀ z ∈ P, z.length ≤ 100) :
    Calls Try.prog 68 #[V, U] w (LPostY (oddY (Z ++ P)) w) := by
  have a1 := oddY_le Z
  have a2 := oddY_le P
  have := l01Sum_any V U (oddY Z).length (oddY P).length (rowsOf (oddY Z)) (rowsOf (oddY P)) VS US B1 B2 w h1 h2 (by omega) (by omega) (fun i hi => by
    unfold rowsOf
    rw [List.getElem?_eq_getElem hi]
    have := r1 _ (oddY_mem (List.getElem_mem hi))
    simp only [Option.getD_some]
    omega) (fun i hi => by
    unfold rowsOf
    rw [List.getElem?_eq_getElem hi]
    have := r2 _ (oddY_mem (List.getElem_mem hi))
    simp only [Option.getD_some]
    omega)
  have e : mrg (oddY Z) (oddY P) = oddY (Z ++ P) := by
    obtain ⟨e1, e2⟩ := mrg_spec (oddY Z) (oddY P) (oddY_spec Z).1 (oddY_spec P).1
    refine oddY_eq e1 fun z => ?_
    rw [e2, par_append, (oddY_spec Z).2, (oddY_spec P).2]
  rw [rowsL_ofY, rowsL_ofY, e] at this
  exact this

/-- What ends a monomial: itself. -/
theorem l08Mono_end (xs : List Int) (i : Nat) (v : Value) (w : World) (hl : xs.length ≤ 4) (hv : RdN w v xs) :
    Calls Try.prog 93 #[v, .int .i64 (xs.length : Int), .int .i64 (i : Int)] w (LPostY (oddY ((sqL [] i).map (xs ++ ·))) w) := by
  have OW := Lib.hid (own_rdn v xs w hv (by omega))
  obtain ⟨a, cap, rfl, hcap, hm, hc⟩ := hv
  have e0 : ((xs.length : Int) == (xs.length : Int)) = true := beq_self_eq_true _
  clear hc
  by_cases h0 : i = 0
  · subst h0
    have E : Hid (oddY ((sqL [] 0).map (xs ++ ·)) = [xs]) := Lib.hid (by
      have e1 : (sqL [] 0).map (xs ++ ·) = [xs] := by simp [sqL]
      rw [e1]
      exact oddY_asc (List.pairwise_singleton _ _))
    rw [E.out]
    go_enter Try.func93, Try.ntmps93
    go_wp2_with fail
    refine OW.out.mono ?_
    rintro e w1 ⟨u, rfl, ho, b1⟩
    obtain ⟨ua, uc, rfl⟩ := own_shape4 ho
    have F2 : Hid (FamL (w1.alloc (.cells #[.slice ua xs.length uc] 42)) w.heap.size (.slice (some ⟨w1.heap.size, 0, none⟩) 1 1) (fun _ => .slice ua xs.length uc) [xs]) := Lib.hid (by
      have b2 : Below w1.heap.size w1 (w1.alloc (.cells #[.slice ua xs.length uc] 42)) := (Below.refl _ _).alloc (Nat.le_refl _) _
      refine ⟨⟨rfl, .inr ⟨w1.heap.size, 1, #[.slice ua xs.length uc], rfl, b1.size, heap_alloc_new w1 _, Nat.le_refl _, by unfold maxLen; omega, by simp, by simp⟩⟩, fun j hj => ?_⟩
      obtain rfl : j = 0 := by simp at hj; omega
      exact own_below ho b2)
    have B2 : Hid (Below w.heap.size w (w1.alloc (.cells #[.slice ua xs.length uc] 42))) := Lib.hid (b1.alloc b1.size _)
    clear ho b1 OW
    go_wp2_with fail
    go_ret
    exact ⟨_, _, rfl, F2.out, fun i j hi hj hne => by simp at hi hj; omega, B2.out⟩
  · have E : Hid (oddY ((sqL [] i).map (xs ++ ·)) = []) := Lib.hid (by
      have e1 : (sqL [] i).map (xs ++ ·) = [] := by rw [sqL, if_neg h0]; rfl
      rw [e1]; rfl)
    rw [E.out]
    have hz : ((i : Int) == 0) = false := by rw [beq_eq_false_iff_ne]; omega
    go_enter Try.func93, Try.ntmps93
    go_wp2_with fail
    go_ret
    exact ⟨_, fun _ => undef, rfl, famNil _ _, sepNil, Below.refl _ _⟩
end Go.Proofs.Ytggebkcmokpcmaa
end
