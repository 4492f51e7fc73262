/-
  The walk of laws.FnExactDigitsOf.
-/
import Derived.Test.YtfhfnjcfkpcmnaaWImplDigits
import Derived.Test.YtfhfnjcfkpcmnaaWLaws
import Derived.Test.YtfhfnjcfkpcmnaaWBinomial
namespace Go.Proofs.Ytfhfnjcfkpcmnaa
set_option linter.unusedVariables false
open Go.RowKit

theorem own_below {w w' : World} {B : Nat} {v : Value} {n : Nat} {xs : List Value} {e : TypeId} {s : Nat} (h : w.ownsRow B e s v n xs) (k : Below w.heap.size w w') : w'.ownsRow B e s v n xs := by
  refine ⟨h.1, ?_⟩
  rcases h.2 with hn | ⟨g, cap, cur, rfl, hb, hg, rest⟩
  · exact .inl hn
  · refine .inr ⟨g, cap, cur, rfl, hb, ?_, rest⟩
    rw [k.block g (Array.getElem?_eq_some_iff.1 hg).1]
    exact hg

theorem own_drewN {w : World} {B : Nat} {v : Value} {n : Nat} {xs : List Value} {e : TypeId} {s : Nat} (h : w.ownsRow B e s v n xs) (q : Nat) : (w.drewN q).ownsRow B e s v n xs := h

theorem own_base {w : World} {B B' : Nat} {v : Value} {n : Nat} {xs : List Value} {e : TypeId} {s : Nat} (h : w.ownsRow B e s v n xs) (hb : B' ≤ B) : w.ownsRow B' e s v n xs := by
  refine ⟨h.1, ?_⟩
  rcases h.2 with hn | ⟨g, cap, cur, rfl, hb2, rest⟩
  · exact .inl hn
  · exact .inr ⟨g, cap, cur, rfl, Nat.le_trans hb hb2, rest⟩

theorem own_apart {w w' : World} {B m n : Nat} {v v' : Value} {xs ys : List Value} {e e' : TypeId} {s s' : Nat} (h : w.ownsRow B e s v n xs) (k : w'.ownsRow w.heap.size e' s' v' m ys) : v.ownBlock = none ∨ v.ownBlock ≠ v'.ownBlock := by
  cases hv : v.ownBlock with
  | none => exact .inl rfl
  | some a =>
    refine .inr fun he => ?_
    have h1 := (h.lt a hv).2
    have h2 := (k.lt a he.symm).1
    omega

theorem rd_of_own {w : World} {B : Nat} {v : Value} {zs : List Int} {n : Nat} (h : w.ownsRow B 2 1 v n (zs.map (Value.int .i64))) (hn : n = zs.length) : RdI w v n (fun i => zs[i]?.getD 0) := by
  subst hn
  rcases h.2 with ⟨rfl, h0⟩ | ⟨g, cap, cur, rfl, hb, hg, h1, h2, h3, h4⟩
  · exact ⟨none, 0, by rw [h0], by rw [h0]; exact Nat.zero_le _, .inl h0⟩
  · refine ⟨_, cap, rfl, Nat.le_trans h1 h2, ?_⟩
    by_cases h0 : zs.length = 0
    · exact .inl h0
    · refine .inr ⟨g, 0, rfl, fun i hi => ?_⟩
      rw [Nat.zero_add, h.cellAt i (by omega), List.getElem?_map]
      simp [hi]

/-- What DigitsOf returns: the places, and the code. -/
def dgOf (a : Int) : List Int := if 0 ≤ a ∧ a ≤ 1000000000000 then dg a.toNat 64 else []
def cdOf (a : Int) : Int := if 0 ≤ a ∧ a ≤ 1000000000000 then 0 else 2
theorem dgOf_len (a : Int) : (dgOf a).length ≤ 64 := by
  unfold dgOf
  split
  · rw [dg_length]; exact pcl_le _ _
  · exact Nat.zero_le _

theorem specDigitsOf_all (a : Int) (w : World) :
    Calls Try.prog 25 #[.int .i64 a] w fun e w' => ∃ v, e = .returned (.tuple #[v, .int .i64 (cdOf a)]) ∧ w'.ownsRow w.heap.size 2 1 v (dgOf a).length ((dgOf a).map (Value.int .i64)) ∧ Below w.heap.size w w' := by
  by_cases h : 0 ≤ a ∧ a ≤ 1000000000000
  · obtain ⟨n, rfl⟩ := Int.eq_ofNat_of_zero_le h.1
    have E1 := Lib.hid (show dgOf (n : Int) = dg n 64 by unfold dgOf; rw [if_pos h]; rfl)
    have E2 := Lib.hid (show cdOf (n : Int) = 0 by unfold cdOf; rw [if_pos h])
    rw [E1.out, E2.out]
    have h1 : (n : Int) ≤ 1000000000000 := h.2
    go_enter Try.func25, Try.ntmps25
    go_wp2_with (first | (go_at_call 64; refine (l01In_yes _ _ _ _ (by omega) (by omega)).mono ?_; rintro e w' ⟨rfl, rfl⟩) | (go_at_call 69; refine (l01Digits_any n _ (by omega)).mono ?_; rintro e w1 ⟨v, rfl, hown, hb⟩))
    go_ret2
    exact ⟨_, rfl, by assumption, by assumption⟩
  · have E1 := Lib.hid (show dgOf a = [] by unfold dgOf; rw [if_neg h])
    have E2 := Lib.hid (show cdOf a = 2 by unfold cdOf; rw [if_neg h])
    rw [E1.out, E2.out]
    go_enter Try.func25, Try.ntmps25
    go_wp2_with (go_at_call 64; refine (l01In_no _ _ _ _ (by omega)).mono ?_; rintro e w' ⟨rfl, rfl⟩)
    go_ret2
    exact ⟨_, rfl, World.ownsRow_nil _ _ _ _, Below.refl _ _⟩

theorem implDigitsOf_all (a : Int) (w : World) :
    Calls Try.prog 24 #[.int .i64 a] w fun e w' => ∃ v, e = .returned (.tuple #[v, .int .i64 (cdOf a)]) ∧ w'.ownsRow w.heap.size 2 1 v (dgOf a).length ((dgOf a).map (Value.int .i64)) ∧ Below w.heap.size w w' := by
  by_cases h : 0 ≤ a ∧ a ≤ 1000000000000
  · obtain ⟨n, rfl⟩ := Int.eq_ofNat_of_zero_le h.1
    have E1 := Lib.hid (show dgOf (n : Int) = dg n 64 by unfold dgOf; rw [if_pos h]; rfl)
    have E2 := Lib.hid (show cdOf (n : Int) = 0 by unfold cdOf; rw [if_pos h])
    rw [E1.out, E2.out]
    exact implDigitsOf_any n w (by omega)
  · have E1 := Lib.hid (show dgOf a = [] by unfold dgOf; rw [if_neg h])
    have E2 := Lib.hid (show cdOf a = 2 by unfold cdOf; rw [if_neg h])
    rw [E1.out, E2.out]
    go_enter Try.func24, Try.ntmps24
    go_wp2_with (go_at_call 63; refine (isNumber_no _ _ (by omega)).mono ?_; rintro e w' ⟨rfl, rfl⟩)
    go_ret2
    exact ⟨_, rfl, World.ownsRow_nil _ _ _ _, Below.refl _ _⟩

theorem walk_FnExactDigitsOf (a0 : Int) (w : World) (w0 : (Lit.int .i64 a0).wf = true) :
    Calls Try.prog 8 #[.int .i64 a0] w fun e w' => e = .returned (.bool true) ∧ Below w.heap.size w w' := by
  clear w0
  have hlen := dgOf_len a0
  generalize hzs : dgOf a0 = zs at hlen
  generalize hcd : cdOf a0 = cd
  have HZ := Lib.hid hzs
  have HC := Lib.hid hcd
  clear hzs hcd
  go_enter Try.func8, Try.ntmps8
  go_wp2_with fail
  refine (specDigitsOf_all a0 _).mono ?_
  rintro e w1 ⟨vw, rfl, ow1, b1⟩
  rw [HZ.out] at ow1
  rw [HC.out]
  go_wp2_with fail
  refine (implDigitsOf_all a0 _).mono ?_
  rintro e w2 ⟨vg, rfl, og2, b2⟩
  rw [HZ.out] at og2
  rw [HC.out]
  have ow2 := own_below ow1 b2
  have b02 := b1.trans (b2.mono b1.size)
  go_wp2_with fail
  refine (eqInt64S_same vg vw zs.length _ _ (rd_of_own og2 rfl) (rd_of_own ow2 rfl)).mono ?_
  rintro e w3 ⟨rfl, q, rfl⟩
  go_wp2_with fail
  refine (markInt64S_own vg zs.length _ 1 _ _ (by omega) (by omega) (by omega) (own_drewN og2 q)).mono ?_
  rintro e w4 ⟨rfl, og4, g4, s4⟩
  have ow4 := (own_drewN ow2 q).kept g4 (own_apart ow1 og2)
  have b04 : Below w.heap.size w w4 := (below_drewN b02 q).grown g4 (by have := b02.size; simpa using this) (fun k hk => Nat.le_trans b1.size (og2.lt k hk).1)
  go_wp2_with fail
  refine (heldInt64S_own vg zs.length 1 _ _ (by omega) (by omega) (by omega) og4).mono ?_
  rintro e w5 ⟨rfl, rfl⟩
  go_wp2_with fail
  refine (implDigitsOf_all a0 _).mono ?_
  rintro e w6 ⟨vh, rfl, oh6, b6⟩
  rw [HZ.out] at oh6
  rw [HC.out]
  have ow6 := own_below ow4 b6
  have og6 := own_below og4 b6
  have b06 := b04.trans (b6.mono b04.size)
  go_wp2_with fail
  refine (eqInt64S_same vh vw zs.length _ _ (rd_of_own oh6 rfl) (rd_of_own ow6 rfl)).mono ?_
  rintro e w7 ⟨rfl, q', rfl⟩
  go_wp2_with fail
  refine (heldInt64S_own vg zs.length 1 _ _ (by omega) (by omega) (by omega) (own_drewN og6 q')).mono ?_
  rintro e w8 ⟨rfl, rfl⟩
  go_wp2_with fail
  go_ret
  exact ⟨rfl, below_drewN b06 q'⟩
end Go.Proofs.Ytfhfnjcfkpcmnaa
