/-
  Joined: WImplDigits, WDigitsOf, WCount, WDegree, WDegreeLaw, WSpecPart, WPushed.
-/
import Derived.Test.YtggebkcmokpcmaaZBHit29
import Derived.Test.YtggebkcmokpcmaaZBHit13
import Derived.Test.YtggebkcmokpcmaaZBHit01
import Derived.Test.YtggebkcmokpcmaaZBHit25
import Derived.Test.YtggebkcmokpcmaaRows
import Derived.BigRegion
section
namespace Go.Proofs.Ytggebkcmokpcmaa
open Go.RowKit
set_option maxRecDepth 100000
set_option linter.unusedVariables false

theorem pow_div (n i : Nat) : ((n : Int) / 2 ^ i) = ((n / 2 ^ i : Nat) : Int) := by
  rw [Int.natCast_ediv]; simp
theorem and_one (m : Nat) (h : m < 2 ^ 63) : bits .and .i64 (m : Int) 1 = ((m % 2 : Nat) : Int) := by
  rw [show (1 : Int) = ((1 : Nat) : Int) from rfl, i64_and m 1 h (by decide), Nat.and_one_is_mod]
set_option maxRecDepth 100000 in
theorem implDigitsOf_any (n : Nat) (w : World) (hx : n ≤ 1000000000000) :
    Calls Try.prog 66 #[.int .i64 n] w fun e w' => ∃ v, e = .returned (.tuple #[v, .int .i64 0]) ∧ w'.ownsRow w.heap.size 2 1 v (dg n 64).length ((dg n 64).map (Value.int .i64)) ∧ Below w.heap.size w w' := by
  obtain ⟨i0, hi, hz0, hz1, hz2⟩ := info_parts Try.info2
  have h0 : (0 : Int) ≤ (n : Int) := by omega
  have h1 : (n : Int) ≤ 1000000000000 := by omega
  go_enter Try.func66, Try.ntmps66
  go_wp2_with (go_at_call 89; refine (isNumber_yes _ _ h0 h1).mono ?_; rintro e w' ⟨rfl, rfl⟩)
  go_loopw [4, 5] (fun v c wr => ∃ i m : Nat, ∃ l : List Int, i ≤ 63 ∧ Hid (m = n / 2 ^ i) ∧ m ≤ n ∧ Hid (l = dg n i) ∧ l.length ≤ i ∧ c = .int .i64 i ∧ wr.ownsRow w.heap.size 2 1 v l.length (l.map (Value.int .i64)) ∧ Below w.heap.size w wr)
    (fun _ c _ => 64 - (intOf c).toNat)
  case atStart => exact ⟨0, n, [], by omega, Lib.hid (by simp), Nat.le_refl _, Lib.hid rfl, Nat.le_refl _, rfl, World.ownsRow_nil _ _ _ _, Below.refl _ _⟩
  case round =>
    obtain ⟨i, m, l, hi63, hm, hmn, hl, hll, rfl, hown, hbel⟩ := hrel
    have hsz := hbel.size
    have he : ((n : Int) / 2 ^ i) = (m : Int) := by rw [hm.out]; exact (pow_div n i)
    by_cases hpos : 0 < m
    · have hnext := dg_next n i m hm.out l hl.out
      have hlt := i_lt n i m hm.out (by omega) hpos
      have hmod : m % 2 = 1 ∨ m % 2 = 0 := by omega
      have hb0 : ((m : Int) != 0) = true := by rw [bne_iff_ne]; omega
      have hb2 := and_one m (by omega)
      have H2 := Lib.hid hnext.2.2
      rcases hmod with h1 | h1
      · have H1 := Lib.hid (hnext.1 h1)
        have hb1 : (bits .and .i64 (m : Int) 1 == 1) = true := by rw [hb2, beq_iff_eq]; omega
        clear hnext h1 hb2
        go_wp2_with (at_builtin; refine wpList_append_own _ rfl _ _ 42 rfl w.heap.size 2 i0 (.int .i64 0) 1 8 Try.underlying42 hi hz0 hz1 hz2 rfl (by decide) _ _ _ rfl (hown.alloc _) ⟨wr.heap.size, 0, none⟩ 1 1 [.int .i64 (i : Int)] rfl rfl ?c1 ?c2 ?c3 ?c4 ?c5 ?_)
        case c1 =>
          intro j u hj
          match j, hj with
          | 0, hj => simp at hj; subst hj; simp [Addr.add]
        case c2 => intro u hu; simp at hu; subst hu; rfl
        case c3 => unfold maxLen; omega
        case c4 => omega
        case c5 => simp; omega
        intro v' w1 hown' hgrow _
        have hb' : Below w.heap.size w w1 := (hbel.alloc hsz _).grown hgrow (by simp; omega) (fun k hk => (hown.lt k hk).1)
        clear hgrow hbel hown
        go_wp2
        go_roundw
        case rel => exact ⟨i + 1, m / 2, l ++ [(i : Int)], by omega, H2, by omega, H1, by simp; omega, by go_num, by simpa using hown', hb'⟩
        case measure => simp [intOf]; omega
      · have H1 := Lib.hid (hnext.2.1 h1)
        have hb1 : (bits .and .i64 (m : Int) 1 == 1) = false := by rw [hb2, beq_eq_false_iff_ne]; omega
        clear hnext h1 hb2
        go_wp2
        go_roundw
        case rel => exact ⟨i + 1, m / 2, l, by omega, H2, by omega, H1, by omega, by go_num, hown, hbel⟩
        case measure => simp [intOf]; omega
    · have H := Lib.hid (dg_end n i m hm.out (by omega) (by omega))
      have hb0 : ((m : Int) != 0) = false := by rw [bne_eq_false_iff_eq]; omega
      go_wp2
      go_ret2
      exact ⟨_, rfl, by rw [← H.out, ← hl.out]; exact hown, hbel⟩
end Go.Proofs.Ytggebkcmokpcmaa
end
section
namespace Go.Proofs.Ytggebkcmokpcmaa
set_option maxRecDepth 100000
set_option linter.unusedVariables false
open Go.RowKit

/-- What DigitsOf returns: the places, and the code. -/
def dgOf (a : Int) : List Int := if 0 ≤ a ∧ a ≤ 1000000000000 then dg a.toNat 64 else []
def cdOf (a : Int) : Int := if 0 ≤ a ∧ a ≤ 1000000000000 then 0 else 2
theorem dgOf_len (a : Int) : (dgOf a).length ≤ 64 := by
  unfold dgOf
  split
  · rw [dg_length]; exact pcl_le _ _
  · exact Nat.zero_le _

theorem implDigitsOf_all (a : Int) (w : World) :
    Calls Try.prog 66 #[.int .i64 a] w fun e w' => ∃ v, e = .returned (.tuple #[v, .int .i64 (cdOf a)]) ∧ w'.ownsRow w.heap.size 2 1 v (dgOf a).length ((dgOf a).map (Value.int .i64)) ∧ Below w.heap.size w w' := by
  by_cases h : 0 ≤ a ∧ a ≤ 1000000000000
  · obtain ⟨n, rfl⟩ := Int.eq_ofNat_of_zero_le h.1
    have E1 := Lib.hid (show dgOf (n : Int) = dg n 64 by unfold dgOf; rw [if_pos h]; rfl)
    have E2 := Lib.hid (show cdOf (n : Int) = 0 by unfold cdOf; rw [if_pos h])
    rw [E1.out, E2.out]
    exact implDigitsOf_any n w (by omega)
  · have E1 := Lib.hid (show dgOf a = [] by unfold dgOf; rw [if_neg h])
    have E2 := Lib.hid (show cdOf a = 2 by unfold cdOf; rw [if_neg h])
    rw [E1.out, E2.out]
    go_enter Try.func66, Try.ntmps66
    go_wp2_with (go_at_call 89; refine (isNumber_no _ _ (by omega)).mono ?_; rintro e w' ⟨rfl, rfl⟩)
    go_ret2
    exact ⟨_, rfl, World.ownsRow_nil _ _ _ _, Below.refl _ _⟩

end Go.Proofs.Ytggebkcmokpcmaa
end
section
namespace Go.Proofs.Ytggebkcmokpcmaa
open Go.RowKit
set_option maxRecDepth 100000
set_option linter.unusedVariables false

theorem spike_num (i : Nat) (h : i ≤ 60) : wrap64 (wrap64 (2 ^ i) - 1) = ((2 ^ i - 1 : Nat) : Int) := by
  have hp : 2 ^ i ≤ 2 ^ 60 := Nat.pow_le_pow_right (by decide) h
  have h1 : 1 ≤ 2 ^ i := Nat.one_le_two_pow
  have e : ((2 : Int) ^ i) = ((2 ^ i : Nat) : Int) := by simp
  rw [e]
  generalize 2 ^ i = x at *
  unfold wrap64
  omega

theorem own_cell {w : World} {B g n cap : Nat} {xs : List Int} (h : w.ownsRow B 2 1 (.slice (some ⟨g, 0, none⟩) n cap) n (xs.map (Value.int .i64))) (j : Nat) (hj : j < n) : w.cell? ⟨g, j, none⟩ = some (.int .i64 (xs[j]?.getD 0)) := by
  have hl := h.1
  rw [List.length_map] at hl
  rw [h.cellAt j (by omega), List.getElem?_map, List.getElem?_eq_getElem (by omega)]
  rfl

theorem made_list (d : Nat) : (madeCells (Value.cells (.int .i64 0)) ((d + 1) * 1)).toList = (List.replicate (d + 1) (0 : Int)).map (Value.int .i64) := by
  rw [Nat.mul_one, List.map_replicate]
  exact toList_madeCells_one _ _

theorem sp_small (i : Nat) (h : sp i ≤ 300) : i ≤ 7 := by
  apply Decidable.byContradiction
  intro hc
  obtain ⟨j, rfl⟩ : ∃ j, i = 8 + j := ⟨i - 8, by omega⟩
  have := sp_mono 8 j
  have e : sp 8 = 511 := by decide
  omega

end Go.Proofs.Ytggebkcmokpcmaa
end
section
namespace Go.Proofs.Ytggebkcmokpcmaa
open Go.RowKit
set_option maxRecDepth 100000
set_option linter.unusedVariables false

/-- An exponent list. -/
def okExp (G : Nat → Int) (n : Nat) : Prop := n ≤ 10 ∧ (n = 0 ∨ G (n - 1) ≠ 0) ∧ okNums G n

/-- The degree of the first j exponents. -/
def dgr (G : Nat → Int) : Nat → Int
  | 0 => 0
  | j + 1 => wrap64 (dgr G j + wrap64 (G j * (sp j : Int)))
end Go.Proofs.Ytggebkcmokpcmaa
end
section
namespace Go.Proofs.Ytggebkcmokpcmaa
open Go.RowKit
set_option maxRecDepth 100000
set_option linter.unusedVariables false

theorem spike_sp_num (j : Nat) (h : j ≤ 59) : wrap64 (wrap64 (2 ^ (j + 1)) - 1) = ((sp j : Nat) : Int) := by
  rw [spike_num (j + 1) (by omega)]
  have := sp_pow j
  congr 1
  omega

def dgV (x : Int) : Int := if 1000000000000 < x then 0 else x
def dgC (x : Int) : Int := if 1000000000000 < x then 3 else 0

end Go.Proofs.Ytggebkcmokpcmaa
end
section
namespace Go.Proofs.Ytggebkcmokpcmaa
open Go.RowKit
set_option maxRecDepth 100000
set_option linter.unusedVariables false

theorem own_shape {w : World} {B n : Nat} {v : Value} {xs : List Value} {e : TypeId} {s : Nat} (h : w.ownsRow B e s v n xs) (hn : v ≠ .slice none 0 0) : ∃ g cap, v = .slice (some ⟨g, 0, none⟩) n cap := by
  rcases h.2 with ⟨h1, _⟩ | ⟨g, cap, cur, h1, _⟩
  · exact absurd h1 hn
  · exact ⟨g, cap, h1⟩

/-- What the contract leaves: the lists are longer by so many; below B, and of the rows of numbers, nothing has turned. -/
def PartPost (B : Nat) (w : World) (xss : List (List Int)) (q : Option Nat) (e : Ending) (w' : World) : Prop :=
  ∃ V' VS', e = .returned V' ∧ FamL w' B V' VS' xss ∧ Below B w w' ∧ KeepI q w w'

theorem next_shape {w : World} {B n : Nat} {v : Value} {xs : List Value} {e : TypeId} {s : Nat} (h : w.ownsRow B e s v n xs) (hn : 0 < n) : ∃ g cap, v = .slice (some ⟨g, 0, none⟩) n cap := by
  rcases h.2 with ⟨_, h1⟩ | ⟨g, cap, cur, h1, _⟩
  · omega
  · exact ⟨g, cap, h1⟩

end Go.Proofs.Ytggebkcmokpcmaa
end
section
namespace Go.Proofs.Ytggebkcmokpcmaa
open Go.RowKit
set_option maxRecDepth 100000
set_option linter.unusedVariables false

structure Pushed (B : Nat) (w w' : World) (bv v' : Value) (n : Nat) (zs : List Int) (x : Int) : Prop where
  own : w'.ownsRow B 2 1 v' (n + 1) ((zs ++ [x]).map (Value.int .i64))
  below : Below B w w'
  rows : ∀ (V : Value) (m : Nat) (xs : List Value), w.ownsRow B 42 1 V m xs → w'.ownsRow B 42 1 V m xs
  apart : ∀ (u : Value) (m : Nat) (xs : List Value), w.ownsRow B 2 1 u m xs → (u.ownBlock = none ∨ u.ownBlock ≠ bv.ownBlock) → (u.ownBlock = none ∨ u.ownBlock ≠ v'.ownBlock)
  back : ∀ w2, KeepI v'.ownBlock w' w2 → w2.ownsRow B 2 1 v' (n + 1) ((zs ++ [x]).map (Value.int .i64)) → w2.ownsRow B 2 1 bv n (zs.map (Value.int .i64))
  keep : ∀ w2, KeepI v'.ownBlock w' w2 → KeepI bv.ownBlock w w2
  fresh : ∀ (u : Value), (∀ k, u.ownBlock = some k → w'.heap.size ≤ k) → (u.ownBlock = none ∨ u.ownBlock ≠ bv.ownBlock)

theorem map_snoc (zs : List Int) (x : Int) : (zs ++ [x]).map (Value.int .i64) = zs.map (Value.int .i64) ++ [.int .i64 x] := by rw [List.map_append]; rfl

theorem keep_own_row {a b : World} {B n m : Nat} {v : Value} {xs : List Value} {V : Value} {ys : List Value} (hv : a.ownsRow B 2 1 v n xs) (h : a.grownBy b v.ownBlock) (hV : a.ownsRow B 42 1 V m ys) : b.ownsRow B 42 1 V m ys :=
  hV.kept h (own_types hV hv (by decide))

theorem Pushed.room {B g n cap : Nat} {w w' : World} {zs : List Int} {x : Int} (h : w.ownsRow B 2 1 (.slice (some ⟨g, 0, none⟩) n cap) n (zs.map (Value.int .i64)))
    (hB : B ≤ w.heap.size) (h' : w'.ownsRow B 2 1 (.slice (some ⟨g, 0, none⟩) (n + 1) cap) (n + 1) (zs.map (Value.int .i64) ++ [.int .i64 x])) (hg : w.grownBy w' (some g)) :
    Pushed B w w' (.slice (some ⟨g, 0, none⟩) n cap) (.slice (some ⟨g, 0, none⟩) (n + 1) cap) n zs x := by
  have hK : KeepI (some g) w w' := fun k cur hk hne => hg.block k (Array.getElem?_eq_some_iff.1 hk).1 hne
  have hlt := h.lt g rfl
  refine ⟨by rw [map_snoc]; exact h', (Below.refl _ w).grown hg hB (fun k hk => by cases hk; exact hlt.1), fun V m xs hV => keep_own_row h hg hV, fun u m xs _ hu => hu, fun w2 hk ho => ?_, fun w2 hk => hK.trans hk, fun u hu => ?_⟩
  · rw [map_snoc] at ho
    exact ownsRow_pop (by have := h.1; exact this) ho
  · cases e : u.ownBlock with
    | none => exact .inl rfl
    | some k =>
      refine .inr fun e2 => ?_
      have h1 := hu k e
      have h3 : k = g := Option.some.inj e2
      have h4 := hlt.2
      have h2 := hg.size
      omega

theorem Pushed.grow {B n : Nat} {w w' : World} {bv v' : Value} {zs : List Int} {x : Int} (h : w.ownsRow B 2 1 bv n (zs.map (Value.int .i64)))
    (hB : B ≤ w.heap.size) (h' : w'.ownsRow w.heap.size 2 1 v' (n + 1) (zs.map (Value.int .i64) ++ [.int .i64 x])) (hg : w.grownBy w' none) :
    Pushed B w w' bv v' n zs x := by
  have hbl : Below w.heap.size w w' := (Below.refl _ w).grown hg (Nat.le_refl _) (fun k hk => by cases hk)
  have hnew : ∀ k, v'.ownBlock = some k → w.heap.size ≤ k := fun k hk => (h'.lt k hk).1
  have hap : ∀ (u : Value) (m : Nat) (xs : List Value), w.ownsRow B 2 1 u m xs → (u.ownBlock = none ∨ u.ownBlock ≠ v'.ownBlock) := by
    intro u m xs hu
    cases e : u.ownBlock with
    | none => exact .inl rfl
    | some k =>
      refine .inr fun e2 => ?_
      have h1 := (hu.lt k e).2
      have h2 := hnew k e2.symm
      omega
  refine ⟨by rw [map_snoc]; exact own_base h' hB, hbl.mono hB, fun V m xs hV => own_below hV hbl, fun u m xs hu _ => hap u m xs hu, fun w2 hk ho => ?_, fun w2 hk k cur hc hne => ?_, fun u hu => ?_⟩
  · exact hk.own (own_below h hbl) (hap bv n _ h)
  · have hlt := (Array.getElem?_eq_some_iff.1 hc).1
    have e1 := hbl.block k hlt
    rw [hk k cur (e1.trans hc) (fun e => by have := hnew k e.symm; omega), e1]
  · cases e : u.ownBlock with
    | none => exact .inl rfl
    | some k =>
      refine .inr fun e2 => ?_
      have h1 := hu k e
      have h2 := (h.lt k e2.symm).2
      have h3 := hg.size
      omega

/-- The law for the walk: whichever way it goes. -/
theorem wpList_append_pushed {w : World} {ops : Array Oper} {rest : List Oper} {o : Oper} {a : Act} {Q : Exit → Act → World → Prop}
    (hg : o.guard = none) (s x : Operand) (hop : o.op = Op.call { callee := Callee.builtin Builtin.append, args := #[s, x], argTypes := #[42, 42] })
    (B n : Nat) (bv : Value) (zs : List Int) (r : Int) (hs : a.eval s = bv) (hown : w.ownsRow B 2 1 bv n (zs.map (Value.int .i64)))
    (ad : Addr) (c : Nat) (hx : a.eval x = .slice (some ad) 1 c) (hc : ∀ j u, [Value.int .i64 r][j]? = some u → w.cell? (ad.add j) = some u)
    (hB : B ≤ w.heap.size) (hn : n ≤ 1000000)
    (hK : ∀ v' w', Pushed B w w' bv v' n zs r → wpList Try.prog ops Q rest (a.put o.dst v') w') : wpList Try.prog ops Q (o :: rest) a w := by
  obtain ⟨i0, hi, hz0, hz1, hz2⟩ := info_parts Try.info2
  have h1c : ∀ u ∈ [Value.int .i64 r], u.oneCell' = true := by intro u hu; simp at hu; subst hu; rfl
  have hb2 : (n + 1) * 8 ≤ 140737488355328 := by omega
  have hb1 : n + 1 ≤ maxLen := by unfold maxLen; omega
  rcases hown.2 with ⟨hbv, h0⟩ | ⟨g, cap, cur, hbv, hbg, hgg, hnc, hcm, hcs, htk⟩
  · subst h0
    refine wpList_append_grows w hg s x 42 hop 2 i0 (.int .i64 0) 1 8 Try.underlying42 hi hz0 hz1 hz2 rfl (by decide) none 0 0 (zs.map (Value.int .i64)) (by rw [hs, hbv]) (fun _ => ⟨rfl, rfl⟩) hown.1 (fun b hb => by cases hb) ad 1 c [.int .i64 r] hx rfl hc h1c (by omega) hb1 hb2 ?_
    intro v' w' ho hgr
    exact hK v' w' (Pushed.grow hown hB ho hgr)
  · by_cases hr : n + 1 ≤ cap
    · subst hbv
      refine wpList_append_fits w hg s x 42 hop B 2 i0 1 Try.underlying42 hi hz1 g n cap (zs.map (Value.int .i64)) hs hown ad 1 c [.int .i64 r] hx rfl hc h1c hr ?_
      intro w' ho hgr
      exact hK _ w' (Pushed.room hown hB ho hgr)
    · refine wpList_append_grows w hg s x 42 hop 2 i0 (.int .i64 0) 1 8 Try.underlying42 hi hz0 hz1 hz2 rfl (by decide) (some ⟨g, 0, none⟩) n cap (zs.map (Value.int .i64)) (by rw [hs, hbv]) (fun e => by cases e) hown.1 (fun b hb j u hj => ?_) ad 1 c [.int .i64 r] hx rfl hc h1c (by omega) hb1 hb2 ?_
      · cases hb
        subst hbv
        have e1 : (⟨g, 0, none⟩ : Addr).add j = ⟨g, j, none⟩ := by
          by_cases h6 : j = 0
          · subst h6; simp [Addr.add]
          · simp [Addr.add, h6]
        rw [e1, hown.cellAt j (by have := hown.1; have := (List.getElem?_eq_some_iff.1 hj).1; omega)]
        exact hj
      · intro v' w' ho hgr
        exact hK v' w' (Pushed.grow hown hB ho hgr)
end Go.Proofs.Ytggebkcmokpcmaa
end
