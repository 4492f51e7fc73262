/-
  Joined: SFront, YSpecT.
-/
import Derived.Test.YtnfhfilconcajaaZxactSquareOn19
import Derived.Test.YtnfhfilconcajaaZxactSquareOn18
import Derived.Test.YtnfhfilconcajaaZxactSquareOn21
import Derived.Test.YtnfhfilconcajaaZxactSquareOn12
import Derived.Deep.RegionLaw
section
namespace Go.Proofs.Ytnfhfilconcajaa
open Go.RowKit
set_option linter.unusedVariables false
set_option maxRecDepth 100000

/-- v reads as the list xs; where it has no address it is nil. -/
def RdN (w : World) (v : Value) (xs : List Int) : Prop := ∃ a cap, v = .slice a xs.length cap ∧ xs.length ≤ cap ∧ xs.length ≤ maxLen ∧ ((a = none ∧ cap = 0) ∨ ∃ b off, a = some ⟨b, off, none⟩ ∧ ∀ i, i < xs.length → w.cell? ⟨b, off + i, none⟩ = some (.int .i64 (xs[i]?.getD 0)))
theorem RdN.rd {w : World} {v : Value} {xs : List Int} (h : RdN w v xs) : RdL w v xs := by
  obtain ⟨a, cap, e, hc, hm, h⟩ := h
  refine ⟨a, cap, e, hm, ?_⟩
  rcases h with ⟨h1, h2⟩ | ⟨b, off, h1, h2⟩
  · exact .inl (by omega)
  · exact .inr ⟨b, off, h1, h2⟩
theorem RdN.below {w w' : World} {v : Value} {xs : List Int} (h : RdN w v xs) (k : Below w.heap.size w w') : RdN w' v xs := by
  obtain ⟨a, cap, e, hc, hm, h⟩ := h
  refine ⟨a, cap, e, hc, hm, ?_⟩
  rcases h with h1 | ⟨b, off, h1, h2⟩
  · exact .inl h1
  · exact .inr ⟨b, off, h1, fun i hi => (k.cell (p := ⟨b, off + i, none⟩) (World.block_lt_of_cell? w _ (h2 i hi))).trans (h2 i hi)⟩
theorem RdN.of_own {w : World} {B : Nat} {v : Value} {xs : List Int} (h : w.ownsRow B 2 1 v xs.length (xs.map (Value.int .i64))) : RdN w v xs := by
  rcases h.2 with ⟨rfl, h0⟩ | ⟨g, cap, cur, rfl, _, _, h1, h2, _⟩
  · exact ⟨none, 0, by rw [h0], by omega, by rw [h0]; exact Nat.zero_le _, .inl ⟨rfl, rfl⟩⟩
  · refine ⟨_, cap, rfl, h1, Nat.le_trans h1 h2, .inr ⟨g, 0, rfl, fun i hi => ?_⟩⟩
    rw [Nat.zero_add, h.cellAt i (by omega)]
    simp [hi]

theorem ints_src {w wx : World} {b off : Nat} {xs : List Int} (h : ∀ i, i < xs.length → w.cell? ⟨b, off + i, none⟩ = some (.int .i64 (xs[i]?.getD 0))) (k : Below w.heap.size w wx) : ∀ j u, (xs.map (Value.int .i64))[j]? = some u → wx.cell? ((⟨b, off, none⟩ : Addr).add j) = some u := by
  intro j u hu
  rw [Addr.add_mid]
  rw [List.getElem?_map] at hu
  cases hx : xs[j]? with
  | none => rw [hx] at hu; cases hu
  | some x =>
    rw [hx] at hu
    have hj : j < xs.length := (List.getElem?_eq_some_iff.1 hx).1
    have h1 := h j hj
    simp only [hx, Option.getD_some] at h1
    rw [← Option.some.inj hu]
    exact (k.cell (p := ⟨b, off + j, none⟩) (World.block_lt_of_cell? w _ h1)).trans h1

/-- append of rows of numbers, whatever the source -/
theorem wpList_ints {ops : Array Oper} {rest : List Oper} {o : Oper} {a : Act} {Q : Exit → Act → World → Prop} (w : World) (hgd : o.guard = none) (s x : Operand) (ho : o.op = .call { callee := .builtin .append, args := #[s, x], argTypes := #[53, 53] })
    (B n : Nat) (v : Value) (xs : List Value) (hs : a.eval s = v) (hown : w.ownsRow B 2 1 v n xs) (ap : Option Addr) (m c : Nat) (news : List Value) (hx : a.eval x = .slice ap m c)
    (hsrc : (ap = none ∧ m = 0 ∧ c = 0) ∨ ∃ ad, ap = some ad ∧ ∀ j u, news[j]? = some u → w.cell? (ad.add j) = some u) (hl : news.length = m) (h1 : ∀ u ∈ news, u.oneCell' = true) (hn : n + m ≤ 400000000000) (hB : B ≤ w.heap.size)
    (h : ∀ v' w', w'.ownsRow B 2 1 v' (n + m) (xs ++ news) → w.grownBy w' v.ownBlock → wpList Try.prog ops Q rest (a.put o.dst v') w') : wpList Try.prog ops Q (o :: rest) a w := by
  obtain ⟨i0, hi, hz0, hz1, hz2⟩ := info_parts Try.info2
  rcases hsrc with ⟨rfl, rfl, rfl⟩ | ⟨ad, rfl, hc⟩
  · have hnews : news = [] := List.eq_nil_of_length_eq_zero hl
    subst hnews
    exact wpList_append_own_none hgd s x 53 ho B 2 i0 1 Try.underlying53 hi v n xs hs hown hx (h v w (by simpa using hown) (World.grownBy.refl w _))
  · exact wpList_append_own w hgd s x 53 ho B 2 i0 (.int .i64 0) 1 8 Try.underlying53 hi hz0 hz1 hz2 rfl (by decide) v n xs hs hown ad m c news hx (by omega) hc h1 (by unfold maxLen; omega) (by omega) hB
      (fun v' w' h2 h3 _ => h v' w' h2 h3)

theorem RdN.src {w wx : World} {a : Option Addr} {cap : Nat} {xs : List Int} (h : RdN w (.slice a xs.length cap) xs) (k : Below w.heap.size w wx) :
    (a = none ∧ xs.length = 0 ∧ cap = 0) ∨ ∃ ad, a = some ad ∧ ∀ j u, (xs.map (Value.int .i64))[j]? = some u → wx.cell? (ad.add j) = some u := by
  obtain ⟨a', cap', e, hc, hm, h⟩ := h
  cases e
  rcases h with ⟨h1, h2⟩ | ⟨b, off, h1, h2⟩
  · exact .inl ⟨h1, by omega, h2⟩
  · exact .inr ⟨_, h1, ints_src h2 k⟩

theorem own_rdn (v : Value) (xs : List Int) (w : World) (h : RdN w v xs) (hl : xs.length ≤ 1000000) :
    Calls Try.prog 84 #[v] w fun e w' => ∃ u, e = .returned u ∧ w'.ownsRow w.heap.size 2 1 u xs.length (xs.map (Value.int .i64)) ∧ Below w.heap.size w w' := by
  obtain ⟨a, cap, rfl⟩ : ∃ a cap, v = .slice a xs.length cap := by obtain ⟨a, cap, e, _⟩ := h; exact ⟨a, cap, e⟩
  have B0 := Lib.hid ((Below.refl _ w).alloc (Nat.le_refl _) (.cells #[] 2))
  have SR := Lib.hid (h.src B0.out)
  have O0 : Hid ((w.alloc (.cells #[] 2)).ownsRow w.heap.size 2 1 (.slice (some ⟨w.heap.size, 0, none⟩) 0 0) 0 []) := Lib.hid (World.ownsRow_made w #[] 0 (Nat.le_refl _) (Nat.zero_le _) (by simp))
  clear h
  go_enter Try.func84, Try.ntmps84
  go_wp2_with (at_builtin; refine wpList_ints _ rfl _ _ rfl w.heap.size 0 (.slice (some ⟨w.heap.size, 0, none⟩) 0 0) [] rfl O0.out a xs.length cap (xs.map (Value.int .i64)) rfl SR.out (by simp) (ints_one xs) (by omega) B0.out.size ?_; intro v' w' ho hg; have HO := Lib.hid ho; have HB := Lib.hid (B0.out.grown hg B0.out.size (fun q hq => by cases hq; exact Nat.le_refl _)); clear ho hg)
  go_ret
  exact ⟨_, rfl, by simpa using HO.out, HB.out⟩

/-- A word with a square in front. -/
def front (i : Int) (xs : List Int) : List Int := if i = 0 then xs else i :: xs
end Go.Proofs.Ytnfhfilconcajaa
end
section
namespace Go.Proofs.Ytnfhfilconcajaa
open Go.RowKit
set_option linter.unusedVariables false
set_option maxRecDepth 100000

/-- What a call answers that makes a family: the lists L. -/
def LPostY (L : List (List Int)) (w : World) (e : Ending) (w' : World) : Prop := ∃ V VS, e = .returned V ∧ FamL w' w.heap.size V VS L ∧ Sep L.length VS ∧ Below w.heap.size w w'
/-- What a call answers that makes a row. -/
def RowResY (xs : List Int) (w : World) (e : Ending) (w' : World) : Prop := ∃ u, e = .returned u ∧ w'.ownsRow w.heap.size 2 1 u xs.length (xs.map (Value.int .i64)) ∧ Below w.heap.size w w'

theorem step_intsY {ops : Array Oper} {o : Oper} {a : Act} {w : World} {K : Act → World → Prop} {Q : Exit → Act → World → Prop} {E : Prop} (hgd : o.guard = none) (s x : Operand) (ho : o.op = .call { callee := .builtin .append, args := #[s, x], argTypes := #[53, 53] })
    (B n : Nat) (v : Value) (xs : List Value) (hs : a.eval s = v) (hown : w.ownsRow B 2 1 v n xs) (ad : Addr) (c : Nat) (x0 : Value) (hx : a.eval x = .slice (some ad) 1 c)
    (hc : ∀ j u, [x0][j]? = some u → w.cell? (ad.add j) = some u) (h1 : x0.oneCell' = true) (hn : n ≤ 400000000000) (hB : B ≤ w.heap.size)
    (h : ∀ v' w', w'.ownsRow B 2 1 v' (n + 1) (xs ++ [x0]) → w.grownBy w' v.ownBlock → K (a.put o.dst v') w') :
    if Region.wanted o (yielded ops a.tmps) = true then Oper.wp Try.prog o a w K Q else E := by
  have hw : Region.wanted o (yielded ops a.tmps) = true := by simp [Region.wanted, hgd]
  rw [if_pos hw]
  obtain ⟨i0, hi, hz0, hz1, hz2⟩ := info_parts Try.info2
  exact wp_append_own w s x 53 ho B 2 i0 (.int .i64 0) 1 8 Try.underlying53 hi hz0 hz1 hz2 rfl (by decide) v n xs hs hown ad 1 c [x0] hx (by simp) hc (fun u hu => by rw [List.mem_singleton.1 hu]; exact h1) (by unfold maxLen; omega) (by omega) hB
      (fun v' w' h2 h3 _ => h v' w' h2 h3)

/-- The first k of the sums. -/
def plusTo (r s : List Int) (k : Nat) : List Int := (List.range k).map fun i => r[i]?.getD 0 + s[i]?.getD 0
theorem plusTo_len (r s : List Int) (k : Nat) : (plusTo r s k).length = k := by simp [plusTo]
theorem plusTo_succ (r s : List Int) (k : Nat) : plusTo r s (k + 1) = plusTo r s k ++ [r[k]?.getD 0 + s[k]?.getD 0] := by simp [plusTo, List.range_succ]
def plusL (r s : List Int) : List Int := plusTo r s r.length

/-- Small numbers. -/
def SmL (l : List Int) : Prop := l.length ≤ 4 ∧ ∀ j : Nat, 0 ≤ l[j]?.getD 0 ∧ l[j]?.getD 0 ≤ 1000000

set_option maxHeartbeats 2000000 in
theorem l08Plus_any (v u : Value) (r s : List Int) (w : World) (hv : RdL w v r) (hu : RdL w u s) (hl : r.length = s.length) (hr : SmL r) (hs : SmL s) :
    Calls Try.prog 90 #[v, u] w (RowResY (plusL r s) w) := by
  obtain ⟨a, cap, rfl, hm, hc⟩ := hv
  obtain ⟨a2, cap2, rfl, hm2, hc2⟩ := hu
  have HC := Lib.hid hc
  have HC2 := Lib.hid hc2
  have HR := Lib.hid hr
  have HS := Lib.hid hs
  have HL := Lib.hid hl
  have O0 : Hid ((w.alloc (.cells #[] 2)).ownsRow w.heap.size 2 1 (.slice (some ⟨w.heap.size, 0, none⟩) 0 0) 0 ((plusTo r s 0).map (Value.int .i64))) := Lib.hid (World.ownsRow_made w #[] 0 (Nat.le_refl _) (Nat.zero_le _) (by simp))
  have B0 : Hid (Below w.heap.size w (w.alloc (.cells #[] 2))) := Lib.hid ((Below.refl _ _).alloc (Nat.le_refl _) _)
  clear hc hc2 hr hs hl hm hm2
  go_enter Try.func90, Try.ntmps90
  go_wp2_with fail
  go_loopw [5, 6] (fun S c wr => ∃ k : Nat, k ≤ r.length ∧ c = .int .i64 k ∧ Hid (wr.ownsRow w.heap.size 2 1 S k ((plusTo r s k).map (Value.int .i64))) ∧ Hid (Below w.heap.size w wr)) (fun _ c _ => r.length - (intOf c).toNat)
  case atStart => exact ⟨0, by omega, rfl, O0, B0⟩
  case round =>
    clear O0 B0
    obtain ⟨k, hk, rfl, hO, hB⟩ := hrel
    by_cases hkl : k < r.length
    · have h1' : (k : Int) < (r.length : Int) := by omega
      have h2' : (k : Int) < (s.length : Int) := by have := HL.out; omega
      obtain ⟨b, off, rfl, hc⟩ := HC.out.resolve_left (by omega)
      obtain ⟨b2, off2, rfl, hc2⟩ := HC2.out.resolve_left (by have := HL.out; omega)
      have c1 : wr.cell? ⟨b, off + k, none⟩ = some (.int .i64 (r[k]?.getD 0)) := (hB.out.cell (p := ⟨b, off + k, none⟩) (World.block_lt_of_cell? w _ (hc k hkl))).trans (hc k hkl)
      have c2 : wr.cell? ⟨b2, off2 + k, none⟩ = some (.int .i64 (s[k]?.getD 0)) := (hB.out.cell (p := ⟨b2, off2 + k, none⟩) (World.block_lt_of_cell? w _ (hc2 k (by have := HL.out; omega)))).trans (hc2 k (by have := HL.out; omega))
      have hb1 := HR.out.2 k
      have hb2 := HS.out.2 k
      have hr4 := HR.out.1
      have NX : Hid ((plusTo r s (k + 1)).map (Value.int .i64) = (plusTo r s k).map (Value.int .i64) ++ [.int .i64 (r[k]?.getD 0 + s[k]?.getD 0)]) := Lib.hid (by rw [plusTo_succ, List.map_append]; rfl)
      clear hc hc2
      generalize r[k]?.getD 0 = p at *
      generalize s[k]?.getD 0 = q at *
      have hw2 : wrap64 (p + q) = p + q := wrap_sm (by omega) (by omega)
      have hw3 : IntKind.i64.wrap (p + q) = p + q := by rw [IntKind.wrap_i64]; omega
      have OA : Hid (((wr.drew).alloc (.cells #[.int .i64 (p + q)] 2)).ownsRow w.heap.size 2 1 u5 k ((plusTo r s k).map (Value.int .i64))) := Lib.hid (hO.out.alloc _)
      have SA : Hid (w.heap.size ≤ ((wr.drew).alloc (.cells #[.int .i64 (p + q)] 2)).heap.size) := Lib.hid (by have := hB.out.size; simp; omega)
      have CN : Hid (∀ j x, [Value.int .i64 (p + q)][j]? = some x → ((wr.drew).alloc (.cells #[.int .i64 (p + q)] 2)).cell? ((⟨wr.heap.size, 0, none⟩ : Addr).add j) = some x) := Lib.hid (cell_one_new _ _ _)
      have AP : Hid (∀ v' w', w'.ownsRow w.heap.size 2 1 v' (k + 1) ((plusTo r s k).map (Value.int .i64) ++ [.int .i64 (p + q)]) → ((wr.drew).alloc (.cells #[.int .i64 (p + q)] 2)).grownBy w' u5.ownBlock → w'.ownsRow w.heap.size 2 1 v' (k + 1) ((plusTo r s (k + 1)).map (Value.int .i64)) ∧ Below w.heap.size w w') := Lib.hid fun v' w' h1 h2 => by
        refine ⟨by rw [NX.out]; exact h1, ?_⟩
        exact (hB.out.drew.alloc hB.out.size _).grown h2 (by have := hB.out.size; simp; omega) (fun q hq => (hO.out.lt q hq).1)
      clear NX hO
      go_wp2_with fail
      go_region_law (refine step_intsY (by rfl) _ _ (by rfl) w.heap.size k _ _ (by rfl) OA.out ⟨wr.heap.size, 0, none⟩ 1 (Value.int .i64 (p + q)) (by rfl) CN.out rfl (by omega) SA.out ?_; intro v3 w3 ho3 hg3; have P3 := Lib.hid (AP.out v3 w3 ho3 hg3); clear ho3 hg3)
      all_goals
        go_wp2_with fail
        go_roundw
        case rel => exact ⟨k + 1, by omega, by go_num, Lib.hid P3.out.1, Lib.hid P3.out.2⟩
        case measure => simp [intOf]; omega
    · obtain rfl : k = r.length := by omega
      have O9 : Hid (wr.ownsRow w.heap.size 2 1 u5 (plusL r s).length ((plusL r s).map (Value.int .i64))) := Lib.hid (by unfold plusL; rw [plusTo_len]; exact hO.out)
      clear hO
      go_wp2_with fail
      go_ret
      exact ⟨_, rfl, O9.out, hB.out⟩
end Go.Proofs.Ytnfhfilconcajaa
end
