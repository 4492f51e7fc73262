/-
  Joined: SFront.
-/
import Derived.Test.YtnfhfilconcajaaZxactAddPolys23
section
namespace Go.Proofs.Ytnfhfilconcajaa
open Go.RowKit
set_option linter.unusedVariables false
set_option maxRecDepth 100000

/-- v reads as the list xs; where it has no address it is nil. -/
def RdN (w : World) (v : Value) (xs : List Int) : Prop := ∃ a cap, v = .slice a xs.length cap ∧ xs.length ≤ cap ∧ xs.length ≤ maxLen ∧ ((a = none ∧ cap = 0) ∨ ∃ b off, a = some ⟨b, off, none⟩ ∧ ∀ i, i < xs.length → w.cell? ⟨b, off + i, none⟩ = some (.int .i64 (xs[i]?.getD 0)))
theorem RdN.rd {w : World} {v : Value} {xs : List Int} (h : RdN w v xs) : RdL w v xs := by
  obtain ⟨a, cap, e, hc, hm, h⟩ := h
  refine ⟨a, cap, e, hm, ?_⟩
  rcases h with ⟨h1, h2⟩ | ⟨b, off, h1, h2⟩
  · exact .inl (by omega)
  · exact .inr ⟨b, off, h1, h2⟩
theorem RdN.below {w w' : World} {v : Value} {xs : List Int} (h : RdN w v xs) (k : Below w.heap.size w w') : RdN w' v xs := by
  obtain ⟨a, cap, e, hc, hm, h⟩ := h
  refine ⟨a, cap, e, hc, hm, ?_⟩
  rcases h with h1 | ⟨b, off, h1, h2⟩
  · exact .inl h1
  · exact .inr ⟨b, off, h1, fun i hi => (k.cell (p := ⟨b, off + i, none⟩) (World.block_lt_of_cell? w _ (h2 i hi))).trans (h2 i hi)⟩
theorem RdN.of_own {w : World} {B : Nat} {v : Value} {xs : List Int} (h : w.ownsRow B 2 1 v xs.length (xs.map (Value.int .i64))) : RdN w v xs := by
  rcases h.2 with ⟨rfl, h0⟩ | ⟨g, cap, cur, rfl, _, _, h1, h2, _⟩
  · exact ⟨none, 0, by rw [h0], by omega, by rw [h0]; exact Nat.zero_le _, .inl ⟨rfl, rfl⟩⟩
  · refine ⟨_, cap, rfl, h1, Nat.le_trans h1 h2, .inr ⟨g, 0, rfl, fun i hi => ?_⟩⟩
    rw [Nat.zero_add, h.cellAt i (by omega)]
    simp [hi]

theorem ints_src {w wx : World} {b off : Nat} {xs : List Int} (h : ∀ i, i < xs.length → w.cell? ⟨b, off + i, none⟩ = some (.int .i64 (xs[i]?.getD 0))) (k : Below w.heap.size w wx) : ∀ j u, (xs.map (Value.int .i64))[j]? = some u → wx.cell? ((⟨b, off, none⟩ : Addr).add j) = some u := by
  intro j u hu
  rw [Addr.add_mid]
  rw [List.getElem?_map] at hu
  cases hx : xs[j]? with
  | none => rw [hx] at hu; cases hu
  | some x =>
    rw [hx] at hu
    have hj : j < xs.length := (List.getElem?_eq_some_iff.1 hx).1
    have h1 := h j hj
    simp only [hx, Option.getD_some] at h1
    rw [← Option.some.inj hu]
    exact (k.cell (p := ⟨b, off + j, none⟩) (World.block_lt_of_cell? w _ h1)).trans h1

/-- append of rows of numbers, whatever the source -/
theorem wpList_ints {ops : Array Oper} {rest : List Oper} {o : Oper} {a : Act} {Q : Exit → Act → World → Prop} (w : World) (hgd : o.guard = none) (s x : Operand) (ho : o.op = .call { callee := .builtin .append, args := #[s, x], argTypes := #[53, 53] })
    (B n : Nat) (v : Value) (xs : List Value) (hs : a.eval s = v) (hown : w.ownsRow B 2 1 v n xs) (ap : Option Addr) (m c : Nat) (news : List Value) (hx : a.eval x = .slice ap m c)
    (hsrc : (ap = none ∧ m = 0 ∧ c = 0) ∨ ∃ ad, ap = some ad ∧ ∀ j u, news[j]? = some u → w.cell? (ad.add j) = some u) (hl : news.length = m) (h1 : ∀ u ∈ news, u.oneCell' = true) (hn : n + m ≤ 400000000000) (hB : B ≤ w.heap.size)
    (h : ∀ v' w', w'.ownsRow B 2 1 v' (n + m) (xs ++ news) → w.grownBy w' v.ownBlock → wpList Try.prog ops Q rest (a.put o.dst v') w') : wpList Try.prog ops Q (o :: rest) a w := by
  obtain ⟨i0, hi, hz0, hz1, hz2⟩ := info_parts Try.info2
  rcases hsrc with ⟨rfl, rfl, rfl⟩ | ⟨ad, rfl, hc⟩
  · have hnews : news = [] := List.eq_nil_of_length_eq_zero hl
    subst hnews
    exact wpList_append_own_none hgd s x 53 ho B 2 i0 1 Try.underlying53 hi v n xs hs hown hx (h v w (by simpa using hown) (World.grownBy.refl w _))
  · exact wpList_append_own w hgd s x 53 ho B 2 i0 (.int .i64 0) 1 8 Try.underlying53 hi hz0 hz1 hz2 rfl (by decide) v n xs hs hown ad m c news hx (by omega) hc h1 (by unfold maxLen; omega) (by omega) hB
      (fun v' w' h2 h3 _ => h v' w' h2 h3)

theorem RdN.src {w wx : World} {a : Option Addr} {cap : Nat} {xs : List Int} (h : RdN w (.slice a xs.length cap) xs) (k : Below w.heap.size w wx) :
    (a = none ∧ xs.length = 0 ∧ cap = 0) ∨ ∃ ad, a = some ad ∧ ∀ j u, (xs.map (Value.int .i64))[j]? = some u → wx.cell? (ad.add j) = some u := by
  obtain ⟨a', cap', e, hc, hm, h⟩ := h
  cases e
  rcases h with ⟨h1, h2⟩ | ⟨b, off, h1, h2⟩
  · exact .inl ⟨h1, by omega, h2⟩
  · exact .inr ⟨_, h1, ints_src h2 k⟩

theorem own_rdn (v : Value) (xs : List Int) (w : World) (h : RdN w v xs) (hl : xs.length ≤ 1000000) :
    Calls Try.prog 84 #[v] w fun e w' => ∃ u, e = .returned u ∧ w'.ownsRow w.heap.size 2 1 u xs.length (xs.map (Value.int .i64)) ∧ Below w.heap.size w w' := by
  obtain ⟨a, cap, rfl⟩ : ∃ a cap, v = .slice a xs.length cap := by obtain ⟨a, cap, e, _⟩ := h; exact ⟨a, cap, e⟩
  have B0 := Lib.hid ((Below.refl _ w).alloc (Nat.le_refl _) (.cells #[] 2))
  have SR := Lib.hid (h.src B0.out)
  have O0 : Hid ((w.alloc (.cells #[] 2)).ownsRow w.heap.size 2 1 (.slice (some ⟨w.heap.size, 0, none⟩) 0 0) 0 []) := Lib.hid (World.ownsRow_made w #[] 0 (Nat.le_refl _) (Nat.zero_le _) (by simp))
  clear h
  go_enter Try.func84, Try.ntmps84
  go_wp2_with (at_builtin; refine wpList_ints _ rfl _ _ rfl w.heap.size 0 (.slice (some ⟨w.heap.size, 0, none⟩) 0 0) [] rfl O0.out a xs.length cap (xs.map (Value.int .i64)) rfl SR.out (by simp) (ints_one xs) (by omega) B0.out.size ?_; intro v' w' ho hg; have HO := Lib.hid ho; have HB := Lib.hid (B0.out.grown hg B0.out.size (fun q hq => by cases hq; exact Nat.le_refl _)); clear ho hg)
  go_ret
  exact ⟨_, rfl, by simpa using HO.out, HB.out⟩

/-- A word with a square in front. -/
def front (i : Int) (xs : List Int) : List Int := if i = 0 then xs else i :: xs
end Go.Proofs.Ytnfhfilconcajaa
end
