/-
  One number appended to a row that must stay readable at its old length: it is written behind the row, or into a new one.
-/
import Derived.Test.YtnfhfilconcajaaWPartPlain
namespace Go.Proofs.Ytnfhfilconcajaa
open Go.RowKit
set_option maxRecDepth 100000
set_option linter.unusedVariables false

structure Pushed (B : Nat) (w w' : World) (bv v' : Value) (n : Nat) (zs : List Int) (x : Int) : Prop where
  own : w'.ownsRow B 2 1 v' (n + 1) ((zs ++ [x]).map (Value.int .i64))
  below : Below B w w'
  rows : ∀ (V : Value) (m : Nat) (xs : List Value), w.ownsRow B 53 1 V m xs → w'.ownsRow B 53 1 V m xs
  apart : ∀ (u : Value) (m : Nat) (xs : List Value), w.ownsRow B 2 1 u m xs → (u.ownBlock = none ∨ u.ownBlock ≠ bv.ownBlock) → (u.ownBlock = none ∨ u.ownBlock ≠ v'.ownBlock)
  back : ∀ w2, KeepI v'.ownBlock w' w2 → w2.ownsRow B 2 1 v' (n + 1) ((zs ++ [x]).map (Value.int .i64)) → w2.ownsRow B 2 1 bv n (zs.map (Value.int .i64))
  keep : ∀ w2, KeepI v'.ownBlock w' w2 → KeepI bv.ownBlock w w2
  fresh : ∀ (u : Value), (∀ k, u.ownBlock = some k → w'.heap.size ≤ k) → (u.ownBlock = none ∨ u.ownBlock ≠ bv.ownBlock)

theorem map_snoc (zs : List Int) (x : Int) : (zs ++ [x]).map (Value.int .i64) = zs.map (Value.int .i64) ++ [.int .i64 x] := by rw [List.map_append]; rfl

theorem keep_own_row {a b : World} {B n m : Nat} {v : Value} {xs : List Value} {V : Value} {ys : List Value} (hv : a.ownsRow B 2 1 v n xs) (h : a.grownBy b v.ownBlock) (hV : a.ownsRow B 53 1 V m ys) : b.ownsRow B 53 1 V m ys :=
  hV.kept h (own_types hV hv (by decide))

theorem Pushed.room {B g n cap : Nat} {w w' : World} {zs : List Int} {x : Int} (h : w.ownsRow B 2 1 (.slice (some ⟨g, 0, none⟩) n cap) n (zs.map (Value.int .i64)))
    (hB : B ≤ w.heap.size) (h' : w'.ownsRow B 2 1 (.slice (some ⟨g, 0, none⟩) (n + 1) cap) (n + 1) (zs.map (Value.int .i64) ++ [.int .i64 x])) (hg : w.grownBy w' (some g)) :
    Pushed B w w' (.slice (some ⟨g, 0, none⟩) n cap) (.slice (some ⟨g, 0, none⟩) (n + 1) cap) n zs x := by
  have hK : KeepI (some g) w w' := fun k cur hk hne => hg.block k (Array.getElem?_eq_some_iff.1 hk).1 hne
  have hlt := h.lt g rfl
  refine ⟨by rw [map_snoc]; exact h', (Below.refl _ w).grown hg hB (fun k hk => by cases hk; exact hlt.1), fun V m xs hV => keep_own_row h hg hV, fun u m xs _ hu => hu, fun w2 hk ho => ?_, fun w2 hk => hK.trans hk, fun u hu => ?_⟩
  · rw [map_snoc] at ho
    exact ownsRow_pop (by have := h.1; exact this) ho
  · cases e : u.ownBlock with
    | none => exact .inl rfl
    | some k =>
      refine .inr fun e2 => ?_
      have h1 := hu k e
      have h3 : k = g := Option.some.inj e2
      have h4 := hlt.2
      have h2 := hg.size
      omega

theorem Pushed.grow {B n : Nat} {w w' : World} {bv v' : Value} {zs : List Int} {x : Int} (h : w.ownsRow B 2 1 bv n (zs.map (Value.int .i64)))
    (hB : B ≤ w.heap.size) (h' : w'.ownsRow w.heap.size 2 1 v' (n + 1) (zs.map (Value.int .i64) ++ [.int .i64 x])) (hg : w.grownBy w' none) :
    Pushed B w w' bv v' n zs x := by
  have hbl : Below w.heap.size w w' := (Below.refl _ w).grown hg (Nat.le_refl _) (fun k hk => by cases hk)
  have hnew : ∀ k, v'.ownBlock = some k → w.heap.size ≤ k := fun k hk => (h'.lt k hk).1
  have hap : ∀ (u : Value) (m : Nat) (xs : List Value), w.ownsRow B 2 1 u m xs → (u.ownBlock = none ∨ u.ownBlock ≠ v'.ownBlock) := by
    intro u m xs hu
    cases e : u.ownBlock with
    | none => exact .inl rfl
    | some k =>
      refine .inr fun e2 => ?_
      have h1 := (hu.lt k e).2
      have h2 := hnew k e2.symm
      omega
  refine ⟨by rw [map_snoc]; exact own_base h' hB, hbl.mono hB, fun V m xs hV => own_below hV hbl, fun u m xs hu _ => hap u m xs hu, fun w2 hk ho => ?_, fun w2 hk k cur hc hne => ?_, fun u hu => ?_⟩
  · exact hk.own (own_below h hbl) (hap bv n _ h)
  · have hlt := (Array.getElem?_eq_some_iff.1 hc).1
    have e1 := hbl.block k hlt
    rw [hk k cur (e1.trans hc) (fun e => by have := hnew k e.symm; omega), e1]
  · cases e : u.ownBlock with
    | none => exact .inl rfl
    | some k =>
      refine .inr fun e2 => ?_
      have h1 := hu k e
      have h2 := (h.lt k e2.symm).2
      have h3 := hg.size
      omega

/-- The law for the walk: whichever way it goes. -/
theorem wpList_append_pushed {w : World} {ops : Array Oper} {rest : List Oper} {o : Oper} {a : Act} {Q : Exit → Act → World → Prop}
    (hg : o.guard = none) (s x : Operand) (hop : o.op = Op.call { callee := Callee.builtin Builtin.append, args := #[s, x], argTypes := #[53, 53] })
    (B n : Nat) (bv : Value) (zs : List Int) (r : Int) (hs : a.eval s = bv) (hown : w.ownsRow B 2 1 bv n (zs.map (Value.int .i64)))
    (ad : Addr) (c : Nat) (hx : a.eval x = .slice (some ad) 1 c) (hc : ∀ j u, [Value.int .i64 r][j]? = some u → w.cell? (ad.add j) = some u)
    (hB : B ≤ w.heap.size) (hn : n ≤ 1000000)
    (hK : ∀ v' w', Pushed B w w' bv v' n zs r → wpList Try.prog ops Q rest (a.put o.dst v') w') : wpList Try.prog ops Q (o :: rest) a w := by
  obtain ⟨i0, hi, hz0, hz1, hz2⟩ := info_parts Try.info2
  have h1c : ∀ u ∈ [Value.int .i64 r], u.oneCell' = true := by intro u hu; simp at hu; subst hu; rfl
  have hb2 : (n + 1) * 8 ≤ 140737488355328 := by omega
  have hb1 : n + 1 ≤ maxLen := by unfold maxLen; omega
  rcases hown.2 with ⟨hbv, h0⟩ | ⟨g, cap, cur, hbv, hbg, hgg, hnc, hcm, hcs, htk⟩
  · subst h0
    refine wpList_append_grows w hg s x 53 hop 2 i0 (.int .i64 0) 1 8 Try.underlying53 hi hz0 hz1 hz2 rfl (by decide) none 0 0 (zs.map (Value.int .i64)) (by rw [hs, hbv]) (fun _ => ⟨rfl, rfl⟩) hown.1 (fun b hb => by cases hb) ad 1 c [.int .i64 r] hx rfl hc h1c (by omega) hb1 hb2 ?_
    intro v' w' ho hgr
    exact hK v' w' (Pushed.grow hown hB ho hgr)
  · by_cases hr : n + 1 ≤ cap
    · subst hbv
      refine wpList_append_fits w hg s x 53 hop B 2 i0 1 Try.underlying53 hi hz1 g n cap (zs.map (Value.int .i64)) hs hown ad 1 c [.int .i64 r] hx rfl hc h1c hr ?_
      intro w' ho hgr
      exact hK _ w' (Pushed.room hown hB ho hgr)
    · refine wpList_append_grows w hg s x 53 hop 2 i0 (.int .i64 0) 1 8 Try.underlying53 hi hz0 hz1 hz2 rfl (by decide) (some ⟨g, 0, none⟩) n cap (zs.map (Value.int .i64)) (by rw [hs, hbv]) (fun e => by cases e) hown.1 (fun b hb j u hj => ?_) ad 1 c [.int .i64 r] hx rfl hc h1c (by omega) hb1 hb2 ?_
      · cases hb
        subst hbv
        have e1 : (⟨g, 0, none⟩ : Addr).add j = ⟨g, j, none⟩ := by
          by_cases h6 : j = 0
          · subst h6; simp [Addr.add]
          · simp [Addr.add, h6]
        rw [e1, hown.cellAt j (by have := hown.1; have := (List.getElem?_eq_some_iff.1 hj).1; omega)]
        exact hj
      · intro v' w' ho hgr
        exact hK v' w' (Pushed.grow hown hB ho hgr)
end Go.Proofs.Ytnfhfilconcajaa
