/-
  Joined: WPut.
-/
import Derived.Test.YtggebkcmokpcmaaZBHit14
import Derived.Test.YtggebkcmokpcmaaZBHit17
import Derived.Deep.RegionLaw
import Derived.Laws.AppendOwnNone
section
namespace Go.Proofs.Ytggebkcmokpcmaa
open Go.RowKit
set_option linter.unusedVariables false
set_option maxRecDepth 100000

/-! ### append of rows of rows, whatever the source -/
theorem wp_rows {o : Oper} {a : Act} {K : Act → World → Prop} {Q : Exit → Act → World → Prop} (w : World) (s x : Operand) (ho : o.op = .call { callee := .builtin .append, args := #[s, x], argTypes := #[25, 25] })
    (B n : Nat) (v : Value) (xs : List Value) (hs : a.eval s = v) (hown : w.ownsRow B 42 1 v n xs) (ap : Option Addr) (m c : Nat) (news : List Value) (hx : a.eval x = .slice ap m c)
    (hsrc : (ap = none ∧ m = 0 ∧ c = 0) ∨ ∃ ad, ap = some ad ∧ ∀ j u, news[j]? = some u → w.cell? (ad.add j) = some u) (hl : news.length = m) (h1 : ∀ u ∈ news, u.oneCell' = true) (hn : n + m ≤ 400000000000) (hB : B ≤ w.heap.size)
    (h : ∀ v' w', w'.ownsRow B 42 1 v' (n + m) (xs ++ news) → w.grownBy w' v.ownBlock → K (a.put o.dst v') w') : o.wp Try.prog a w K Q := by
  obtain ⟨i1, hj, hy0, hy1, hy2⟩ := info_parts Try.infoS
  rcases hsrc with ⟨rfl, rfl, rfl⟩ | ⟨ad, rfl, hc⟩
  · have hnews : news = [] := List.eq_nil_of_length_eq_zero hl
    subst hnews
    have hrun := run_append_owned_none (P := Try.prog) (w := w) B 25 o.type 42 i1 1 Try.underlying25 hj v n xs hown
    unfold Oper.wp
    simp [execOp, ho, resolve, invoke, builtin, hs, hx, hrun, Result.andThen]
    refine h v w (by simpa using hown) (World.grownBy.refl w _)
  · exact wp_append_own w s x 25 ho B 42 i1 (.slice none 0 0) 1 24 Try.underlying25 hj hy0 hy1 hy2 rfl (by decide) v n xs hs hown ad m c news hx (by omega) hc h1 (by unfold maxLen; omega) (by omega) hB
      (fun v' w' h2 h3 _ => h v' w' h2 h3)
theorem wpList_rows {ops : Array Oper} {rest : List Oper} {o : Oper} {a : Act} {Q : Exit → Act → World → Prop} (w : World) (hgd : o.guard = none) (s x : Operand) (ho : o.op = .call { callee := .builtin .append, args := #[s, x], argTypes := #[25, 25] })
    (B n : Nat) (v : Value) (xs : List Value) (hs : a.eval s = v) (hown : w.ownsRow B 42 1 v n xs) (ap : Option Addr) (m c : Nat) (news : List Value) (hx : a.eval x = .slice ap m c)
    (hsrc : (ap = none ∧ m = 0 ∧ c = 0) ∨ ∃ ad, ap = some ad ∧ ∀ j u, news[j]? = some u → w.cell? (ad.add j) = some u) (hl : news.length = m) (h1 : ∀ u ∈ news, u.oneCell' = true) (hn : n + m ≤ 400000000000) (hB : B ≤ w.heap.size)
    (h : ∀ v' w', w'.ownsRow B 42 1 v' (n + m) (xs ++ news) → w.grownBy w' v.ownBlock → wpList Try.prog ops Q rest (a.put o.dst v') w') : wpList Try.prog ops Q (o :: rest) a w :=
  wpList_plain hgd fun _ hK => wp_rows w s x ho B n v xs hs hown ap m c news hx hsrc hl h1 hn hB fun v' w' h2 h3 => hK _ _ (h v' w' h2 h3)
theorem step_rows {ops : Array Oper} {o : Oper} {a : Act} {w : World} {K : Act → World → Prop} {Q : Exit → Act → World → Prop} {E : Prop} (hgd : o.guard = none) (s x : Operand) (ho : o.op = .call { callee := .builtin .append, args := #[s, x], argTypes := #[25, 25] })
    (B n : Nat) (v : Value) (xs : List Value) (hs : a.eval s = v) (hown : w.ownsRow B 42 1 v n xs) (ap : Option Addr) (m c : Nat) (news : List Value) (hx : a.eval x = .slice ap m c)
    (hsrc : (ap = none ∧ m = 0 ∧ c = 0) ∨ ∃ ad, ap = some ad ∧ ∀ j u, news[j]? = some u → w.cell? (ad.add j) = some u) (hl : news.length = m) (h1 : ∀ u ∈ news, u.oneCell' = true) (hn : n + m ≤ 400000000000) (hB : B ≤ w.heap.size)
    (h : ∀ v' w', w'.ownsRow B 42 1 v' (n + m) (xs ++ news) → w.grownBy w' v.ownBlock → K (a.put o.dst v') w') :
    if Region.wanted o (yielded ops a.tmps) = true then Oper.wp Try.prog o a w K Q else E := by
  have hw : Region.wanted o (yielded ops a.tmps) = true := by simp [Region.wanted, hgd]
  rw [if_pos hw]
  exact wp_rows w s x ho B n v xs hs hown ap m c news hx hsrc hl h1 hn hB h

/-! ### l01Same -/
theorem l01Same_any (va vb : Value) (xs ys : List Int) (w : World) (ha : RdL w va xs) (hb : RdL w vb ys) :
    Calls Try.prog 53 #[va, vb] w fun e w' => e = .returned (.bool (decide (xs = ys))) ∧ ∃ q, w' = w.drewN q := by
  obtain ⟨aa, capa, rfl, hma, ha⟩ := ha
  obtain ⟨ab, capb, rfl, hmb, hb⟩ := hb
  unfold maxLen at hma hmb
  by_cases hl : xs.length = ys.length
  · have hne : ((xs.length : Int) != (ys.length : Int)) = false := by rw [bne_eq_false_iff_eq]; omega
    obtain ⟨r, hr⟩ : ∃ r, decide (xs = ys) = r := ⟨_, rfl⟩
    have HST : Hid (∀ k, k < xs.length → (∀ i, i < k → xs[i]?.getD 0 = ys[i]?.getD 0) → xs[k]?.getD 0 ≠ ys[k]?.getD 0 → r = false) := Lib.hid fun k hk _ h => by
      rw [← hr]
      exact decide_eq_false fun e => h (by rw [e])
    have HEN : Hid ((∀ i, i < xs.length → xs[i]?.getD 0 = ys[i]?.getD 0) → r = true) := Lib.hid fun h => by
      rw [← hr]
      refine decide_eq_true (List.ext_getElem hl fun i h1 h2 => ?_)
      have := h i h1
      rw [List.getElem?_eq_getElem h1, List.getElem?_eq_getElem h2] at this
      simpa using this
    rw [hr]
    have HA : Hid (∀ i, i < xs.length → ∃ b off, aa = some ⟨b, off, none⟩ ∧ w.cell? ⟨b, off + i, none⟩ = some (.int .i64 (xs[i]?.getD 0))) := by
      refine Lib.hid fun i hi => ?_
      obtain ⟨b, off, e, hc⟩ := ha.resolve_left (by omega)
      exact ⟨b, off, e, hc i hi⟩
    have HB : Hid (∀ i, i < xs.length → ∃ b off, ab = some ⟨b, off, none⟩ ∧ w.cell? ⟨b, off + i, none⟩ = some (.int .i64 (ys[i]?.getD 0))) := by
      refine Lib.hid fun i hi => ?_
      obtain ⟨b, off, e, hc⟩ := hb.resolve_left (by omega)
      exact ⟨b, off, e, hc i (by omega)⟩
    have hlI : (ys.length : Int) = (xs.length : Int) := by omega
    clear ha hb hr
    go_enter Try.func53, Try.ntmps53
    go_wp2
    go_loopw [5] (fun c wr => ∃ k q : Nat, k ≤ xs.length ∧ c = .int .i64 k ∧ Hid (∀ i, i < k → xs[i]?.getD 0 = ys[i]?.getD 0) ∧ Hid (wr = w.drewN q)) (fun c _ => xs.length - (intOf c).toNat)
    case atStart => exact ⟨0, 0, Nat.zero_le _, rfl, Lib.hid fun i hi => absurd hi (Nat.not_lt_zero _), Lib.hid rfl⟩
    case round =>
      obtain ⟨k, q, hk, rfl, hP, hw⟩ := hrel
      by_cases h1 : k < xs.length
      · have h1' : (k : Int) < (xs.length : Int) := by omega
        have h2' : (k : Int) < (ys.length : Int) := by omega
        obtain ⟨ba, oa, rfl, ca⟩ := HA.out k h1
        obtain ⟨bb, ob, rfl, cb⟩ := HB.out k h1
        have c1 : wr.cell? ⟨ba, oa + k, none⟩ = some (.int .i64 (xs[k]?.getD 0)) := by rw [hw.out]; exact ca
        have c2 : wr.cell? ⟨bb, ob + k, none⟩ = some (.int .i64 (ys[k]?.getD 0)) := by rw [hw.out]; exact cb
        clear ca cb
        by_cases he : xs[k]?.getD 0 = ys[k]?.getD 0
        · have hP2 : Hid (∀ i, i < k + 1 → xs[i]?.getD 0 = ys[i]?.getD 0) := Lib.hid fun i hi => by
            by_cases e : i = k
            · subst e; exact he
            · exact hP.out i (by omega)
          rw [he] at c1
          generalize ys[k]?.getD 0 = y at c1 c2
          clear he
          go_wp2_with fail
          go_quiet (fail)
          go_wp2_with fail
          go_roundw
          case rel => exact ⟨k + 1, q + nq, by omega, by go_num, hP2, Lib.hid (by rw [hw.out]; exact World.drewN_drewN ..)⟩
          case measure => simp [intOf]; omega
        · have hfin := Lib.hid (HST.out k h1 hP.out he)
          have hne2 : (xs[k]?.getD 0 != ys[k]?.getD 0) = true := by rw [bne_iff_ne]; exact he
          clear he
          generalize xs[k]?.getD 0 = x at c1 hne2
          generalize ys[k]?.getD 0 = y at c2 hne2
          go_wp2_with fail
          go_quiet (fail)
          go_wp2_with fail
          go_ret
          exact ⟨by rw [hfin.out]; rfl, _, by rw [hw.out, World.drewN_drewN]⟩
      · have hk2 : k = xs.length := by omega
        have hfin : Hid (r = true) := Lib.hid (HEN.out (fun i hi => hP.out i (by omega)))
        have h1' : ¬ (k : Int) < (xs.length : Int) := by omega
        clear hk2
        go_wp2_with fail
        go_ret
        exact ⟨by rw [hfin.out]; rfl, q, hw.out⟩
  · have hne : ((xs.length : Int) != (ys.length : Int)) = true := by rw [bne_iff_ne]; omega
    have e : decide (xs = ys) = false := decide_eq_false fun e => hl (by rw [e])
    have E := Lib.hid e
    rw [E.out]
    clear ha hb hl e E
    go_enter Try.func53, Try.ntmps53
    go_wp2_with fail
    go_ret
    exact ⟨rfl, 0, rfl⟩
end Go.Proofs.Ytggebkcmokpcmaa
end
