/-
  Joined: YPlain, KOwn, WPut.
-/
import Derived.Test.YtnfhfilconcajaaZtTotalSquare16
import Derived.Test.YtnfhfilconcajaaZtTotalSquare07
import Derived.Test.YtnfhfilconcajaaZtTotalSquare04
import Derived.Laws.AppendOwnNone
import Derived.Test.YtnfhfilconcajaaZtTotalSquare08
import Derived.Deep.RegionLaw
section
namespace Go.Proofs.Ytnfhfilconcajaa
open Go.RowKit
set_option linter.unusedVariables false
set_option maxRecDepth 100000

/-- What occurs an odd number of times, in order. -/
def oddY : List (List Int) → List (List Int)
  | [] => []
  | x :: l => mrg [x] (oddY l)
theorem oddY_spec : ∀ l : List (List Int), Asc (oddY l) ∧ ∀ z, z ∈ oddY l ↔ par l z
  | [] => ⟨List.Pairwise.nil, fun z => by simp [oddY, par]⟩
  | x :: l => by
    obtain ⟨h1, h2⟩ := oddY_spec l
    obtain ⟨k1, k2⟩ := mrg_spec [x] (oddY l) (List.pairwise_singleton _ _) h1
    refine ⟨k1, fun z => ?_⟩
    rw [oddY, k2, h2]
    show _ ↔ (x = z ∧ ¬ par l z) ∨ (x ≠ z ∧ par l z)
    by_cases e : x = z
    · subst e; simp
    · have : z ∉ [x] := by simp; exact fun h => e h.symm
      simp [this, e]
theorem oddY_eq {l : List (List Int)} {zs : List (List Int)} (ha : Asc zs) (h : ∀ z, z ∈ zs ↔ par l z) : zs = oddY l :=
  asc_ext _ _ ha (oddY_spec l).1 fun z => by rw [h, (oddY_spec l).2]
theorem oddY_mem {l : List (List Int)} {z : List Int} (h : z ∈ oddY l) : z ∈ l := par_mem _ _ (((oddY_spec l).2 z).1 h)
theorem oddY_par {l l' : List (List Int)} (h : ∀ z, par l z ↔ par l' z) : oddY l = oddY l' := oddY_eq (oddY_spec l).1 fun z => by rw [(oddY_spec l).2, h]
theorem oddY_asc {l : List (List Int)} (h : Asc l) : oddY l = l := (oddY_eq h fun z => by rw [par_nodup l h.nodup]).symm
theorem par_oddY (l : List (List Int)) (z : List Int) : par (oddY l) z ↔ par l z := by rw [par_nodup _ (oddY_spec l).1.nodup, (oddY_spec l).2]

/-- Four exponents with the sum d. -/
def Mono4 (d : Nat) (x : List Int) : Prop := ∃ a b c f : Nat, x = [(a : Int), (b : Int), (c : Int), (f : Int)] ∧ a + b + c + f = d
theorem Mono4.len {d : Nat} {x : List Int} (h : Mono4 d x) : x.length = 4 := by obtain ⟨a, b, c, f, rfl, _⟩ := h; rfl
theorem mono4_is (d a b c : Nat) (h : a + b + c ≤ d) : Mono4 d (mono4 d a b c) := ⟨a, b, c, d - a - b - c, by unfold mono4; rw [show ((d : Int) - a - b - c) = ((d - a - b - c : Nat) : Int) by omega], by omega⟩
/-- The place of four exponents. -/
def ix4 : List Int → Nat
  | [a, b, c, _] => ixM a.toNat b.toNat c.toNat
  | _ => 0
theorem ix4_mono (d a b c : Nat) : ix4 (mono4 d a b c) = ixM a b c := rfl
theorem Mono4.eq {d : Nat} {x : List Int} (h : Mono4 d x) : ∃ a b c : Nat, a + b + c ≤ d ∧ x = mono4 d a b c ∧ ix4 x = ixM a b c := by
  obtain ⟨a, b, c, f, rfl, e⟩ := h
  exact ⟨a, b, c, by omega, by unfold mono4; rw [show ((d : Int) - a - b - c) = (f : Int) by omega], rfl⟩
theorem ix4_inj {d : Nat} (hd : d ≤ 40) (x y : List Int) (hx : Mono4 d x) (hy : Mono4 d y) (e : ix4 x = ix4 y) : x = y := by
  obtain ⟨a, b, c, h1, rfl, e1⟩ := hx.eq
  obtain ⟨a', b', c', h2, rfl, e2⟩ := hy.eq
  rw [e1, e2] at e
  unfold ixM at e
  have ha : a = a' := by omega
  subst ha
  have hb : b = b' := by omega
  subst hb
  have hc : c = c' := by omega
  subst hc
  rfl
theorem par_oddN (i : Nat) : ∀ l : List Nat, oddN l i = true ↔ par l i
  | [] => by simp [par, oddN]
  | x :: l => by
    have ih := par_oddN i l
    show _ ↔ (x = i ∧ ¬ par l i) ∨ (x ≠ i ∧ par l i)
    rw [← ih]
    unfold oddN
    rw [List.count_cons]
    by_cases e : x = i
    · subst e
      simp
      omega
    · have : (x == i) = false := by rw [beq_eq_false_iff_ne]; exact e
      simp [e, this]

theorem mem_monL (N : List Nat) (d : Nat) (x : List Int) : x ∈ monL N d ↔ ∃ a b c, a + b + c ≤ d ∧ oddN N (ixM a b c) = true ∧ x = mono4 d a b c := by
  unfold monL rowA rowB rowC
  simp only [List.mem_flatMap, List.mem_range, List.mem_map, List.mem_filter]
  constructor
  · rintro ⟨a, ha, b, hb, c, ⟨hc, ho⟩, rfl⟩
    exact ⟨a, b, c, by omega, ho, rfl⟩
  · rintro ⟨a, b, c, h, ho, rfl⟩
    exact ⟨a, by omega, b, by omega, c, ⟨by omega, ho⟩, rfl⟩
theorem lexLt_cons_ne {a b : Int} {l l' : List Int} (h : a < b) : lexLt (a :: l) (b :: l') = true := by
  rw [lexLt, if_neg (by omega)]
  exact decide_eq_true h
theorem lexLt_cons_eq (a : Int) (l l' : List Int) : lexLt (a :: l) (a :: l') = lexLt l l' := by rw [lexLt, if_pos rfl]
theorem range_lt (n : Nat) : (List.range n).Pairwise (· < ·) := List.pairwise_lt_range
theorem asc_monL (N : List Nat) (d : Nat) : Asc (monL N d) := by
  unfold monL rowA Asc
  rw [List.pairwise_flatMap]
  refine ⟨fun a _ => ?_, (range_lt _).imp ?_⟩
  · unfold rowB
    rw [List.pairwise_flatMap]
    refine ⟨fun b _ => ?_, (range_lt _).imp ?_⟩
    · unfold rowC
      rw [List.pairwise_map]
      refine ((range_lt _).filter _).imp ?_
      intro c c' h
      unfold mono4
      rw [lexLt_cons_eq, lexLt_cons_eq]
      exact lexLt_cons_ne (by omega)
    · intro b b' h x hx y hy
      obtain ⟨c, _, rfl⟩ := List.mem_map.1 hx
      obtain ⟨c', _, rfl⟩ := List.mem_map.1 hy
      unfold mono4
      rw [lexLt_cons_eq]
      exact lexLt_cons_ne (by omega)
  · intro a a' h x hx y hy
    obtain ⟨b, _, hx⟩ := List.mem_flatMap.1 hx
    obtain ⟨b', _, hy⟩ := List.mem_flatMap.1 hy
    obtain ⟨c, _, rfl⟩ := List.mem_map.1 hx
    obtain ⟨c', _, rfl⟩ := List.mem_map.1 hy
    exact lexLt_cons_ne (by omega)
/-- The table of a sum tells what occurs an odd number of times. -/
theorem monL_odd (T : List (List Int)) (d : Nat) (hd : d ≤ 40) (h : ∀ t ∈ T, Mono4 d t) : monL (T.map ix4) d = oddY T := by
  refine oddY_eq (asc_monL _ _) fun z => ?_
  rw [mem_monL]
  constructor
  · rintro ⟨a, b, c, hs, ho, rfl⟩
    have h1 := (par_oddN _ _).1 ho
    rw [← ix4_mono d a b c] at h1
    exact (par_map ix4 (Mono4 d) (ix4_inj hd) _ (mono4_is d a b c hs) T h).1 h1
  · intro hp
    have hz := h z (par_mem _ _ hp)
    obtain ⟨a, b, c, hs, e, e2⟩ := hz.eq
    refine ⟨a, b, c, hs, ?_, e⟩
    rw [par_oddN, ← e2]
    exact (par_map ix4 (Mono4 d) (ix4_inj hd) _ hz T h).2 hp
theorem monL_nil (d : Nat) : monL [] d = [] := by
  refine List.eq_nil_iff_forall_not_mem.2 fun x hx => ?_
  obtain ⟨a, b, c, _, ho, _⟩ := (mem_monL [] d x).1 hx
  exact absurd ho (by simp [oddN])
end Go.Proofs.Ytnfhfilconcajaa
end
section
namespace Go.Proofs.Ytnfhfilconcajaa
open Go.RowKit
set_option linter.unusedVariables false
set_option maxRecDepth 100000

theorem ownNil (w : World) :
    Calls Try.prog 84 #[.slice none 0 0] w fun e w' => ∃ u, e = .returned u ∧ w'.ownsRow w.heap.size 2 1 u 0 [] ∧ Below w.heap.size w w' := by
  obtain ⟨i0, hi, hz0, hz1, hz2⟩ := info_parts Try.info2
  go_enter Try.func84, Try.ntmps84
  go_wp2_with (at_builtin; refine wpList_append_own_none rfl _ _ 53 rfl w.heap.size 2 i0 1 Try.underlying53 hi _ 0 [] rfl (World.ownsRow_made w #[] 0 (Nat.le_refl _) (Nat.zero_le _) (by simp)) rfl ?_)
  go_ret
  exact ⟨_, rfl, World.ownsRow_made w #[] 0 (Nat.le_refl _) (Nat.zero_le _) (by simp), (Below.refl _ w).alloc (Nat.le_refl _) _⟩

theorem ownAny (v : Value) (zs : List Int) (B : Nat) (w : World) (hn : zs.length ≤ 1000000) (h : w.ownsRow B 2 1 v zs.length (zs.map (Value.int .i64))) :
    Calls Try.prog 84 #[v] w fun e w' => ∃ u, e = .returned u ∧ w'.ownsRow w.heap.size 2 1 u zs.length (zs.map (Value.int .i64)) ∧ Below w.heap.size w w' := by
  rcases h.2 with ⟨rfl, h0⟩ | ⟨g, cap, cur, rfl, _⟩
  · have hz : zs = [] := List.eq_nil_of_length_eq_zero h0
    subst hz
    exact ownNil w
  · exact (l01Own_any g zs.length cap zs B w hn h).mono fun e w' ⟨u, a, b, _, c⟩ => ⟨u, a, b, c⟩

end Go.Proofs.Ytnfhfilconcajaa
end
section
namespace Go.Proofs.Ytnfhfilconcajaa
open Go.RowKit
set_option linter.unusedVariables false
set_option maxRecDepth 100000

/-! ### append of rows of rows, whatever the source -/
theorem wp_rows {o : Oper} {a : Act} {K : Act → World → Prop} {Q : Exit → Act → World → Prop} (w : World) (s x : Operand) (ho : o.op = .call { callee := .builtin .append, args := #[s, x], argTypes := #[22, 22] })
    (B n : Nat) (v : Value) (xs : List Value) (hs : a.eval s = v) (hown : w.ownsRow B 53 1 v n xs) (ap : Option Addr) (m c : Nat) (news : List Value) (hx : a.eval x = .slice ap m c)
    (hsrc : (ap = none ∧ m = 0 ∧ c = 0) ∨ ∃ ad, ap = some ad ∧ ∀ j u, news[j]? = some u → w.cell? (ad.add j) = some u) (hl : news.length = m) (h1 : ∀ u ∈ news, u.oneCell' = true) (hn : n + m ≤ 400000000000) (hB : B ≤ w.heap.size)
    (h : ∀ v' w', w'.ownsRow B 53 1 v' (n + m) (xs ++ news) → w.grownBy w' v.ownBlock → K (a.put o.dst v') w') : o.wp Try.prog a w K Q := by
  obtain ⟨i1, hj, hy0, hy1, hy2⟩ := info_parts Try.infoS
  rcases hsrc with ⟨rfl, rfl, rfl⟩ | ⟨ad, rfl, hc⟩
  · have hnews : news = [] := List.eq_nil_of_length_eq_zero hl
    subst hnews
    have hrun := run_append_owned_none (P := Try.prog) (w := w) B 22 o.type 53 i1 1 Try.underlying22 hj v n xs hown
    unfold Oper.wp
    simp [execOp, ho, resolve, invoke, builtin, hs, hx, hrun, Result.andThen]
    refine h v w (by simpa using hown) (World.grownBy.refl w _)
  · exact wp_append_own w s x 22 ho B 53 i1 (.slice none 0 0) 1 24 Try.underlying22 hj hy0 hy1 hy2 rfl (by decide) v n xs hs hown ad m c news hx (by omega) hc h1 (by unfold maxLen; omega) (by omega) hB
      (fun v' w' h2 h3 _ => h v' w' h2 h3)
theorem wpList_rows {ops : Array Oper} {rest : List Oper} {o : Oper} {a : Act} {Q : Exit → Act → World → Prop} (w : World) (hgd : o.guard = none) (s x : Operand) (ho : o.op = .call { callee := .builtin .append, args := #[s, x], argTypes := #[22, 22] })
    (B n : Nat) (v : Value) (xs : List Value) (hs : a.eval s = v) (hown : w.ownsRow B 53 1 v n xs) (ap : Option Addr) (m c : Nat) (news : List Value) (hx : a.eval x = .slice ap m c)
    (hsrc : (ap = none ∧ m = 0 ∧ c = 0) ∨ ∃ ad, ap = some ad ∧ ∀ j u, news[j]? = some u → w.cell? (ad.add j) = some u) (hl : news.length = m) (h1 : ∀ u ∈ news, u.oneCell' = true) (hn : n + m ≤ 400000000000) (hB : B ≤ w.heap.size)
    (h : ∀ v' w', w'.ownsRow B 53 1 v' (n + m) (xs ++ news) → w.grownBy w' v.ownBlock → wpList Try.prog ops Q rest (a.put o.dst v') w') : wpList Try.prog ops Q (o :: rest) a w :=
  wpList_plain hgd fun _ hK => wp_rows w s x ho B n v xs hs hown ap m c news hx hsrc hl h1 hn hB fun v' w' h2 h3 => hK _ _ (h v' w' h2 h3)
theorem step_rows {ops : Array Oper} {o : Oper} {a : Act} {w : World} {K : Act → World → Prop} {Q : Exit → Act → World → Prop} {E : Prop} (hgd : o.guard = none) (s x : Operand) (ho : o.op = .call { callee := .builtin .append, args := #[s, x], argTypes := #[22, 22] })
    (B n : Nat) (v : Value) (xs : List Value) (hs : a.eval s = v) (hown : w.ownsRow B 53 1 v n xs) (ap : Option Addr) (m c : Nat) (news : List Value) (hx : a.eval x = .slice ap m c)
    (hsrc : (ap = none ∧ m = 0 ∧ c = 0) ∨ ∃ ad, ap = some ad ∧ ∀ j u, news[j]? = some u → w.cell? (ad.add j) = some u) (hl : news.length = m) (h1 : ∀ u ∈ news, u.oneCell' = true) (hn : n + m ≤ 400000000000) (hB : B ≤ w.heap.size)
    (h : ∀ v' w', w'.ownsRow B 53 1 v' (n + m) (xs ++ news) → w.grownBy w' v.ownBlock → K (a.put o.dst v') w') :
    if Region.wanted o (yielded ops a.tmps) = true then Oper.wp Try.prog o a w K Q else E := by
  have hw : Region.wanted o (yielded ops a.tmps) = true := by simp [Region.wanted, hgd]
  rw [if_pos hw]
  exact wp_rows w s x ho B n v xs hs hown ap m c news hx hsrc hl h1 hn hB h

/-! ### l01Same -/
theorem l01Same_any (va vb : Value) (xs ys : List Int) (w : World) (ha : RdL w va xs) (hb : RdL w vb ys) :
    Calls Try.prog 104 #[va, vb] w fun e w' => e = .returned (.bool (decide (xs = ys))) ∧ ∃ q, w' = w.drewN q := by
  obtain ⟨aa, capa, rfl, hma, ha⟩ := ha
  obtain ⟨ab, capb, rfl, hmb, hb⟩ := hb
  unfold maxLen at hma hmb
  by_cases hl : xs.length = ys.length
  · have hne : ((xs.length : Int) != (ys.length : Int)) = false := by rw [bne_eq_false_iff_eq]; omega
    obtain ⟨r, hr⟩ : ∃ r, decide (xs = ys) = r := ⟨_, rfl⟩
    have HST : Hid (∀ k, k < xs.length → (∀ i, i < k → xs[i]?.getD 0 = ys[i]?.getD 0) → xs[k]?.getD 0 ≠ ys[k]?.getD 0 → r = false) := Lib.hid fun k hk _ h => by
      rw [← hr]
      exact decide_eq_false fun e => h (by rw [e])
    have HEN : Hid ((∀ i, i < xs.length → xs[i]?.getD 0 = ys[i]?.getD 0) → r = true) := Lib.hid fun h => by
      rw [← hr]
      refine decide_eq_true (List.ext_getElem hl fun i h1 h2 => ?_)
      have := h i h1
      rw [List.getElem?_eq_getElem h1, List.getElem?_eq_getElem h2] at this
      simpa using this
    rw [hr]
    have HA : Hid (∀ i, i < xs.length → ∃ b off, aa = some ⟨b, off, none⟩ ∧ w.cell? ⟨b, off + i, none⟩ = some (.int .i64 (xs[i]?.getD 0))) := by
      refine Lib.hid fun i hi => ?_
      obtain ⟨b, off, e, hc⟩ := ha.resolve_left (by omega)
      exact ⟨b, off, e, hc i hi⟩
    have HB : Hid (∀ i, i < xs.length → ∃ b off, ab = some ⟨b, off, none⟩ ∧ w.cell? ⟨b, off + i, none⟩ = some (.int .i64 (ys[i]?.getD 0))) := by
      refine Lib.hid fun i hi => ?_
      obtain ⟨b, off, e, hc⟩ := hb.resolve_left (by omega)
      exact ⟨b, off, e, hc i (by omega)⟩
    have hlI : (ys.length : Int) = (xs.length : Int) := by omega
    clear ha hb hr
    go_enter Try.func104, Try.ntmps104
    go_wp2
    go_loopw [5] (fun c wr => ∃ k q : Nat, k ≤ xs.length ∧ c = .int .i64 k ∧ Hid (∀ i, i < k → xs[i]?.getD 0 = ys[i]?.getD 0) ∧ Hid (wr = w.drewN q)) (fun c _ => xs.length - (intOf c).toNat)
    case atStart => exact ⟨0, 0, Nat.zero_le _, rfl, Lib.hid fun i hi => absurd hi (Nat.not_lt_zero _), Lib.hid rfl⟩
    case round =>
      obtain ⟨k, q, hk, rfl, hP, hw⟩ := hrel
      by_cases h1 : k < xs.length
      · have h1' : (k : Int) < (xs.length : Int) := by omega
        have h2' : (k : Int) < (ys.length : Int) := by omega
        obtain ⟨ba, oa, rfl, ca⟩ := HA.out k h1
        obtain ⟨bb, ob, rfl, cb⟩ := HB.out k h1
        have c1 : wr.cell? ⟨ba, oa + k, none⟩ = some (.int .i64 (xs[k]?.getD 0)) := by rw [hw.out]; exact ca
        have c2 : wr.cell? ⟨bb, ob + k, none⟩ = some (.int .i64 (ys[k]?.getD 0)) := by rw [hw.out]; exact cb
        clear ca cb
        by_cases he : xs[k]?.getD 0 = ys[k]?.getD 0
        · have hP2 : Hid (∀ i, i < k + 1 → xs[i]?.getD 0 = ys[i]?.getD 0) := Lib.hid fun i hi => by
            by_cases e : i = k
            · subst e; exact he
            · exact hP.out i (by omega)
          rw [he] at c1
          generalize ys[k]?.getD 0 = y at c1 c2
          clear he
          go_wp2_with fail
          go_quiet (fail)
          go_wp2_with fail
          go_roundw
          case rel => exact ⟨k + 1, q + nq, by omega, by go_num, hP2, Lib.hid (by rw [hw.out]; exact World.drewN_drewN ..)⟩
          case measure => simp [intOf]; omega
        · have hfin := Lib.hid (HST.out k h1 hP.out he)
          have hne2 : (xs[k]?.getD 0 != ys[k]?.getD 0) = true := by rw [bne_iff_ne]; exact he
          clear he
          generalize xs[k]?.getD 0 = x at c1 hne2
          generalize ys[k]?.getD 0 = y at c2 hne2
          go_wp2_with fail
          go_quiet (fail)
          go_wp2_with fail
          go_ret
          exact ⟨by rw [hfin.out]; rfl, _, by rw [hw.out, World.drewN_drewN]⟩
      · have hk2 : k = xs.length := by omega
        have hfin : Hid (r = true) := Lib.hid (HEN.out (fun i hi => hP.out i (by omega)))
        have h1' : ¬ (k : Int) < (xs.length : Int) := by omega
        clear hk2
        go_wp2_with fail
        go_ret
        exact ⟨by rw [hfin.out]; rfl, q, hw.out⟩
  · have hne : ((xs.length : Int) != (ys.length : Int)) = true := by rw [bne_iff_ne]; omega
    have e : decide (xs = ys) = false := decide_eq_false fun e => hl (by rw [e])
    have E := Lib.hid e
    rw [E.out]
    clear ha hb hl e E
    go_enter Try.func104, Try.ntmps104
    go_wp2_with fail
    go_ret
    exact ⟨rfl, 0, rfl⟩
end Go.Proofs.Ytnfhfilconcajaa
end
