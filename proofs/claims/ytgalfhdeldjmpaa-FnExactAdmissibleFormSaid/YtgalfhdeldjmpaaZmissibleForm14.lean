/-
  Joined: RKeys, KOwn, WPut.
-/
import Derived.Test.YtgalfhdeldjmpaaZmissibleForm13
import Derived.Test.YtgalfhdeldjmpaaZmissibleForm09
import Derived.Laws.AppendOwnNone
import Derived.Test.YtgalfhdeldjmpaaZmissibleForm10
import Derived.Test.YtgalfhdeldjmpaaZmissibleForm11
import Derived.Deep.RegionLaw
section
namespace Go.Proofs.Ytgalfhdeldjmpaa
open Go.RowKit Go.Maps
set_option linter.unusedVariables false
set_option maxRecDepth 100000

theorem keyedAB : Keyed Try.prog 82 := Keyed.of_law (deep_law_laid laidP (m := 3) (by omega) (of_decide_eq_true (by kernel_rfl)) (by kernel_rfl) (by kernel_rfl))
theorem keyedNX : Keyed Try.prog 112 := Keyed.of_law (deep_law_laid laidP (m := 3) (by omega) (of_decide_eq_true (by kernel_rfl)) (by kernel_rfl) (by kernel_rfl))

theorem keyAB_mk (a b : Int) (ha : (Lit.int .i64 a).wf = true) (hb : (Lit.int .i64 b).wf = true) : ∃ l, keyOf Try.prog 82 (keyAB a b) = some l := by
  obtain ⟨L, hL⟩ := arrLits_mk (P := Try.prog) Try.underlying82 Try.underlying2 (by kernel_rfl) (by kernel_rfl) (Try.prog.types.size - 1) (cs := [Value.int .i64 a, Value.int .i64 b]) rfl ⟨[a, b], rfl, by
    intro z hz
    rcases List.mem_cons.1 hz with rfl | hz
    · exact ha
    · rw [List.mem_singleton.1 hz]; exact hb⟩
  have hts : Try.prog.types.size - 1 + 2 = Try.prog.types.size + 1 := by kernel_rfl
  rw [hts] at hL
  have hk : Try.prog.keyType 82 = true := by kernel_rfl
  have hf : (keyAB a b).formed Try.prog 82 = true := by
    have hc : Try.prog.cellsOf 82 = 2 := by kernel_rfl
    simp [keyAB, Value.formed, Try.underlying82, hc]
  refine ⟨.string (keyBytes L), ?_⟩
  unfold keyOf
  rw [Try.underlying82]
  simp only [hk, hf, Bool.and_self, if_true]
  have e : (keyAB a b).cells.toList = [Value.int .i64 a, Value.int .i64 b] := by simp [keyAB, Value.cells]
  rw [e, hL]
  rfl

theorem litsNX_mk (d : Nat) (z : Int) (hz : (Lit.int .i64 z).wf = true) {cs : List Value} (hl : cs.length = 8) (h : Ints .u8 cs) : ∃ l, Try.prog.keyLits (d + 3) 112 (.int .i64 z :: cs) = some l := by
  have hc : Try.prog.cellsOf 112 = 9 := by kernel_rfl
  have hc1 : Try.prog.cellsOf 2 = 1 := by kernel_rfl
  have hc2 : Try.prog.cellsOf 64 = 8 := by kernel_rfl
  unfold Program.keyLits
  rw [Try.underlying112]
  simp only [hc]
  rw [if_pos ⟨by rw [List.length_cons, hl], by kernel_rfl⟩]
  obtain ⟨a0, h0⟩ := intLits_mk Try.underlying2 (d + 1) z hz
  obtain ⟨a1, h1⟩ := arrLits_mk Try.underlying64 Try.underlying5 (by kernel_rfl) (by kernel_rfl) d (cs := cs) hl h
  have e1 : cs.take 8 = cs := List.take_of_length_le (by omega)
  refine ⟨(a0 ++ a1), ?_⟩
  simp [hc1, hc2, h0, h1, e1]

theorem keyNX_mk (n : Int) (x : List Int) (hn : (Lit.int .i64 n).wf = true) (hx : fits x) : ∃ l, keyOf Try.prog 112 (keyNX n x) = some l := by
  obtain ⟨zs, hz, e⟩ := (packK_ok x hx).ints
  have hI : Ints .u8 (packK x).toList := by
    obtain ⟨l, hl⟩ := (packK_ok x hx).key
    obtain ⟨xs, L, h1, hL, _⟩ := keyOf_top (by kernel_rfl) hl
    cases h1
    exact (litsP hL).2
  have h8 : (packK x).toList.length = 8 := by rw [Array.length_toList]; exact (packK_ok x hx).size
  obtain ⟨L, hL⟩ := litsNX_mk (Try.prog.types.size - 2) n hn h8 hI
  have hts : Try.prog.types.size - 2 + 3 = Try.prog.types.size + 1 := by kernel_rfl
  rw [hts] at hL
  have hk : Try.prog.keyType 112 = true := by kernel_rfl
  have hf : (keyNX n x).formed Try.prog 112 = true := by
    have hc : Try.prog.cellsOf 112 = 9 := by kernel_rfl
    simp only [keyNX, Value.formed, Try.underlying112, hc, List.size_toArray, List.length_cons, h8]
    rfl
  refine ⟨.string (keyBytes L), ?_⟩
  unfold keyOf
  rw [Try.underlying112]
  simp only [hk, hf, Bool.and_self, if_true]
  have e : (keyNX n x).cells.toList = .int .i64 n :: (packK x).toList := by simp [keyNX, Value.cells]
  rw [e, hL]
  rfl

/-! ### How many keys there are -/
noncomputable def keysAB : List (Option Lit) := (List.range 41).flatMap fun a : Nat => (List.range 41).map fun b : Nat => keyOf Try.prog 82 (keyAB ((a : Nat) : Int) ((b : Nat) : Int))
noncomputable def keysNX : List (Option Lit) := (List.range 41).flatMap fun n : Nat => (List.range 41).flatMap fun d : Nat => (enumN 6 d d).map fun x => keyOf Try.prog 112 (keyNX ((n : Nat) : Int) x)
theorem flatMap_len {α β : Type} (f : α → List β) (c : Nat) : ∀ (l : List α), (∀ x ∈ l, (f x).length ≤ c) → (l.flatMap f).length ≤ l.length * c
  | [], _ => by simp
  | x :: r, h => by
    have h1 := h x List.mem_cons_self
    have h2 := flatMap_len f c r fun y hy => h y (List.mem_cons_of_mem _ hy)
    rw [List.flatMap_cons, List.length_append, List.length_cons, Nat.succ_mul]
    omega
theorem keysAB_len : keysAB.length ≤ 1681 := by
  unfold keysAB
  have := flatMap_len (fun a : Nat => (List.range 41).map fun b : Nat => keyOf Try.prog 82 (keyAB ((a : Nat) : Int) ((b : Nat) : Int))) 41 (List.range 41) (fun x _ => by rw [List.length_map, List.length_range]; exact Nat.le_refl _)
  rw [List.length_range] at this
  omega
theorem keysNX_len : keysNX.length ≤ 168100 := by
  unfold keysNX
  have := flatMap_len (fun n : Nat => (List.range 41).flatMap fun d : Nat => (enumN 6 d d).map fun x => keyOf Try.prog 112 (keyNX ((n : Nat) : Int) x)) 4100 (List.range 41) (fun n _ => by
    have := flatMap_len (fun d : Nat => (enumN 6 d d).map fun x => keyOf Try.prog 112 (keyNX ((n : Nat) : Int) x)) 100 (List.range 41) (fun d hd => by
      rw [List.length_map, enumN_len]
      exact cnt_40 d (List.mem_range.1 hd))
    rw [List.length_range] at this
    omega)
  rw [List.length_range] at this
  omega
theorem keysAB_mem {a b : Int} {l : Lit} (h : okAB a b) (hl : keyOf Try.prog 82 (keyAB a b) = some l) : some l ∈ keysAB := by
  obtain ⟨h1, h2, h3, h4⟩ := h
  obtain ⟨na, rfl⟩ := Int.eq_ofNat_of_zero_le (by omega : 0 ≤ a)
  obtain ⟨nb, rfl⟩ := Int.eq_ofNat_of_zero_le (by omega : 0 ≤ b)
  exact List.mem_flatMap.2 ⟨na, List.mem_range.2 (by omega), List.mem_map.2 ⟨nb, List.mem_range.2 (by omega), hl⟩⟩
theorem enumN_adm {x : List Int} (h : isAdm x) (h40 : x.sum ≤ 40) : x ∈ enumN 6 x.sum.toNat x.sum.toNat := by
  have hs := isAdm_sum h
  refine enumN_mem 6 _ _ x (isAdm_len h h40) h (by omega) fun a r e => ?_
  subst e
  have := isAdm_sum (isAdm_tail h)
  rw [List.sum_cons] at h40 hs ⊢
  omega
theorem keysNX_mem {n : Int} {x : List Int} {l : Lit} (h : okNX n x) (hl : keyOf Try.prog 112 (keyNX n x) = some l) : some l ∈ keysNX := by
  obtain ⟨h1, h2, h3⟩ := h
  have hs := isAdm_sum h2
  obtain ⟨m, rfl⟩ := Int.eq_ofNat_of_zero_le (by omega : 0 ≤ n)
  exact List.mem_flatMap.2 ⟨m, List.mem_range.2 (by omega), List.mem_flatMap.2 ⟨x.sum.toNat, List.mem_range.2 (by omega), List.mem_map.2 ⟨x, enumN_adm h2 (by omega), hl⟩⟩⟩
theorem adm_fits {x : List Int} (h : isAdm x) (h40 : x.sum ≤ 40) : fits x := by
  refine ⟨by have := isAdm_len h h40; omega, fun i hi => ?_⟩
  rw [List.getElem?_eq_getElem hi]
  have := adm_entries h h40 _ (List.getElem_mem hi)
  simp only [Option.getD_some]
  omega

theorem RInv.known' {R K gk gp : Nat} {X : Nat → Prop} {w : World} (h : RInv R K gk gp X w) : ∃ D n, w.ownsMap Try.prog 82 RawV gk n D ∧ n ≤ 1681 ∧ Ent D (PhiK X w) := by
  obtain ⟨D, n, h1, h2⟩ := h.known
  refine ⟨D, _, ownsMap_exact h1, ?_, h2⟩
  have := h2.few (h1.tidy keyedAB) keysAB fun l v ⟨⟨a, b, h3, h4, _⟩, _⟩ => keysAB_mem h3 h4
  have := keysAB_len
  omega
theorem RInv.prods' {R K gk gp : Nat} {X : Nat → Prop} {w : World} (h : RInv R K gk gp X w) : ∃ D n, w.ownsMap Try.prog 112 RawV gp n D ∧ n ≤ 168100 ∧ Ent D (PhiP X w) := by
  obtain ⟨D, n, h1, h2⟩ := h.prods
  refine ⟨D, _, ownsMap_exact h1, ?_, h2⟩
  have := h2.few (h1.tidy keyedNX) keysNX fun l v ⟨⟨n, x, h3, h4, _⟩, _⟩ => keysNX_mem h3 h4
  have := keysNX_len
  omega

theorem packs_ok {L : List (List Int)} (h : ∀ y ∈ L, fits y) : ∀ k ∈ L.map packK, KOKP k := by
  intro k hk
  obtain ⟨y, hy, rfl⟩ := List.mem_map.1 hk
  exact packK_ok y (h y hy)
theorem res_ok {n : Int} {x : List Int} {L : List (List Int)} (hx : okNX n x) (h : ∀ y, y ∈ L ↔ par (admF 1700 n x) y) : ∀ k ∈ L.map packK, KOKP k :=
  packs_ok fun y hy => by
    have := admF_ok 1700 n x (by have := hx.1; omega) hx.2.1 hx.2.2 (by have := hx.1; have := isAdm_sum hx.2.1; have := hx.2.2; unfold mu; omega) y (par_mem _ _ ((h y).1 hy))
    exact adm_fits this.1 (by rw [this.2]; exact hx.2.2)
end Go.Proofs.Ytgalfhdeldjmpaa
end
section
namespace Go.Proofs.Ytgalfhdeldjmpaa
open Go.RowKit
set_option linter.unusedVariables false
set_option maxRecDepth 100000

theorem ownNil (w : World) :
    Calls Try.prog 75 #[.slice none 0 0] w fun e w' => ∃ u, e = .returned u ∧ w'.ownsRow w.heap.size 2 1 u 0 [] ∧ Below w.heap.size w w' := by
  obtain ⟨i0, hi, hz0, hz1, hz2⟩ := info_parts Try.info2
  go_enter Try.func75, Try.ntmps75
  go_wp2_with (at_builtin; refine wpList_append_own_none rfl _ _ 41 rfl w.heap.size 2 i0 1 Try.underlying41 hi _ 0 [] rfl (World.ownsRow_made w #[] 0 (Nat.le_refl _) (Nat.zero_le _) (by simp)) rfl ?_)
  go_ret
  exact ⟨_, rfl, World.ownsRow_made w #[] 0 (Nat.le_refl _) (Nat.zero_le _) (by simp), (Below.refl _ w).alloc (Nat.le_refl _) _⟩

theorem ownAny (v : Value) (zs : List Int) (B : Nat) (w : World) (hn : zs.length ≤ 1000000) (h : w.ownsRow B 2 1 v zs.length (zs.map (Value.int .i64))) :
    Calls Try.prog 75 #[v] w fun e w' => ∃ u, e = .returned u ∧ w'.ownsRow w.heap.size 2 1 u zs.length (zs.map (Value.int .i64)) ∧ Below w.heap.size w w' := by
  rcases h.2 with ⟨rfl, h0⟩ | ⟨g, cap, cur, rfl, _⟩
  · have hz : zs = [] := List.eq_nil_of_length_eq_zero h0
    subst hz
    exact ownNil w
  · exact (l01Own_any g zs.length cap zs B w hn h).mono fun e w' ⟨u, a, b, _, c⟩ => ⟨u, a, b, c⟩

end Go.Proofs.Ytgalfhdeldjmpaa
end
section
namespace Go.Proofs.Ytgalfhdeldjmpaa
open Go.RowKit
set_option linter.unusedVariables false
set_option maxRecDepth 100000

/-! ### append of rows of rows, whatever the source -/
theorem wp_rows {o : Oper} {a : Act} {K : Act → World → Prop} {Q : Exit → Act → World → Prop} (w : World) (s x : Operand) (ho : o.op = .call { callee := .builtin .append, args := #[s, x], argTypes := #[22, 22] })
    (B n : Nat) (v : Value) (xs : List Value) (hs : a.eval s = v) (hown : w.ownsRow B 41 1 v n xs) (ap : Option Addr) (m c : Nat) (news : List Value) (hx : a.eval x = .slice ap m c)
    (hsrc : (ap = none ∧ m = 0 ∧ c = 0) ∨ ∃ ad, ap = some ad ∧ ∀ j u, news[j]? = some u → w.cell? (ad.add j) = some u) (hl : news.length = m) (h1 : ∀ u ∈ news, u.oneCell' = true) (hn : n + m ≤ 400000000000) (hB : B ≤ w.heap.size)
    (h : ∀ v' w', w'.ownsRow B 41 1 v' (n + m) (xs ++ news) → w.grownBy w' v.ownBlock → K (a.put o.dst v') w') : o.wp Try.prog a w K Q := by
  obtain ⟨i1, hj, hy0, hy1, hy2⟩ := info_parts Try.infoS
  rcases hsrc with ⟨rfl, rfl, rfl⟩ | ⟨ad, rfl, hc⟩
  · have hnews : news = [] := List.eq_nil_of_length_eq_zero hl
    subst hnews
    have hrun := run_append_owned_none (P := Try.prog) (w := w) B 22 o.type 41 i1 1 Try.underlying22 hj v n xs hown
    unfold Oper.wp
    simp [execOp, ho, resolve, invoke, builtin, hs, hx, hrun, Result.andThen]
    refine h v w (by simpa using hown) (World.grownBy.refl w _)
  · exact wp_append_own w s x 22 ho B 41 i1 (.slice none 0 0) 1 24 Try.underlying22 hj hy0 hy1 hy2 rfl (by decide) v n xs hs hown ad m c news hx (by omega) hc h1 (by unfold maxLen; omega) (by omega) hB
      (fun v' w' h2 h3 _ => h v' w' h2 h3)
theorem wpList_rows {ops : Array Oper} {rest : List Oper} {o : Oper} {a : Act} {Q : Exit → Act → World → Prop} (w : World) (hgd : o.guard = none) (s x : Operand) (ho : o.op = .call { callee := .builtin .append, args := #[s, x], argTypes := #[22, 22] })
    (B n : Nat) (v : Value) (xs : List Value) (hs : a.eval s = v) (hown : w.ownsRow B 41 1 v n xs) (ap : Option Addr) (m c : Nat) (news : List Value) (hx : a.eval x = .slice ap m c)
    (hsrc : (ap = none ∧ m = 0 ∧ c = 0) ∨ ∃ ad, ap = some ad ∧ ∀ j u, news[j]? = some u → w.cell? (ad.add j) = some u) (hl : news.length = m) (h1 : ∀ u ∈ news, u.oneCell' = true) (hn : n + m ≤ 400000000000) (hB : B ≤ w.heap.size)
    (h : ∀ v' w', w'.ownsRow B 41 1 v' (n + m) (xs ++ news) → w.grownBy w' v.ownBlock → wpList Try.prog ops Q rest (a.put o.dst v') w') : wpList Try.prog ops Q (o :: rest) a w :=
  wpList_plain hgd fun _ hK => wp_rows w s x ho B n v xs hs hown ap m c news hx hsrc hl h1 hn hB fun v' w' h2 h3 => hK _ _ (h v' w' h2 h3)
theorem step_rows {ops : Array Oper} {o : Oper} {a : Act} {w : World} {K : Act → World → Prop} {Q : Exit → Act → World → Prop} {E : Prop} (hgd : o.guard = none) (s x : Operand) (ho : o.op = .call { callee := .builtin .append, args := #[s, x], argTypes := #[22, 22] })
    (B n : Nat) (v : Value) (xs : List Value) (hs : a.eval s = v) (hown : w.ownsRow B 41 1 v n xs) (ap : Option Addr) (m c : Nat) (news : List Value) (hx : a.eval x = .slice ap m c)
    (hsrc : (ap = none ∧ m = 0 ∧ c = 0) ∨ ∃ ad, ap = some ad ∧ ∀ j u, news[j]? = some u → w.cell? (ad.add j) = some u) (hl : news.length = m) (h1 : ∀ u ∈ news, u.oneCell' = true) (hn : n + m ≤ 400000000000) (hB : B ≤ w.heap.size)
    (h : ∀ v' w', w'.ownsRow B 41 1 v' (n + m) (xs ++ news) → w.grownBy w' v.ownBlock → K (a.put o.dst v') w') :
    if Region.wanted o (yielded ops a.tmps) = true then Oper.wp Try.prog o a w K Q else E := by
  have hw : Region.wanted o (yielded ops a.tmps) = true := by simp [Region.wanted, hgd]
  rw [if_pos hw]
  exact wp_rows w s x ho B n v xs hs hown ap m c news hx hsrc hl h1 hn hB h

/-! ### l01Same -/
theorem l01Same_any (va vb : Value) (xs ys : List Int) (w : World) (ha : RdL w va xs) (hb : RdL w vb ys) :
    Calls Try.prog 81 #[va, vb] w fun e w' => e = .returned (.bool (decide (xs = ys))) ∧ ∃ q, w' = w.drewN q := by
  obtain ⟨aa, capa, rfl, hma, ha⟩ := ha
  obtain ⟨ab, capb, rfl, hmb, hb⟩ := hb
  unfold maxLen at hma hmb
  by_cases hl : xs.length = ys.length
  · have hne : ((xs.length : Int) != (ys.length : Int)) = false := by rw [bne_eq_false_iff_eq]; omega
    obtain ⟨r, hr⟩ : ∃ r, decide (xs = ys) = r := ⟨_, rfl⟩
    have HST : Hid (∀ k, k < xs.length → (∀ i, i < k → xs[i]?.getD 0 = ys[i]?.getD 0) → xs[k]?.getD 0 ≠ ys[k]?.getD 0 → r = false) := Lib.hid fun k hk _ h => by
      rw [← hr]
      exact decide_eq_false fun e => h (by rw [e])
    have HEN : Hid ((∀ i, i < xs.length → xs[i]?.getD 0 = ys[i]?.getD 0) → r = true) := Lib.hid fun h => by
      rw [← hr]
      refine decide_eq_true (List.ext_getElem hl fun i h1 h2 => ?_)
      have := h i h1
      rw [List.getElem?_eq_getElem h1, List.getElem?_eq_getElem h2] at this
      simpa using this
    rw [hr]
    have HA : Hid (∀ i, i < xs.length → ∃ b off, aa = some ⟨b, off, none⟩ ∧ w.cell? ⟨b, off + i, none⟩ = some (.int .i64 (xs[i]?.getD 0))) := by
      refine Lib.hid fun i hi => ?_
      obtain ⟨b, off, e, hc⟩ := ha.resolve_left (by omega)
      exact ⟨b, off, e, hc i hi⟩
    have HB : Hid (∀ i, i < xs.length → ∃ b off, ab = some ⟨b, off, none⟩ ∧ w.cell? ⟨b, off + i, none⟩ = some (.int .i64 (ys[i]?.getD 0))) := by
      refine Lib.hid fun i hi => ?_
      obtain ⟨b, off, e, hc⟩ := hb.resolve_left (by omega)
      exact ⟨b, off, e, hc i (by omega)⟩
    have hlI : (ys.length : Int) = (xs.length : Int) := by omega
    clear ha hb hr
    go_enter Try.func81, Try.ntmps81
    go_wp2
    go_loopw [5] (fun c wr => ∃ k q : Nat, k ≤ xs.length ∧ c = .int .i64 k ∧ Hid (∀ i, i < k → xs[i]?.getD 0 = ys[i]?.getD 0) ∧ Hid (wr = w.drewN q)) (fun c _ => xs.length - (intOf c).toNat)
    case atStart => exact ⟨0, 0, Nat.zero_le _, rfl, Lib.hid fun i hi => absurd hi (Nat.not_lt_zero _), Lib.hid rfl⟩
    case round =>
      obtain ⟨k, q, hk, rfl, hP, hw⟩ := hrel
      by_cases h1 : k < xs.length
      · have h1' : (k : Int) < (xs.length : Int) := by omega
        have h2' : (k : Int) < (ys.length : Int) := by omega
        obtain ⟨ba, oa, rfl, ca⟩ := HA.out k h1
        obtain ⟨bb, ob, rfl, cb⟩ := HB.out k h1
        have c1 : wr.cell? ⟨ba, oa + k, none⟩ = some (.int .i64 (xs[k]?.getD 0)) := by rw [hw.out]; exact ca
        have c2 : wr.cell? ⟨bb, ob + k, none⟩ = some (.int .i64 (ys[k]?.getD 0)) := by rw [hw.out]; exact cb
        clear ca cb
        by_cases he : xs[k]?.getD 0 = ys[k]?.getD 0
        · have hP2 : Hid (∀ i, i < k + 1 → xs[i]?.getD 0 = ys[i]?.getD 0) := Lib.hid fun i hi => by
            by_cases e : i = k
            · subst e; exact he
            · exact hP.out i (by omega)
          rw [he] at c1
          generalize ys[k]?.getD 0 = y at c1 c2
          clear he
          go_wp2_with fail
          go_quiet (fail)
          go_wp2_with fail
          go_roundw
          case rel => exact ⟨k + 1, q + nq, by omega, by go_num, hP2, Lib.hid (by rw [hw.out]; exact World.drewN_drewN ..)⟩
          case measure => simp [intOf]; omega
        · have hfin := Lib.hid (HST.out k h1 hP.out he)
          have hne2 : (xs[k]?.getD 0 != ys[k]?.getD 0) = true := by rw [bne_iff_ne]; exact he
          clear he
          generalize xs[k]?.getD 0 = x at c1 hne2
          generalize ys[k]?.getD 0 = y at c2 hne2
          go_wp2_with fail
          go_quiet (fail)
          go_wp2_with fail
          go_ret
          exact ⟨by rw [hfin.out]; rfl, _, by rw [hw.out, World.drewN_drewN]⟩
      · have hk2 : k = xs.length := by omega
        have hfin : Hid (r = true) := Lib.hid (HEN.out (fun i hi => hP.out i (by omega)))
        have h1' : ¬ (k : Int) < (xs.length : Int) := by omega
        clear hk2
        go_wp2_with fail
        go_ret
        exact ⟨by rw [hfin.out]; rfl, q, hw.out⟩
  · have hne : ((xs.length : Int) != (ys.length : Int)) = true := by rw [bne_iff_ne]; omega
    have e : decide (xs = ys) = false := decide_eq_false fun e => hl (by rw [e])
    have E := Lib.hid e
    rw [E.out]
    clear ha hb hl e E
    go_enter Try.func81, Try.ntmps81
    go_wp2_with fail
    go_ret
    exact ⟨rfl, 0, rfl⟩
end Go.Proofs.Ytgalfhdeldjmpaa
end
