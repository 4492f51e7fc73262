/-
  Joined: HImF, HImG, HImH.
-/
import Derived.Test.YtggebkcmokpcmaaZbleMonomials03
import Derived.Lib.Overlaps
import Derived.Lib.AppendZerosOnto
import Derived.Laws.IdiomCopy
import Derived.Laws.LoneSync
import Derived.Laws.Externs
section
namespace Go.Proofs.Ytggebkcmokpcmaa
open Go.RowKit Go.Maps
set_option linter.unusedVariables false
set_option maxRecDepth 100000

/-- A copy whose run is known. -/
theorem step_copyH {ops : Array Oper} {o : Oper} {a : Act} {w : World} {K : Act → World → Prop} {Q : Exit → Act → World → Prop} {E : Prop} (hgd : o.guard = none) (d s : Operand) (t t' : TypeId)
    (ho : o.op = .call { callee := .builtin .copy, args := #[d, s], argTypes := #[t, t'] }) (v u v' : Value) (w' : World) (hd : a.eval d = v) (hs : a.eval s = u)
    (hr : (Builtin.copy_ #[t, t'] o.type #[v, u]).run Try.prog w = .ok v' w') (h : K (a.put o.dst v') w') :
    if Region.wanted o (yielded ops a.tmps) = true then Oper.wp Try.prog o a w K Q else E := by
  have hw : Region.wanted o (yielded ops a.tmps) = true := by simp [Region.wanted, hgd]
  rw [if_pos hw]
  unfold Oper.wp execOp
  simp only [ho, resolve, invoke, builtin, Sem.run_bind, Sem.run_pure, Result.andThen_ok, List.map_toArray, List.map_cons, List.map_nil, hd, hs, hr]
  exact h
theorem list_copyH {ops : Array Oper} {rest : List Oper} {o : Oper} {a : Act} {w : World} {Q : Exit → Act → World → Prop} (hgd : o.guard = none) (d s : Operand) (t t' : TypeId)
    (ho : o.op = .call { callee := .builtin .copy, args := #[d, s], argTypes := #[t, t'] }) (v u v' : Value) (w' : World) (hd : a.eval d = v) (hs : a.eval s = u)
    (hr : (Builtin.copy_ #[t, t'] o.type #[v, u]).run Try.prog w = .ok v' w') (h : wpList Try.prog ops Q rest (a.put o.dst v') w') : wpList Try.prog ops Q (o :: rest) a w := by
  refine wpList_plain hgd fun K hK => ?_
  unfold Oper.wp execOp
  simp only [ho, resolve, invoke, builtin, Sem.run_bind, Sem.run_pure, Result.andThen_ok, List.map_toArray, List.map_cons, List.map_nil, hd, hs, hr]
  exact hK _ _ h

theorem sizeP1 : (Try.prog.info? 53).map (·.size) = some 1 := by kernel_rfl
theorem infoP1 : (Try.prog.info? 53).map (fun i => (i.zero, i.size, i.bytes)) = some (some (.slice none 0 0), 1, 24) := by kernel_rfl
theorem sizeOfP (w : World) : (Go.sizeOf 53).run Try.prog w = .ok 1 w := by
  obtain ⟨i0, hi, hz0, hz1, hz2⟩ := info_parts infoP1
  simp [Go.sizeOf, typeInfo, hi, hz1]

/-- What is appended may be of another named type. -/
theorem append_two (ty : TypeId) (s x : Value) (w : World) : (Builtin.append_ #[57, 56] ty #[s, x]).run Try.prog w = (Builtin.append_ #[57, 57] ty #[s, x]).run Try.prog w := by
  unfold Builtin.append_
  simp only [List.getElem?_toArray, List.getElem?_cons_zero, List.getElem?_cons_succ, Sem.run_bind, run_underlying Try.underlying57, Result.andThen_ok]
  cases s with
  | slice base l c => simp only [Sem.run_bind, sizeOfP, run_underlying Try.underlying57, run_underlying Try.underlying56, Sem.run_pure, Result.andThen_ok]
  | _ => rfl
theorem list_appH {ops : Array Oper} {rest : List Oper} {o : Oper} {a : Act} {Q : Exit → Act → World → Prop} (w : World) (hgd : o.guard = none) (s x : Operand) (ho : o.op = .call { callee := .builtin .append, args := #[s, x], argTypes := #[57, 56] })
    (B n : Nat) (v : Value) (xs : List Value) (hs : a.eval s = v) (hown : w.ownsRow B 53 1 v n xs) (ad : Addr) (m c : Nat) (news : List Value) (hx : a.eval x = .slice (some ad) m c) (hl : news.length = m)
    (hc : ∀ j u, news[j]? = some u → w.cell? (ad.add j) = some u) (h1 : ∀ u ∈ news, u.oneCell' = true) (hn : n + m ≤ 1000000) (hB : B ≤ w.heap.size)
    (h : ∀ v' w', w'.ownsRow B 53 1 v' (n + m) (xs ++ news) → w.grownBy w' v.ownBlock → wpList Try.prog ops Q rest (a.put o.dst v') w') : wpList Try.prog ops Q (o :: rest) a w := by
  obtain ⟨i0, hi0, hz0, hz1, hz2⟩ := info_parts infoP1
  refine wpList_plain hgd fun K hK => ?_
  obtain ⟨v', w', hr, h2, h3, _⟩ := run_append_own (P := Try.prog) w B 57 o.type 53 i0 (.slice none 0 0) 1 24 Try.underlying57 hi0 hz0 hz1 hz2 rfl (by decide) v n xs hown ad m c news (by omega) hc h1 (by unfold maxLen; omega) (by omega) hB
  rw [← append_two] at hr
  unfold Oper.wp execOp
  simp only [ho, resolve, invoke, builtin, Sem.run_bind, Sem.run_pure, Result.andThen_ok, List.map_toArray, List.map_cons, List.map_nil, hs, hx, hr]
  exact hK _ _ (h v' w' h2 h3)

/-- A row with room, longer by one. -/
theorem own_more {w : World} {B g n cap : Nat} {e : TypeId} {xs : List Value} (h : w.ownsRow B e 1 (.slice (some ⟨g, 0, none⟩) n cap) n xs) (hc : n + 1 ≤ cap) : ∃ u, w.ownsRow B e 1 (.slice (some ⟨g, 0, none⟩) (n + 1) cap) (n + 1) (xs ++ [u]) := by
  have hl := h.1
  rcases h.2 with ⟨h0, _⟩ | ⟨g', cap', cur, e1, hb, hg, h1, h2, h3, h4⟩
  · cases h0
  · cases e1
    have hlt : n < cur.toList.length := by rw [Array.length_toList]; omega
    refine ⟨cur.toList[n], by rw [List.length_append, hl]; simp, .inr ⟨g, cap, cur, rfl, hb, hg, hc, h2, h3, ?_⟩⟩
    rw [Nat.mul_one] at h4 ⊢
    rw [List.take_add_one, h4, List.getElem?_eq_getElem hlt]
    rfl
theorem put_shift (xs : List Value) (u v : Value) (i : Nat) (hi : i < xs.length) : putAtY (putAtY (xs ++ [u]) (i + 1) (xs.drop i)) i [v] = xs.take i ++ v :: xs.drop i := by
  have e1 : xs ++ [u] = (xs.take i ++ [xs[i]]) ++ ((xs.drop (i + 1) ++ [u]) ++ []) := by
    rw [List.append_nil, ← List.append_assoc, List.append_assoc (xs.take i), List.singleton_append, ← List.drop_eq_getElem_cons hi, List.take_append_drop]
  have l1 : (xs.take i ++ [xs[i]]).length = i + 1 := by rw [List.length_append, List.length_take, List.length_singleton]; omega
  have p1 : putAtY (xs ++ [u]) (i + 1) (xs.drop i) = (xs.take i ++ [xs[i]]) ++ (xs.drop i ++ []) := by
    rw [e1]
    have := putAtY_split (xs.take i ++ [xs[i]]) (xs.drop i) (xs.drop (i + 1) ++ [u]) [] (by rw [List.length_append, List.length_drop, List.length_drop, List.length_singleton]; omega)
    rw [l1] at this
    exact this
  rw [p1, List.append_nil, List.append_assoc]
  have l2 : (xs.take i).length = i := by rw [List.length_take]; omega
  have := putAtY_split (xs.take i) [v] [xs[i]] (xs.drop i) rfl
  rw [l2] at this
  exact this
theorem put_new (xs : List Value) (z v : Value) (i : Nat) (hi : i < xs.length) : putAtY (putAtY (xs.take i ++ List.replicate (xs.length + 1 - i) z) i [v]) (i + 1) (xs.drop i) = xs.take i ++ v :: xs.drop i := by
  have l2 : (xs.take i).length = i := by rw [List.length_take]; omega
  have p1 : putAtY (xs.take i ++ List.replicate (xs.length + 1 - i) z) i [v] = (xs.take i ++ [v]) ++ List.replicate (xs.length - i) z := by
    have := putAtY_split (xs.take i) [v] [z] (List.replicate (xs.length - i) z) rfl
    rw [l2] at this
    rw [show xs.length + 1 - i = (xs.length - i) + 1 by omega, List.replicate_succ, List.append_assoc]
    exact this
  rw [p1]
  have l3 : (xs.take i ++ [v]).length = i + 1 := by rw [List.length_append, l2]; rfl
  have := putAtY_split (xs.take i ++ [v]) (xs.drop i) (List.replicate (xs.length - i) z) [] (by rw [List.length_replicate, List.length_drop])
  rw [l3, List.append_nil, List.append_nil] at this
  rw [this, List.append_assoc]
  rfl
theorem own_drewY {w : World} {B n s : Nat} {v : Value} {e : TypeId} {xs : List Value} (h : w.ownsRow B e s v n xs) : w.drew.ownsRow B e s v n xs := h

/-- What Insert leaves. -/
def InsPost (B n i : Nat) (S v : Value) (xs : List Value) (w : World) (e : Ending) (w' : World) : Prop :=
  ∃ S', e = .returned S' ∧ w'.ownsRow B 53 1 S' (n + 1) (xs.take i ++ v :: xs.drop i) ∧ w.grownBy w' S.ownBlock

set_option maxHeartbeats 1000000 in
theorem insert_end (S v : Value) (n B g2 : Nat) (xs : List Value) (w : World) (h : w.ownsRow B 53 1 S n xs) (hB : B ≤ w.heap.size) (hn : n ≤ 100000) (hc : w.cell? ⟨g2, 0, none⟩ = some v) (h1 : v.oneCell' = true) :
    Calls Try.prog 98 #[S, .int .i64 (n : Int), .slice (some ⟨g2, 0, none⟩) 1 1] w (InsPost B n n S v xs w) := by
  obtain ⟨i0, hi0, hz0, hz1, hz2⟩ := info_parts infoP1
  have hl := h.1
  have OW := Lib.hid h
  have XE : Hid (xs.take n ++ v :: xs.drop n = xs ++ [v]) := Lib.hid (by rw [List.take_of_length_le (by omega), List.drop_eq_nil_of_le (by omega)])
  have CN : Hid (∀ j u, [v][j]? = some u → w.cell? ((⟨g2, 0, none⟩ : Addr).add j) = some u) := Lib.hid (fun j u hj => by
    match j, hj with
    | 0, hj => simp at hj; subst hj; rw [Addr.add_lit]; exact hc)
  have O1 : Hid (∀ u ∈ [v], u.oneCell' = true) := Lib.hid (fun u hu => by rw [List.mem_singleton.1 hu]; exact h1)
  obtain ⟨a, cap, rfl, hsa⟩ : ∃ a cap, S = .slice a n cap ∧ (cap = n ∨ ∃ g, a = some ⟨g, 0, none⟩) := by
    rcases h.2 with ⟨rfl, rfl⟩ | ⟨g, cap, cur, rfl, _⟩
    · exact ⟨none, 0, rfl, .inl rfl⟩
    · exact ⟨_, cap, rfl, .inr ⟨g, rfl⟩⟩
  have hcap : n ≤ cap := by
    rcases h.2 with ⟨e, rfl⟩ | ⟨g, cap', cur, e, _, _, h1, _⟩
    · exact Nat.zero_le _
    · cases e; exact h1
  clear h hc h1
  go_enter Try.func98, Try.ntmps98
  by_cases hcn : cap = n
  · subst hcn
    go_wp2_with (at_builtin; refine list_appH w rfl _ _ rfl B _ _ xs rfl OW.out ⟨g2, 0, none⟩ 1 1 [v] rfl rfl CN.out O1.out (by omega) hB ?_; intro v7 w7 o7 g7)
    go_ret
    exact ⟨v7, rfl, by rw [XE.out]; exact o7, g7⟩
  · have hcn2 : ¬ (cap : Int) = (n : Int) := by omega
    obtain ⟨g, rfl⟩ := hsa.resolve_left hcn
    clear hsa
    go_wp2_with (at_builtin; refine list_appH w rfl _ _ rfl B _ _ xs rfl OW.out ⟨g2, 0, none⟩ 1 1 [v] rfl rfl CN.out O1.out (by omega) hB ?_; intro v7 w7 o7 g7)
    go_ret
    exact ⟨v7, rfl, by rw [XE.out]; exact o7, g7⟩
end Go.Proofs.Ytggebkcmokpcmaa
end
section
namespace Go.Proofs.Ytggebkcmokpcmaa
open Go.RowKit Go.Maps
set_option linter.unusedVariables false
set_option maxRecDepth 100000

theorem isSome_put (b : Nat) (vs : List Value) (o : Nat) (w : World) (h : ∀ j, j < vs.length → (w.cell? ⟨b, o + j, none⟩).isSome = true) (k : Nat) (hk : (w.cell? ⟨b, k, none⟩).isSome = true) : ((w.setCells b o vs).cell? ⟨b, k, none⟩).isSome = true := by
  by_cases hin : o ≤ k ∧ k < o + vs.length
  · have := World.cell?_setCells_in b vs o w h (k - o) (by omega)
    rw [show o + (k - o) = k by omega] at this
    rw [this]; rfl
  · rw [World.cell?_setCells_out b vs o w ⟨b, k, none⟩ (fun _ _ => by show k < o ∨ o + vs.length ≤ k; omega)]
    exact hk

set_option maxHeartbeats 4000000 in
theorem insert_room (g cap : Nat) (v : Value) (n i B g2 : Nat) (xs : List Value) (w : World) (h : w.ownsRow B 53 1 (.slice (some ⟨g, 0, none⟩) n cap) n xs) (hi : i < n) (hroom : n + 1 ≤ cap) (hn : n ≤ 100000)
    (hg2 : w.heap[g2]? = some (.cells #[v] 53 (0, 0))) (hne : g2 ≠ g) (h1 : v.oneCell' = true) (hx1 : ∀ u ∈ xs, u.oneCell' = true) :
    Calls Try.prog 98 #[.slice (some ⟨g, 0, none⟩) n cap, .int .i64 (i : Int), .slice (some ⟨g2, 0, none⟩) 1 1] w (InsPost B n i (.slice (some ⟨g, 0, none⟩) n cap) v xs w) := by
  have hl : xs.length = n := by have := h.1; omega
  obtain ⟨u, hm⟩ := own_more h hroom
  have hcm : cap ≤ maxLen := by
    rcases h.2 with ⟨e, _⟩ | ⟨g', cap', cur, e, _, _, _, h2, _⟩
    · cases e
    · cases e; exact h2
  unfold maxLen at hcm
  have hdl : (xs.drop i).length = n - i := by rw [List.length_drop, hl]
  have hc2 : w.cell? ⟨g2, 0, none⟩ = some v := cell_of_row w g2 0 _ _ (0, 0) hg2
  have cx : ∀ j, (hj : j < n + 1) → w.cell? ⟨g, j, none⟩ = some (xs ++ [u])[j]! := fun j hj => by
    rw [hm.cellAt j (by omega), List.getElem?_eq_getElem (by rw [List.length_append, hl]; exact hj)]
    simp only [Option.some.injEq]
    rw [getElem!_pos]
  have fx : ∀ j, w.frozen? ⟨g, j, none⟩ = false := fun j => World.ownsRow.frozenAt hm j
  have h1d : ∀ y ∈ xs.drop i, y.oneCell' = true := fun y hy => hx1 y (List.mem_of_mem_drop hy)
  have gap : w.cell? ⟨g, 0, none⟩ = some (xs ++ [u])[0]! := cx 0 (by omega)
  obtain ⟨tB, kB, hsb, hkB, _⟩ := World.shape?_of_cell? gap
  have hsa : w.shape? g2 = some (53, 1) := by unfold World.shape?; rw [hg2]; rfl
  have hov : ∀ lb cb, (callFunc 107 #[.slice (some ⟨g2, 0, none⟩) 1 1, .slice (some ⟨g, i + 1, none⟩) lb cb]).run Try.prog w = .ok (.value (.bool false)) w := fun lb cb => by
    rw [run_callFunc_extern Try.func107 (by kernel_rfl) (by kernel_rfl) (by kernel_rfl) (e := Extern.SlicesOverlaps.overlaps #[56, 56] #[4]) (by kernel_rfl),
      Lib.run_overlaps_apart w 56 4 53 Try.underlying56 1 sizeOfP ⟨g2, 0, none⟩ ⟨g, i + 1, none⟩ 1 1 lb cb hne _ tB 1 kB hsa hsb (by show kB ≠ 0; have : (0 : Nat) < kB := hkB; omega) (by simp [World.frozen?, hg2]) (by simp [World.frozen?, hg2])]
    rfl
  obtain ⟨W1, hW1⟩ : ∃ W1, W1 = w.drew.setCells g (i + 1) (xs.drop i) := ⟨_, rfl⟩
  have hsp : ∀ j, j < n + 1 → (w.cell? ⟨g, j, none⟩).isSome = true := fun j hj => by rw [cx j hj]; rfl
  have hcp1 : ∀ ty dc sc, (Builtin.copy_ #[57, 57] ty #[.slice (some ⟨g, i + 1, none⟩) (n - i) dc, .slice (some ⟨g, i, none⟩) (n + 1 - i) sc]).run Try.prog w.drew = .ok (goInt (xs.drop i).length) W1 := fun ty dc sc => by
    rw [hW1]
    exact run_copy_cells w.drew _ _ ty 53 g (i + 1) (n - i) dc ⟨g, i, none⟩ (n + 1 - i) sc (xs.drop i) Try.underlying57 sizeP1 (by rw [hdl]; simp only [Nat.min_def]; split <;> omega)
      (fun j y hj => by
        rw [Addr.add_lit]
        have hjl : j < (xs.drop i).length := (List.getElem?_eq_some_iff.1 hj).1
        rw [hdl] at hjl
        rw [List.getElem?_drop] at hj
        have := h.cellAt (i + j) (by omega)
        rw [hj] at this
        exact this)
      (fun j hj => hsp _ (by omega)) (fun j hj => fx _) h1d
  have hcp2 : ∀ ty dc, (Builtin.copy_ #[57, 56] ty #[.slice (some ⟨g, i, none⟩) (n + 1 - i) dc, .slice (some ⟨g2, 0, none⟩) 1 1]).run Try.prog W1 = .ok (goInt [v].length) (W1.setCells g i [v]) := fun ty dc =>
    run_copy_cells W1 _ _ ty 53 g i (n + 1 - i) dc ⟨g2, 0, none⟩ 1 1 [v] Try.underlying57 sizeP1 (by simp only [List.length_singleton, Nat.min_def]; split <;> omega)
      (fun j y hj => by
        match j, hj with
        | 0, hj =>
          simp at hj
          subst hj
          rw [Addr.add_lit, hW1, World.cell?_setCells_out g _ _ _ _ (fun h _ => absurd h hne)]
          exact hc2)
      (fun j hj => by
        rw [hW1]
        exact isSome_put g (xs.drop i) (i + 1) w.drew (fun t ht => hsp (i + 1 + t) (by rw [hdl] at ht; omega)) (i + j) (hsp (i + j) (by simp at hj; omega)))
      (fun j hj => by rw [hW1, World.frozen?_setCells]; exact fx _) (fun y hy => by rw [List.mem_singleton.1 hy]; exact h1)
  have P1 := own_setCellsY (xs.drop i) (i + 1) w.drew _ (own_drewY hm)
  rw [← hW1] at P1
  have P2 := own_setCellsY [v] i W1 _ P1.1
  rw [put_shift xs u v i (by omega)] at P2
  have FIN : Hid (InsPost B n i (.slice (some ⟨g, 0, none⟩) n cap) v xs w (.returned (.slice (some ⟨g, 0, none⟩) (n + 1) cap)) (W1.setCells g i [v])) := Lib.hid ⟨_, rfl, P2.1, (World.grownBy.trans (World.grownBy.trans (b := w.drew) ⟨rfl, rfl, rfl, Nat.le_refl _, fun _ _ _ => rfl⟩ P1.2) P2.2)⟩
  have hin : (i : Int) ≤ (n : Int) := by omega
  have hz2 : ¬ ((i : Int) = (n : Int)) := by omega
  have hz3 : ¬ (cap : Int) < (n : Int) + 1 := by omega
  have hw1 : IntKind.i64.wrap ((i : Int) + 1) = (i : Int) + 1 := by rw [IntKind.wrap_i64]; omega
  have hb1 : (0 : Int) ≤ (i : Int) + 1 := by omega
  have htn : ((i : Int) + 1).toNat = i + 1 := by omega
  have hb2 : ¬ (cap = i + 1) := by omega
  have hb3 : (i : Int) ≤ (n : Int) + 1 := by omega
  have hb4 : ¬ (cap = i) := by omega
  have hb5 : (i : Int) + 1 ≤ (n : Int) + 1 := by omega
  have hb6 : (n : Int) + 1 ≤ (cap : Int) := by omega
  clear P1 P2 hW1 hsp hsa hsb hkB gap cx fx h1d hc2 hg2 hm h hx1 h1 hdl hroom
  go_enter Try.func98, Try.ntmps98
  go_wp2_with (simp only [hov])
  go_region_law (refine step_copyH rfl _ _ 57 57 rfl _ _ _ _ (by simp [Act.eval, Act.put]) (by simp [Act.eval, Act.put]) (hcp1 _ _ _) ?_)
  all_goals
    go_wp2_with (at_builtin; refine list_copyH rfl _ _ 57 56 rfl _ _ _ _ rfl rfl (hcp2 _ _) ?_)
    go_ret
    exact FIN.out
end Go.Proofs.Ytggebkcmokpcmaa
end
section
namespace Go.Proofs.Ytggebkcmokpcmaa
open Go.RowKit Go.Maps
set_option linter.unusedVariables false
set_option maxRecDepth 100000

theorem zeros_list (n : Nat) : (Builtin.zeroCells (Value.slice none 0 0).cells n).toList = List.replicate n (Value.slice none 0 0) := by
  unfold Builtin.zeroCells
  show ((Array.range (n * 1)).map fun i => (#[Value.slice none 0 0] : Array Value)[i % 1]!).toList = _
  rw [Nat.mul_one, Array.toList_map, Array.toList_range]
  refine List.eq_replicate_iff.2 ⟨by simp, fun y hy => ?_⟩
  obtain ⟨k, _, rfl⟩ := List.mem_map.1 hy
  rw [Nat.mod_one]
  rfl

set_option maxHeartbeats 4000000 in
theorem insert_grow (g cap : Nat) (v : Value) (n i B g2 : Nat) (xs : List Value) (w : World) (h : w.ownsRow B 53 1 (.slice (some ⟨g, 0, none⟩) n cap) n xs) (hi : i < n) (hroom : cap < n + 1) (hn : n ≤ 100000) (hB : B ≤ w.heap.size)
    (hg2 : w.heap[g2]? = some (.cells #[v] 53 (0, 0))) (h1 : v.oneCell' = true) (hx1 : ∀ u ∈ xs, u.oneCell' = true) :
    Calls Try.prog 98 #[.slice (some ⟨g, 0, none⟩) n cap, .int .i64 (i : Int), .slice (some ⟨g2, 0, none⟩) 1 1] w (InsPost B n i (.slice (some ⟨g, 0, none⟩) n cap) v xs w) := by
  obtain ⟨i0, hi0, hz0, hzs, hzb⟩ := info_parts infoP1
  have hl : xs.length = n := by have := h.1; omega
  have hnc : n ≤ cap := by
    rcases h.2 with ⟨e, _⟩ | ⟨g', cap', cur, e, _, _, h2, _, _⟩
    · cases e
    · cases e; exact h2
  obtain rfl : cap = n := by omega
  have hgl : g < w.heap.size := (h.lt g rfl).2
  have hg2l : g2 < w.heap.size := (Array.getElem?_eq_some_iff.1 hg2).1
  have hdl : (xs.drop i).length = cap - i := by rw [List.length_drop, hl]
  have hc2 : w.cell? ⟨g2, 0, none⟩ = some v := cell_of_row w g2 0 _ _ (0, 0) hg2
  have cx : ∀ j y, xs[j]? = some y → w.cell? ⟨g, j, none⟩ = some y := fun j y hy => by
    have hj : j < xs.length := (List.getElem?_eq_some_iff.1 hy).1
    rw [h.cellAt j (by omega), hy]
  have hold : (Builtin.firstCells i0.size i (.slice (some ⟨g, 0, none⟩) i cap)).run Try.prog w.drew = .ok (xs.take i).toArray w.drew := by
    rw [hzs]
    exact run_firstCells_some w.drew 1 i ⟨g, 0, none⟩ i cap (xs.take i) (by rw [List.length_take]; omega) (fun j y hj => by
      rw [Addr.add_lit, Nat.zero_add]
      rw [List.getElem?_take] at hj
      split at hj
      · exact cx j y hj
      · cases hj)
  obtain ⟨G, hG⟩ : ∃ G, G = grownCap w (cap + 1) cap 53 := ⟨_, rfl⟩
  obtain ⟨ROW, hROW⟩ : ∃ ROW : Array Value, ROW = (xs.take i).toArray ++ Builtin.zeroCells (Value.slice none 0 0).cells (cap + 1 - i) ++ Builtin.zeroCells (Value.slice none 0 0).cells (G - (cap + 1)) := ⟨_, rfl⟩
  obtain ⟨W1, hW1⟩ : ∃ W1, W1 = w.drew.alloc (.cells ROW 53) := ⟨_, rfl⟩
  have hrz : ∀ ty, (Builtin.append_ #[57, 3] ty #[.slice (some ⟨g, 0, none⟩) i cap, .int .i64 ((cap : Int) + 1 - (i : Int))]).run Try.prog w = .ok (.slice (some ⟨w.heap.size, 0, none⟩) (cap + 1) G) W1 := fun ty => by
    have hh := Lib.run_append_grow_zeros w 57 3 ty 53 i0 _ .i64 .i64 Try.underlying57 Try.underlying3 hi0 hz0 (some ⟨g, 0, none⟩) i cap (xs.take i) hold (cap + 1 - i) (by omega) (by omega) (by omega) (by omega) (by rw [hzb]; omega) (by rw [hzb, show i + (cap + 1 - i) = cap + 1 by omega]; exact growslice_fits (by omega) (by omega))
    rw [show i + (cap + 1 - i) = cap + 1 by omega, ← hG, ← hROW, ← hW1] at hh
    rw [show (cap : Int) + 1 - (i : Int) = ((cap + 1 - i : Nat) : Int) by omega]
    exact hh
  have hGn : cap + 1 ≤ G := by rw [hG]; exact grownCap_ge w _ _ _
  have hGm : G ≤ maxLen := by rw [hG]; exact grownCap_le_maxLen w (cap + 1) cap 53 (by unfold maxLen; omega)
  have hzc : ∀ k, (Builtin.zeroCells (Value.slice none 0 0).cells k).size = k := fun k => by rw [size_zeroCells]; exact Nat.mul_one k
  have hRs : ROW.size = G := by
    rw [hROW, Array.size_append, Array.size_append, hzc, hzc]
    simp
    omega
  have hRt : ROW.toList.take (cap + 1) = xs.take i ++ List.replicate (xs.length + 1 - i) (Value.slice none 0 0) := by
    rw [hROW, Array.toList_append, Array.toList_append]
    rw [List.take_append_of_le_length (by rw [List.length_append, Array.length_toList, Array.length_toList, hzc]; simp; omega)]
    rw [List.take_of_length_le (by rw [List.length_append, Array.length_toList, Array.length_toList, hzc]; simp; omega), zeros_list, hl]
  have O1 : W1.ownsRow B 53 1 (.slice (some ⟨w.heap.size, 0, none⟩) (cap + 1) G) (cap + 1) (xs.take i ++ List.replicate (xs.length + 1 - i) (Value.slice none 0 0)) := by
    refine ⟨by rw [List.length_append, List.length_take, List.length_replicate]; omega, .inr ⟨w.heap.size, G, ROW, rfl, hB, by rw [hW1]; exact heap_alloc_new w.drew _, hGn, hGm, by omega, by rw [Nat.mul_one]; exact hRt⟩⟩
  have hN : ∀ j, j < cap + 1 → (W1.cell? ⟨w.heap.size, j, none⟩).isSome = true := fun j hj => by
    rw [O1.cellAt j (by omega), List.getElem?_eq_getElem (by rw [List.length_append, List.length_take, List.length_replicate]; omega)]
    rfl
  have hNf : ∀ j, W1.frozen? ⟨w.heap.size, j, none⟩ = false := fun j => World.ownsRow.frozenAt O1 j
  have b1 : w.grownBy W1 (some g) := by rw [hW1]; exact ⟨rfl, rfl, rfl, by simp, fun k hk _ => heap_alloc_old w.drew _ hk⟩
  have hO : ∀ q j y, q < w.heap.size → w.cell? ⟨q, j, none⟩ = some y → W1.cell? ⟨q, j, none⟩ = some y := fun q j y hq hy => by
    rw [hW1]
    exact (((Below.refl w.heap.size w.drew).alloc (Nat.le_refl _) _).cell (p := ⟨q, j, none⟩) hq).trans hy
  obtain ⟨W2, hW2⟩ : ∃ W2, W2 = W1.setCells w.heap.size i [v] := ⟨_, rfl⟩
  have hcpA : ∀ ty dc, (Builtin.copy_ #[57, 56] ty #[.slice (some ⟨w.heap.size, i, none⟩) (cap + 1 - i) dc, .slice (some ⟨g2, 0, none⟩) 1 1]).run Try.prog W1 = .ok (goInt [v].length) W2 := fun ty dc => by
    rw [hW2]
    exact run_copy_cells W1 _ _ ty 53 w.heap.size i (cap + 1 - i) dc ⟨g2, 0, none⟩ 1 1 [v] Try.underlying57 sizeP1 (by simp only [List.length_singleton, Nat.min_def]; split <;> omega)
      (fun j y hj => by
        match j, hj with
        | 0, hj =>
          simp at hj
          subst hj
          rw [Addr.add_lit]
          exact hO g2 0 _ hg2l hc2)
      (fun j hj => hN _ (by simp at hj; omega)) (fun j hj => hNf _) (fun y hy => by rw [List.mem_singleton.1 hy]; exact h1)
  obtain ⟨W3, hW3⟩ : ∃ W3, W3 = W2.drew.setCells w.heap.size (i + 1) (xs.drop i) := ⟨_, rfl⟩
  have hgN : g ≠ w.heap.size := by omega
  have hcpB : ∀ ty dc sc, (Builtin.copy_ #[57, 57] ty #[.slice (some ⟨w.heap.size, i + 1, none⟩) (cap - i) dc, .slice (some ⟨g, i, none⟩) (cap - i) sc]).run Try.prog W2.drew = .ok (goInt (xs.drop i).length) W3 := fun ty dc sc => by
    rw [hW3]
    exact run_copy_cells W2.drew _ _ ty 53 w.heap.size (i + 1) (cap - i) dc ⟨g, i, none⟩ (cap - i) sc (xs.drop i) Try.underlying57 sizeP1 (by rw [hdl]; simp only [Nat.min_def]; split <;> omega)
      (fun j y hj => by
        rw [Addr.add_lit]
        show W2.cell? ⟨g, i + j, none⟩ = some y
        rw [hW2, World.cell?_setCells_out _ _ _ _ _ (fun h _ => absurd h hgN)]
        rw [List.getElem?_drop] at hj
        exact hO g _ y hgl (cx _ y hj))
      (fun j hj => by
        show (W2.cell? ⟨w.heap.size, i + 1 + j, none⟩).isSome = true
        rw [hW2]
        exact isSome_put w.heap.size [v] i W1 (fun t ht => hN (i + t) (by simp at ht; omega)) (i + 1 + j) (hN _ (by rw [hdl] at hj; omega)))
      (fun j hj => by
        show W2.frozen? ⟨w.heap.size, i + 1 + j, none⟩ = false
        rw [hW2, World.frozen?_setCells]; exact hNf _) (fun y hy => hx1 y (List.mem_of_mem_drop hy))
  have P1 := own_setCellsY [v] i W1 _ O1
  rw [← hW2] at P1
  have P2 := own_setCellsY (xs.drop i) (i + 1) W2.drew _ (own_drewY P1.1)
  rw [← hW3, put_new xs _ v i (by omega)] at P2
  have FIN : Hid (InsPost B cap i (.slice (some ⟨g, 0, none⟩) cap cap) v xs w (.returned (.slice (some ⟨w.heap.size, 0, none⟩) (cap + 1) G)) W3) := Lib.hid ⟨_, rfl, P2.1, by
    refine ⟨?_, ?_, ?_, ?_, fun k hk hne => ?_⟩
    · exact (P2.2.os.trans P1.2.os).trans b1.os
    · exact (P2.2.tape.trans P1.2.tape).trans b1.tape
    · exact (P2.2.output.trans P1.2.output).trans b1.output
    · exact Nat.le_trans b1.size (Nat.le_trans P1.2.size P2.2.size)
    · have k1 := Nat.lt_of_lt_of_le hk b1.size
      have k2 : k < W2.drew.heap.size := Nat.lt_of_lt_of_le k1 P1.2.size
      have kn : some k ≠ some w.heap.size := by simp; omega
      exact (P2.2.block k k2 kn).trans ((P1.2.block k k1 kn).trans (b1.block k hk hne))⟩
  have hGi : ¬ (G = i) := by omega
  have hGi2 : ¬ (G = i + 1) := by omega
  have hci : ¬ (cap = i) := by omega
  have hz2 : ¬ ((i : Int) = (cap : Int)) := by omega
  have hz3 : (cap : Int) < (cap : Int) + 1 := by omega
  have hin : (i : Int) ≤ (cap : Int) := by omega
  have hw1 : IntKind.i64.wrap ((i : Int) + 1) = (i : Int) + 1 := by rw [IntKind.wrap_i64]; omega
  have hb1 : (0 : Int) ≤ (i : Int) + 1 := by omega
  have htn : ((i : Int) + 1).toNat = i + 1 := by omega
  have hb3 : (i : Int) ≤ (cap : Int) + 1 := by omega
  have hb5 : (i : Int) + 1 ≤ (cap : Int) + 1 := by omega
  clear P1 P2 hW1 hW2 hW3 hN hNf hO O1 hRt hRs hzc hROW hG hold cx hc2 hg2 h hx1 h1 hdl hroom b1 hGm hnc hgN
  go_enter Try.func98, Try.ntmps98
  go_wp2_with (first
    | (at_builtin; refine Lib.wpList_append_run _ rfl _ _ _ _ rfl _ _ rfl rfl _ _ (hrz _) ?_)
    | (at_builtin; refine list_copyH rfl _ _ 57 56 rfl _ _ _ _ rfl rfl (hcpA _ _) ?_))
  go_region_law (refine step_copyH rfl _ _ 57 57 rfl _ _ _ _ (by simp [Act.eval, Act.put]) (by simp [Act.eval, Act.put]) (hcpB _ _ _) ?_)
  all_goals
    go_wp2_with fail
    go_ret
    exact FIN.out

/-- All roads. -/
theorem insert_any (S v : Value) (n i B g2 : Nat) (xs : List Value) (w : World) (h : w.ownsRow B 53 1 S n xs) (hi : i ≤ n) (hn : n ≤ 100000) (hB : B ≤ w.heap.size)
    (hg2 : w.heap[g2]? = some (.cells #[v] 53 (0, 0))) (hne : S.ownBlock ≠ some g2) (h1 : v.oneCell' = true) (hx1 : ∀ u ∈ xs, u.oneCell' = true) :
    Calls Try.prog 98 #[S, .int .i64 (i : Int), .slice (some ⟨g2, 0, none⟩) 1 1] w (InsPost B n i S v xs w) := by
  by_cases hin : i = n
  · subst hin
    exact insert_end S v i B g2 xs w h hB hn (cell_of_row w g2 0 _ _ (0, 0) hg2) h1
  · rcases h.2 with ⟨_, h0⟩ | ⟨g, cap, cur, rfl, _⟩
    · omega
    · by_cases hr : n + 1 ≤ cap
      · exact insert_room g cap v n i B g2 xs w h (by omega) hr hn hg2 (fun e => hne (by rw [e]; rfl)) h1 hx1
      · exact insert_grow g cap v n i B g2 xs w h (by omega) (by omega) hn hB hg2 h1 hx1
end Go.Proofs.Ytggebkcmokpcmaa
end
