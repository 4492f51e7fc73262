/-
  Joined: HImD.
-/
import Derived.Test.YtggebkcmokpcmaaZbleMonomials01
import Derived.Laws.AppendOwnNone
section
namespace Go.Proofs.Ytggebkcmokpcmaa
open Go.RowKit Go.Maps
set_option linter.unusedVariables false
set_option maxRecDepth 100000

/-- What can be joined. -/
def SrcY (w : World) (v : Value) (L : List (List Int)) : Prop := (v = .slice none 0 0 ∧ L = []) ∨ RdC w v L
theorem SrcY.below {w w' : World} {v : Value} {L : List (List Int)} (h : SrcY w v L) (k : Below w.heap.size w w') : SrcY w' v L := by
  rcases h with h | h
  · exact .inl h
  · exact .inr (h.below k)
theorem SrcY.of_own {w : World} {B : Nat} {v : Value} {L : List (List Int)} (h : OwnY w B v (L.map pwK)) (h4 : ∀ z ∈ L, z.length = 4) : SrcY w v L := by
  by_cases hne : L = []
  · subst hne
    rcases h.2 with ⟨e, _⟩ | ⟨g, cap, cur, rfl, hb, hg, h1, h2, h3, h5⟩
    · exact .inl ⟨e, rfl⟩
    · exact .inr ⟨g, 0, cap, rfl, Nat.zero_le _, h2, (Array.getElem?_eq_some_iff.1 hg).1, fun i hi => absurd hi (Nat.not_lt_zero _)⟩
  · exact .inr (RdC.of_own h h4 hne)
theorem SrcY.shape {w : World} {v : Value} {L : List (List Int)} (h : SrcY w v L) : ∃ a c, v = .slice a L.length c := by
  rcases h with ⟨rfl, rfl⟩ | ⟨b, off, cap, rfl, _⟩
  · exact ⟨none, 0, rfl⟩
  · exact ⟨_, cap, rfl⟩
theorem SrcY.src {w : World} {a : Option Addr} {c : Nat} {L : List (List Int)} (h : SrcY w (.slice a L.length c) L) (h4 : ∀ z ∈ L, z.length = 4) :
    (a = none ∧ L.length = 0 ∧ c = 0) ∨ ∃ ad, a = some ad ∧ ∀ j u, ((L.map pwK).flatMap Array.toList)[j]? = some u → w.cell? (ad.add j) = some u := by
  rcases h with ⟨e, rfl⟩ | h
  · cases e; exact .inl ⟨rfl, rfl, rfl⟩
  · obtain ⟨ad, c', e, hs⟩ := h.src h4
    cases e
    exact .inr ⟨ad, rfl, hs w (Below.refl _ _)⟩

theorem wpList_pows {ops : Array Oper} {rest : List Oper} {o : Oper} {a : Act} {Q : Exit → Act → World → Prop} (w : World) (hgd : o.guard = none) (s x : Operand) (ho : o.op = .call { callee := .builtin .append, args := #[s, x], argTypes := #[53, 53] })
    (B n : Nat) (v : Value) (xs : List Value) (hs : a.eval s = v) (hown : w.ownsRow B 71 4 v n xs) (ap : Option Addr) (m c : Nat) (news : List Value) (hx : a.eval x = .slice ap m c)
    (hsrc : (ap = none ∧ m = 0 ∧ c = 0) ∨ ∃ ad, ap = some ad ∧ ∀ j u, news[j]? = some u → w.cell? (ad.add j) = some u) (hl : news.length = m * 4) (h1 : ∀ u ∈ news, u.oneCell' = true) (hn : n + m ≤ 1000000) (hB : B ≤ w.heap.size)
    (h : ∀ v' w', w'.ownsRow B 71 4 v' (n + m) (xs ++ news) → w.grownBy w' v.ownBlock → wpList Try.prog ops Q rest (a.put o.dst v') w') : wpList Try.prog ops Q (o :: rest) a w := by
  obtain ⟨i0, hi, hz0, hz1, hz2⟩ := info_parts infoEY
  rcases hsrc with ⟨rfl, rfl, rfl⟩ | ⟨ad, rfl, hc⟩
  · have hnews : news = [] := List.eq_nil_of_length_eq_zero (by omega)
    subst hnews
    exact wpList_append_own_none hgd s x 53 ho B 71 i0 4 Try.underlying53 hi v n xs hs hown hx (h v w (by simpa using hown) (World.grownBy.refl w _))
  · exact wpList_append_own w hgd s x 53 ho B 71 i0 (.agg #[Value.int .i64 0, Value.int .i64 0, Value.int .i64 0, Value.int .i64 0]) 4 32 Try.underlying53 hi hz0 hz1 hz2 rfl (by decide) v n xs hs hown ad m c news hx (by omega) hc h1 (by unfold maxLen; omega) (by omega) hB
      (fun v' w' h2 h3 _ => h v' w' h2 h3)
theorem flat_one (L : List (List Int)) : ∀ u ∈ (L.map pwK).flatMap Array.toList, u.oneCell' = true := fun u hu => by
  obtain ⟨k, hk, hu⟩ := List.mem_flatMap.1 hu
  obtain ⟨z, _, rfl⟩ := List.mem_map.1 hk
  rw [pwK_toList] at hu
  obtain ⟨x, _, rfl⟩ := List.mem_map.1 hu
  rfl
theorem flat_len4 (L : List (List Int)) (h4 : ∀ z ∈ L, z.length = 4) : ((L.map pwK).flatMap Array.toList).length = L.length * 4 := by
  rw [flat4_len (s := 4) (fun k hk => by obtain ⟨z, hz, rfl⟩ := List.mem_map.1 hk; rw [pwK_size, h4 z hz]), List.length_map]
theorem ownY_app {w : World} {B : Nat} {v : Value} {Z L : List (List Int)} (h : w.ownsRow B 71 4 v (Z.length + L.length) ((Z.map pwK).flatMap Array.toList ++ (L.map pwK).flatMap Array.toList)) : w.ownsRow B 71 4 v (Z ++ L).length (((Z ++ L).map pwK).flatMap Array.toList) := by
  rw [List.map_append, List.length_append, List.flatMap_append]
  exact h

set_option maxHeartbeats 1000000 in
theorem concatY_any (g : Nat) (Ls : List (List (List Int))) (vs : Nat → Value) (w : World) (hn : Ls.length ≤ 10) (hg : ∀ i, i < Ls.length → w.cell? ⟨g, i, none⟩ = some (vs i)) (hs : ∀ i (h : i < Ls.length), SrcY w (vs i) Ls[i]) (h4 : ∀ L ∈ Ls, ∀ z ∈ L, z.length = 4) (hl : ∀ L ∈ Ls, L.length ≤ 5000) :
    Calls Try.prog 103 #[.slice (some ⟨g, 0, none⟩) Ls.length Ls.length] w (MonsRes Ls.flatten w) := by
  have HG := Lib.hid hg
  have HS := Lib.hid hs
  have H4 := Lib.hid h4
  have HL := Lib.hid hl
  have LN : Hid (∀ i, ((Ls.take i).flatten).length ≤ i * 5000) := Lib.hid (fun i => by
    induction i with
    | zero => simp
    | succ i ih =>
      by_cases h : i < Ls.length
      · rw [List.take_add_one, List.getElem?_eq_getElem h, Option.toList_some, List.flatten_append, List.length_append]
        have := hl _ (List.getElem_mem h)
        rw [List.flatten_cons, List.flatten_nil, List.append_nil]
        omega
      · rw [List.take_of_length_le (by omega)]
        rw [List.take_of_length_le (by omega)] at ih
        omega)
  have NX : Hid (∀ i (h : i < Ls.length), (Ls.take (i + 1)).flatten = (Ls.take i).flatten ++ Ls[i]) := Lib.hid (fun i h => by
    rw [List.take_add_one, List.getElem?_eq_getElem h, Option.toList_some, List.flatten_append]; simp)
  have GR := Lib.hid (grow4_nil (Ls.flatten.length) w (by have := LN.out Ls.length; rw [List.take_length] at this; omega))
  clear hg hs h4 hl
  go_enter Try.func103, Try.ntmps103
  go_wp2_with fail
  go_loopw [3, 5, 11] (fun t _ c wr => ∃ i : Nat, i ≤ Ls.length ∧ c = .int .i64 i ∧ t = .int .i64 (((Ls.take i).flatten.length : Nat) : Int) ∧ Hid (wr = w)) (fun _ _ c _ => Ls.length - (intOf c).toNat)
  case atStart => exact ⟨0, by omega, rfl, rfl, Lib.hid rfl⟩
  case round =>
    obtain ⟨i, hi, rfl, rfl, hw⟩ := hrel
    by_cases hlt : i < Ls.length
    · have hlt' : (i : Int) < (Ls.length : Int) := by omega
      have c1 : wr.cell? ⟨g, i, none⟩ = some (vs i) := by rw [hw.out]; exact HG.out i hlt
      obtain ⟨a1, cp1, e1⟩ := (HS.out i hlt).shape
      rw [e1] at c1
      have NX1 := NX.out i hlt
      have hL := HL.out _ (List.getElem_mem hlt)
      have hT := LN.out i
      have NL : Hid ((((Ls.take (i + 1)).flatten.length : Nat) : Int) = ((Ls.take i).flatten.length : Int) + (Ls[i].length : Int)) := Lib.hid (by rw [NX1, List.length_append]; push_cast; rfl)
      generalize Ls[i] = L at *
      generalize ((Ls.take i).flatten).length = t at *
      have hw1 : wrap64 ((t : Int) + (L.length : Int)) = (t : Int) + (L.length : Int) := wrap_sm (by omega) (by omega)
      have hng : ¬ (t : Int) + (L.length : Int) < 0 := by omega
      clear NX1 e1
      go_wp2_with fail
      go_roundw
      case rel => exact ⟨i + 1, by omega, by go_num, by rw [NL.out], hw⟩
      case measure => simp [intOf]; omega
    · obtain rfl : i = Ls.length := by omega
      rw [List.take_length]
      have e := hw.out
      subst e
      generalize hFL : Ls.flatten.length = t at *
      have HFL := Lib.hid hFL
      clear hFL hw
      go_wp2_with fail
      refine GR.out.mono ?_
      rintro e w1 ⟨u, rfl, ou, b1⟩
      have O0 : Hid (w1.ownsRow wr.heap.size 71 4 u (Ls.take 0).flatten.length (((Ls.take 0).flatten.map pwK).flatMap Array.toList)) := Lib.hid (by simpa using ou)
      have B1 := Lib.hid b1
      obtain ⟨wo, hwo⟩ : ∃ wo, wo = wr := ⟨_, rfl⟩
      subst hwo
      clear ou b1 GR
      go_wp2_with fail
      go_loopw [6, 8, 27] (fun S _ c wr => ∃ i : Nat, i ≤ Ls.length ∧ c = .int .i64 i ∧ Hid (wr.ownsRow wo.heap.size 71 4 S (Ls.take i).flatten.length (((Ls.take i).flatten.map pwK).flatMap Array.toList)) ∧ Hid (Below wo.heap.size wo wr)) (fun _ _ c _ => Ls.length - (intOf c).toNat)
      case atStart => exact ⟨0, by omega, rfl, O0, B1⟩
      case round =>
        clear O0 B1
        obtain ⟨i, hi, rfl, hO, hB⟩ := hrel
        by_cases hlt : i < Ls.length
        · have hlt' : (i : Int) < (Ls.length : Int) := by omega
          have hc1 := HG.out i hlt
          have c1 : wr.cell? ⟨g, i, none⟩ = some (vs i) := (hB.out.cell (p := ⟨g, i, none⟩) (World.block_lt_of_cell? wo _ hc1)).trans hc1
          have sr := (HS.out i hlt).below hB.out
          obtain ⟨a1, cp1, e1⟩ := sr.shape
          rw [e1] at c1 sr
          have SR := Lib.hid (sr.src (H4.out _ (List.getElem_mem hlt)))
          have NX1 := Lib.hid (NX.out i hlt)
          have FL := Lib.hid (flat_len4 Ls[i] (H4.out _ (List.getElem_mem hlt)))
          have FO := Lib.hid (flat_one Ls[i])
          have hL := HL.out _ (List.getElem_mem hlt)
          have hT := LN.out i
          generalize Ls[i] = L at *
          generalize (Ls.take i).flatten = Z at *
          clear hc1 sr e1
          go_wp2_with (at_builtin; refine wpList_pows wr rfl _ _ rfl wo.heap.size Z.length _ ((Z.map pwK).flatMap Array.toList) rfl hO.out a1 L.length cp1 ((L.map pwK).flatMap Array.toList) rfl SR.out FL.out FO.out (by omega) hB.out.size ?_; intro v2 w2 ho2 hg2; have O2 := Lib.hid (ownY_app ho2); have B2 := Lib.hid (hB.out.grown hg2 hB.out.size (fun q hq => (hO.out.lt q hq).1)); clear ho2 hg2)
          rw [← NX1.out] at O2
          go_roundw
          case rel => exact ⟨i + 1, by omega, by go_num, O2, B2⟩
          case measure => simp [intOf]; omega
        · obtain rfl : i = Ls.length := by omega
          rw [List.take_length] at hO
          have O9 : Hid (OwnY wr wo.heap.size u6 (Ls.flatten.map pwK)) := Lib.hid (by unfold OwnY; rw [List.length_map]; exact hO.out)
          clear hO
          go_wp2_with fail
          go_ret
          exact ⟨_, rfl, O9.out, hB.out⟩
end Go.Proofs.Ytggebkcmokpcmaa
end
