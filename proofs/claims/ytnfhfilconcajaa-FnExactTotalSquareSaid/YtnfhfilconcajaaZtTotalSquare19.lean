/-
  Joined: WPutC, SFront.
-/
import Derived.Test.YtnfhfilconcajaaZtTotalSquare18
import Derived.Test.YtnfhfilconcajaaZtTotalSquare17
section
namespace Go.Proofs.Ytnfhfilconcajaa
open Go.RowKit
set_option linter.unusedVariables false
set_option maxRecDepth 100000

set_option maxHeartbeats 2000000 in
theorem put_nil (v : Value) (x : List Int) (B B2 : Nat) (w : World) (hv : w.ownsRow B2 2 1 v x.length (x.map (Value.int .i64))) (hx : x.length ≤ 1000000) (hB : B ≤ w.heap.size) :
    Calls Try.prog 89 #[.slice none 0 0, v] w fun e w' => ∃ V' VS', e = .returned V' ∧ FamL w' B V' VS' [x] ∧ Sep [x].length VS' ∧ Below w.heap.size w w' := by
  have HV := Lib.hid hv
  clear hv
  go_enter Try.func89, Try.ntmps89
  go_wp2_with fail
  refine wp_loop_rounds 1 ?_
  rw [rounds_succ]
  have OWN := Lib.hid (ownAny v x B2 w.drew hx HV.out)
  go_wp2_with fail
  go_region_law (first
    | (go_simp; go_at_call 84; refine OWN.out.mono ?_; rintro e w7 ⟨u, rfl, hu, hb7⟩; obtain ⟨ua, uc, rfl, _⟩ := own_len hu; have HU : Hid (w7.ownsRow w.heap.size 2 1 (.slice ua x.length uc) x.length (x.map (Value.int .i64))) := Lib.hid hu; have B7 := Lib.hid ((Below.refl _ w).drew.trans hb7); have B8 := Lib.hid ((Below.refl w7.heap.size w7).alloc (Nat.le_refl _) (.cells #[.slice ua x.length uc] 53)); have OWS : Hid ((w7.alloc (.cells #[.slice ua x.length uc] 53)).ownsRow w7.heap.size 53 1 (.slice (some ⟨w7.heap.size, 0, none⟩) 1 1) 1 [.slice ua x.length uc]) := Lib.hid (own_one w7 _ _); clear hu hb7)
    | (refine step_rows (by rfl) _ _ (by rfl) w7.heap.size 1 (.slice (some ⟨w7.heap.size, 0, none⟩) 1 1) [.slice ua x.length uc] (by rfl) OWS.out _ 0 0 [] (by rfl) (.inl ⟨by rfl, rfl, rfl⟩) rfl (fun u hu => by cases hu) (by omega) B8.out.size ?_; intro v9 w9 ho9 hg9; obtain ⟨g9, c9, rfl, _, _⟩ := ho9.form (by omega); have Q9 := Lib.hid ho9; have B9 := Lib.hid (B8.out.grown hg9 B8.out.size (fun q hq => by cases hq; exact Nat.le_refl _)); clear ho9 hg9))
  have AP10 : Hid ((Value.slice (some ⟨g9, 0, none⟩) (1 + 0) c9).ownBlock = none ∨ (Value.slice (some ⟨g9, 0, none⟩) (1 + 0) c9).ownBlock ≠ (Value.slice (some ⟨w9.heap.size, 0, none⟩) 0 0).ownBlock) := Lib.hid (.inr (by have := (Q9.out.lt g9 rfl).2; simp [Value.ownBlock]; omega))
  have B10 := Lib.hid (B9.out.alloc B9.out.size (.cells #[] 53))
  have OW10 : Hid ((w9.alloc (.cells #[] 53)).ownsRow w7.heap.size 53 1 (.slice (some ⟨w9.heap.size, 0, none⟩) 0 0) 0 []) := Lib.hid (own_base (World.ownsRow_made w9 #[] 0 (Nat.le_refl _) (Nat.zero_le _) (by simp)) B9.out.size)
  have Q10 := Lib.hid (Q9.out.alloc (.cells #[] 53))
  have ONE9 : Hid (∀ u ∈ [Value.slice ua x.length uc], u.oneCell' = true) := Lib.hid fun u hu => by rw [List.mem_singleton.1 hu]; rfl
  go_wp2_with (first
    | (at_builtin; refine wpList_rows _ rfl _ _ rfl w7.heap.size 0 (.slice (some ⟨w9.heap.size, 0, none⟩) 0 0) [] rfl OW10.out none 0 0 [] rfl (.inl ⟨rfl, rfl, rfl⟩) rfl (fun u hu => by cases hu) (by omega) B10.out.size ?_; intro v11 w11 ho11 hg11; have Q11 : Hid (w11.ownsRow w7.heap.size 53 1 v11 0 []) := Lib.hid (by simpa using ho11); have B11 := Lib.hid (B10.out.grown hg11 B10.out.size (fun q hq => by cases hq; exact B9.out.size)); have R11 := Lib.hid (Q10.out.kept hg11 AP10.out); clear ho11 hg11)
    | (at_builtin; refine wpList_rows _ rfl _ _ rfl w7.heap.size 0 v11 [] rfl Q11.out (some ⟨g9, 0, none⟩) 1 c9 [.slice ua x.length uc] rfl (.inr ⟨_, rfl, own_src (n := 1) (by simpa using R11.out)⟩) rfl ONE9.out (by omega) B11.out.size ?_; intro v12 w12 ho12 hg12; have Q12 := Lib.hid ho12; have B12 := Lib.hid (B11.out.grown hg12 B11.out.size (fun q hq => (Q11.out.lt q hq).1)); clear ho12 hg12))
  go_ret
  have BW12 := Lib.hid (B7.out.trans (B12.out.mono B7.out.size))
  refine ⟨_, fun _ => Value.slice ua x.length uc, rfl, ⟨own_base (by simpa [List.range_succ] using Q12.out) (Nat.le_trans hB B7.out.size), fun i hi => ?_⟩, fun i j hi hj hij => ?_, BW12.out⟩
  · have e : i = 0 := by simp at hi; exact hi
    subst e
    exact own_base (own_below HU.out B12.out) hB
  · simp at hi hj; omega

/-- The first place at which a list is not less. -/
def firstZ (L : List (List Int)) (x : List Int) : Nat := (L.takeWhile (fun y => lexLt y x)).length
def putL (L : List (List Int)) (x : List Int) : List (List Int) := if firstZ L x < L.length ∧ rowsOf L (firstZ L x) = x then delL L (firstZ L x) else insL L (firstZ L x) x

theorem split_at (L : List (List Int)) (x : List Int) : L.take (firstZ L x) = L.takeWhile (fun y => lexLt y x) ∧ L.drop (firstZ L x) = L.dropWhile (fun y => lexLt y x) := by
  have e := List.takeWhile_append_dropWhile (p := fun y => lexLt y x) (l := L)
  unfold firstZ
  generalize L.takeWhile (fun y => lexLt y x) = A at *
  generalize L.dropWhile (fun y => lexLt y x) = C at *
  subst e
  exact ⟨List.take_left' rfl, List.drop_left' rfl⟩
theorem firstZ_le (L : List (List Int)) (x : List Int) : firstZ L x ≤ L.length := by
  have := congrArg List.length (List.takeWhile_append_dropWhile (p := fun y => lexLt y x) (l := L))
  rw [List.length_append] at this
  unfold firstZ
  omega
theorem firstZ_lt (L : List (List Int)) (x : List Int) (i : Nat) (h : i < firstZ L x) : lexLt (rowsOf L i) x = true := by
  have hl := firstZ_le L x
  unfold rowsOf
  rw [List.getElem?_eq_getElem (by omega)]
  have h1 : L[i]'(by omega) ∈ L.take (firstZ L x) := List.mem_take_iff_getElem.2 ⟨i, by omega, rfl⟩
  rw [(split_at L x).1] at h1
  exact List.all_eq_true.1 (List.all_takeWhile (p := fun y => lexLt y x) (l := L)) _ h1
theorem firstZ_at (L : List (List Int)) (x : List Int) (h : firstZ L x < L.length) : lexLt (rowsOf L (firstZ L x)) x = false := by
  unfold rowsOf
  have h2 := (split_at L x).2
  rw [List.drop_eq_getElem_cons h] at h2
  rw [List.getElem?_eq_getElem h]
  have := List.head?_dropWhile_not (fun y => lexLt y x) L
  rw [← h2] at this
  simp only [List.head?_cons] at this
  exact this

theorem l01Put_any (V v : Value) (VS : Nat → Value) (L : List (List Int)) (x : List Int) (B B2 : Nat) (w : World) (hF : FamL w B V VS L) (hS : Sep L.length VS) (hv : w.ownsRow B2 2 1 v x.length (x.map (Value.int .i64)))
    (hx : x.length ≤ 1000000) (hB : B ≤ w.heap.size) (hl : L.length ≤ 100000000000) :
    Calls Try.prog 89 #[V, v] w fun e w' => ∃ V' VS', e = .returned V' ∧ FamL w' B V' VS' (putL L x) ∧ Sep (putL L x).length VS' ∧ Below w.heap.size w w' := by
  rcases hF.out.2 with ⟨rfl, h0⟩ | ⟨g, cap, cur, rfl, _⟩
  · have hL : L = [] := List.eq_nil_of_length_eq_zero h0
    subst hL
    exact put_nil v x B B2 w hv hx hB
  · unfold putL
    by_cases h : firstZ L x < L.length ∧ rowsOf L (firstZ L x) = x
    · rw [if_pos h]
      exact put_del g cap v VS L x B (firstZ L x) w hF hS (rd_of_own hv rfl) hB hl h.1 (firstZ_lt L x) h.2
    · rw [if_neg h]
      exact put_ins g cap v VS L x B B2 (firstZ L x) w hF hS hv hx hB hl (firstZ_le L x) (firstZ_lt L x) (firstZ_at L x) (fun h1 h2 => h ⟨h1, h2⟩)

/-- Put into an ascending list. -/
theorem putL_spec (L : List (List Int)) (x : List Int) (h : Asc L) : Asc (putL L x) ∧ ∀ y, y ∈ putL L x ↔ ((y ∈ L ∧ y ≠ x) ∨ (y ∉ L ∧ y = x)) := by
  obtain ⟨e1, e2⟩ := split_at L x
  have eL : L.takeWhile (fun y => lexLt y x) ++ L.dropWhile (fun y => lexLt y x) = L := List.takeWhile_append_dropWhile
  have ha : ∀ y ∈ L.takeWhile (fun y => lexLt y x), lexLt y x = true := fun y hy => List.all_eq_true.1 (List.all_takeWhile (p := fun y => lexLt y x) (l := L)) _ hy
  have hfz := firstZ_at L x
  have hdd : L.drop (firstZ L x + 1) = (L.drop (firstZ L x)).drop 1 := by rw [List.drop_drop]
  have hget : ∀ (hlt : firstZ L x < L.length), L.drop (firstZ L x) = rowsOf L (firstZ L x) :: L.drop (firstZ L x + 1) := fun hlt => by
    unfold rowsOf
    rw [List.getElem?_eq_getElem hlt]
    exact List.drop_eq_getElem_cons hlt
  unfold putL delL insL
  obtain ⟨T, hT⟩ : ∃ T, L.drop (firstZ L x + 1) = T := ⟨_, rfl⟩
  rw [hT] at hget ⊢
  clear hdd
  generalize hA : L.takeWhile (fun y => lexLt y x) = A at *
  generalize hB : L.dropWhile (fun y => lexLt y x) = C at *
  rw [e1]
  rw [← eL] at h
  obtain ⟨h1, h2, h3⟩ := List.pairwise_append.1 h
  have hxA : x ∉ A := fun hx => by have := ha x hx; rw [lexLt_irrefl] at this; cases this
  split
  · rename_i hc
    obtain ⟨hlt, hx⟩ := hc
    have hC := hget hlt
    rw [e2, hx] at hC
    obtain ⟨h4, h5⟩ := List.pairwise_cons.1 (hC ▸ h2)
    refine ⟨List.pairwise_append.2 ⟨h1, h5, fun a ha' b hb => h3 a ha' b (by rw [hC]; exact List.mem_cons_of_mem _ hb)⟩, fun y => ?_⟩
    have hxT : x ∉ T := fun hm => by have := h4 x hm; rw [lexLt_irrefl] at this; cases this
    rw [← eL, hC, List.mem_append, List.mem_append, List.mem_cons]
    by_cases e : y = x
    · rw [e]; simp [hxA, hxT]
    · simp [e]
  · rename_i hc
    rw [e2]
    have hxC : x ∉ C ∧ ∀ b ∈ C, lexLt x b = true := by
      by_cases hlt : firstZ L x < L.length
      · have hC := hget hlt
        rw [e2] at hC
        have hne : rowsOf L (firstZ L x) ≠ x := fun e => hc ⟨hlt, e⟩
        have hgt : lexLt x (rowsOf L (firstZ L x)) = true := by
          cases hb : lexLt x (rowsOf L (firstZ L x)) with
          | true => rfl
          | false => exact absurd (lexLt_total _ _ (hfz hlt) hb) hne
        obtain ⟨h4, h5⟩ := List.pairwise_cons.1 (hC ▸ h2)
        have hall : ∀ b ∈ C, lexLt x b = true := fun b hb => by
          rw [hC] at hb
          rcases List.mem_cons.1 hb with e | hb
          · subst e; exact hgt
          · exact lexLt_trans _ _ _ hgt (h4 b hb)
        exact ⟨fun hm => (by have := hall x hm; rw [lexLt_irrefl] at this; cases this), hall⟩
      · have : C = [] := by rw [← e2]; exact List.drop_eq_nil_of_le (by omega)
        subst this
        exact ⟨by simp, by simp⟩
    refine ⟨List.pairwise_append.2 ⟨h1, List.pairwise_cons.2 ⟨hxC.2, h2⟩, fun a ha' b hb => ?_⟩, fun y => ?_⟩
    · rcases List.mem_cons.1 hb with e | hb
      · subst e; exact ha a ha'
      · exact h3 a ha' b hb
    · rw [← eL, List.mem_append, List.mem_append, List.mem_cons]
      by_cases e : y = x
      · rw [e]; simp [hxA, hxC.1]
      · simp [e]
end Go.Proofs.Ytnfhfilconcajaa
end
section
namespace Go.Proofs.Ytnfhfilconcajaa
open Go.RowKit
set_option linter.unusedVariables false
set_option maxRecDepth 100000

/-- v reads as the list xs; where it has no address it is nil. -/
def RdN (w : World) (v : Value) (xs : List Int) : Prop := ∃ a cap, v = .slice a xs.length cap ∧ xs.length ≤ cap ∧ xs.length ≤ maxLen ∧ ((a = none ∧ cap = 0) ∨ ∃ b off, a = some ⟨b, off, none⟩ ∧ ∀ i, i < xs.length → w.cell? ⟨b, off + i, none⟩ = some (.int .i64 (xs[i]?.getD 0)))
theorem RdN.rd {w : World} {v : Value} {xs : List Int} (h : RdN w v xs) : RdL w v xs := by
  obtain ⟨a, cap, e, hc, hm, h⟩ := h
  refine ⟨a, cap, e, hm, ?_⟩
  rcases h with ⟨h1, h2⟩ | ⟨b, off, h1, h2⟩
  · exact .inl (by omega)
  · exact .inr ⟨b, off, h1, h2⟩
theorem RdN.below {w w' : World} {v : Value} {xs : List Int} (h : RdN w v xs) (k : Below w.heap.size w w') : RdN w' v xs := by
  obtain ⟨a, cap, e, hc, hm, h⟩ := h
  refine ⟨a, cap, e, hc, hm, ?_⟩
  rcases h with h1 | ⟨b, off, h1, h2⟩
  · exact .inl h1
  · exact .inr ⟨b, off, h1, fun i hi => (k.cell (p := ⟨b, off + i, none⟩) (World.block_lt_of_cell? w _ (h2 i hi))).trans (h2 i hi)⟩
theorem RdN.of_own {w : World} {B : Nat} {v : Value} {xs : List Int} (h : w.ownsRow B 2 1 v xs.length (xs.map (Value.int .i64))) : RdN w v xs := by
  rcases h.2 with ⟨rfl, h0⟩ | ⟨g, cap, cur, rfl, _, _, h1, h2, _⟩
  · exact ⟨none, 0, by rw [h0], by omega, by rw [h0]; exact Nat.zero_le _, .inl ⟨rfl, rfl⟩⟩
  · refine ⟨_, cap, rfl, h1, Nat.le_trans h1 h2, .inr ⟨g, 0, rfl, fun i hi => ?_⟩⟩
    rw [Nat.zero_add, h.cellAt i (by omega)]
    simp [hi]

theorem ints_src {w wx : World} {b off : Nat} {xs : List Int} (h : ∀ i, i < xs.length → w.cell? ⟨b, off + i, none⟩ = some (.int .i64 (xs[i]?.getD 0))) (k : Below w.heap.size w wx) : ∀ j u, (xs.map (Value.int .i64))[j]? = some u → wx.cell? ((⟨b, off, none⟩ : Addr).add j) = some u := by
  intro j u hu
  rw [Addr.add_mid]
  rw [List.getElem?_map] at hu
  cases hx : xs[j]? with
  | none => rw [hx] at hu; cases hu
  | some x =>
    rw [hx] at hu
    have hj : j < xs.length := (List.getElem?_eq_some_iff.1 hx).1
    have h1 := h j hj
    simp only [hx, Option.getD_some] at h1
    rw [← Option.some.inj hu]
    exact (k.cell (p := ⟨b, off + j, none⟩) (World.block_lt_of_cell? w _ h1)).trans h1

/-- append of rows of numbers, whatever the source -/
theorem wpList_ints {ops : Array Oper} {rest : List Oper} {o : Oper} {a : Act} {Q : Exit → Act → World → Prop} (w : World) (hgd : o.guard = none) (s x : Operand) (ho : o.op = .call { callee := .builtin .append, args := #[s, x], argTypes := #[53, 53] })
    (B n : Nat) (v : Value) (xs : List Value) (hs : a.eval s = v) (hown : w.ownsRow B 2 1 v n xs) (ap : Option Addr) (m c : Nat) (news : List Value) (hx : a.eval x = .slice ap m c)
    (hsrc : (ap = none ∧ m = 0 ∧ c = 0) ∨ ∃ ad, ap = some ad ∧ ∀ j u, news[j]? = some u → w.cell? (ad.add j) = some u) (hl : news.length = m) (h1 : ∀ u ∈ news, u.oneCell' = true) (hn : n + m ≤ 400000000000) (hB : B ≤ w.heap.size)
    (h : ∀ v' w', w'.ownsRow B 2 1 v' (n + m) (xs ++ news) → w.grownBy w' v.ownBlock → wpList Try.prog ops Q rest (a.put o.dst v') w') : wpList Try.prog ops Q (o :: rest) a w := by
  obtain ⟨i0, hi, hz0, hz1, hz2⟩ := info_parts Try.info2
  rcases hsrc with ⟨rfl, rfl, rfl⟩ | ⟨ad, rfl, hc⟩
  · have hnews : news = [] := List.eq_nil_of_length_eq_zero hl
    subst hnews
    exact wpList_append_own_none hgd s x 53 ho B 2 i0 1 Try.underlying53 hi v n xs hs hown hx (h v w (by simpa using hown) (World.grownBy.refl w _))
  · exact wpList_append_own w hgd s x 53 ho B 2 i0 (.int .i64 0) 1 8 Try.underlying53 hi hz0 hz1 hz2 rfl (by decide) v n xs hs hown ad m c news hx (by omega) hc h1 (by unfold maxLen; omega) (by omega) hB
      (fun v' w' h2 h3 _ => h v' w' h2 h3)

theorem RdN.src {w wx : World} {a : Option Addr} {cap : Nat} {xs : List Int} (h : RdN w (.slice a xs.length cap) xs) (k : Below w.heap.size w wx) :
    (a = none ∧ xs.length = 0 ∧ cap = 0) ∨ ∃ ad, a = some ad ∧ ∀ j u, (xs.map (Value.int .i64))[j]? = some u → wx.cell? (ad.add j) = some u := by
  obtain ⟨a', cap', e, hc, hm, h⟩ := h
  cases e
  rcases h with ⟨h1, h2⟩ | ⟨b, off, h1, h2⟩
  · exact .inl ⟨h1, by omega, h2⟩
  · exact .inr ⟨_, h1, ints_src h2 k⟩

theorem own_rdn (v : Value) (xs : List Int) (w : World) (h : RdN w v xs) (hl : xs.length ≤ 1000000) :
    Calls Try.prog 84 #[v] w fun e w' => ∃ u, e = .returned u ∧ w'.ownsRow w.heap.size 2 1 u xs.length (xs.map (Value.int .i64)) ∧ Below w.heap.size w w' := by
  obtain ⟨a, cap, rfl⟩ : ∃ a cap, v = .slice a xs.length cap := by obtain ⟨a, cap, e, _⟩ := h; exact ⟨a, cap, e⟩
  have B0 := Lib.hid ((Below.refl _ w).alloc (Nat.le_refl _) (.cells #[] 2))
  have SR := Lib.hid (h.src B0.out)
  have O0 : Hid ((w.alloc (.cells #[] 2)).ownsRow w.heap.size 2 1 (.slice (some ⟨w.heap.size, 0, none⟩) 0 0) 0 []) := Lib.hid (World.ownsRow_made w #[] 0 (Nat.le_refl _) (Nat.zero_le _) (by simp))
  clear h
  go_enter Try.func84, Try.ntmps84
  go_wp2_with (at_builtin; refine wpList_ints _ rfl _ _ rfl w.heap.size 0 (.slice (some ⟨w.heap.size, 0, none⟩) 0 0) [] rfl O0.out a xs.length cap (xs.map (Value.int .i64)) rfl SR.out (by simp) (ints_one xs) (by omega) B0.out.size ?_; intro v' w' ho hg; have HO := Lib.hid ho; have HB := Lib.hid (B0.out.grown hg B0.out.size (fun q hq => by cases hq; exact Nat.le_refl _)); clear ho hg)
  go_ret
  exact ⟨_, rfl, by simpa using HO.out, HB.out⟩

/-- A word with a square in front. -/
def front (i : Int) (xs : List Int) : List Int := if i = 0 then xs else i :: xs
end Go.Proofs.Ytnfhfilconcajaa
end
