/-
  Joined: GRel, GFam.
-/
import Derived.Test.YtldlpeohdindaaaZeneratorForm22
import Derived.Test.YtldlpeohdindaaaZeneratorForm14
import Derived.Maps.AppendAt
section
namespace Go.Proofs.Ytldlpeohdindaaa
open Go.RowKit Go.Maps
set_option linter.unusedVariables false
set_option maxRecDepth 100000

/-- The map of relations in its box; X: blocks that callers may write. -/
structure KInv (K gk : Nat) (X : Nat → Prop) (w : World) : Prop where
  box : w.heap[K]? = some (.cells #[.map (some gk)] 54 (0, 0))
  known : ∃ D n, w.ownsMap Try.prog 55 RawV gk n D ∧ Ent D (PhiK X w)
  nx : ¬ X K ∧ ¬ X gk
theorem KInv.m1 {K gk : Nat} {X : Nat → Prop} {w : World} (h : KInv K gk X w) : IsMapB w gk := by obtain ⟨D, n, h1, _⟩ := h.known; exact isMapB_of h1
theorem KInv.m2 {K gk : Nat} {X : Nat → Prop} {w : World} (h : KInv K gk X w) : IsMapB w gk := h.m1
theorem KInv.keep {K gk : Nat} {X X' : Nat → Prop} {w w' : World} (h : KInv K gk X w) (f : ∀ b, b < w.heap.size → ¬ X b → w'.heap[b]? = w.heap[b]?) (hs : w.heap.size ≤ w'.heap.size) (hX : ∀ g, X' g → X g ∨ w.heap.size ≤ g) : KInv K gk X' w' := by
  obtain ⟨D1, n1, o1, e1⟩ := h.known
  obtain ⟨x2, x3⟩ := h.nx
  have l2 : K < w.heap.size := (Array.getElem?_eq_some_iff.1 h.box).1
  have l3 := o1.lt
  refine ⟨(f K l2 x2).trans h.box, ⟨D1, n1, ?_, e1.mono fun l v k => k.keep f hs hX⟩, fun k => (hX _ k).elim x2 (fun k => by omega), fun k => (hX _ k).elim x3 (fun k => by omega)⟩
  obtain ⟨es, clock, he, rest⟩ := o1
  exact ⟨es, clock, (f _ (Array.getElem?_eq_some_iff.1 he).1 x3).trans he, rest⟩
theorem KInv.below {K gk : Nat} {X : Nat → Prop} {w w' : World} (h : KInv K gk X w) (k : Below w.heap.size w w') : KInv K gk X w' := h.keep (fun b hb _ => k.block b hb) k.size fun g hg => .inl hg
theorem KInv.known' {K gk : Nat} {X : Nat → Prop} {w : World} (h : KInv K gk X w) : ∃ D n, w.ownsMap Try.prog 55 RawV gk n D ∧ n ≤ 1681 ∧ Ent D (PhiK X w) := by
  obtain ⟨D, n, h1, h2⟩ := h.known
  refine ⟨D, _, ownsMap_exact h1, ?_, h2⟩
  have := h2.few (h1.tidy keyedAB) keysAB fun l v ⟨⟨a, b, h3, h4, _⟩, _⟩ => keysAB_mem h3 h4
  have := keysAB_len
  omega
theorem KInv.putK {K gk n : Nat} {X : Nat → Prop} {w w' : World} {D : DataW Value} {l : Lit} {v : Value} (h : KInv K gk X w) (hg : w.grownBy w' (some gk)) (ho : w'.ownsMap Try.prog 55 RawV gk n (D.put l (.held v)))
    (hD : Ent D (PhiK X w)) (hv : PhiK X w l v) : KInv K gk X w' := by
  have m1 := h.m1
  have kk : Kp2 gk gk w w' := Kp2.of_grown hg (.inl rfl)
  have up : ∀ l u, PhiK X w l u → PhiK X w' l u := fun l u ⟨⟨a, b, h1, h2, h3⟩, h4⟩ => ⟨⟨a, b, h1, h2, RdI.kp h3 m1 m1 kk⟩, h4.ext hg.size fun g hg => .inl hg⟩
  exact ⟨heap_kp h.box m1 m1 kk, ⟨_, n, ho, (hD.mono up).put l v (up l v hv)⟩, h.nx⟩
def RelPostK (K gk : Nat) (X : Nat → Prop) (a b : Int) (w : World) (e : Ending) (w' : World) : Prop := ∃ v, e = .returned v ∧ JsIs w' v b a ∧ StV X w' v ∧ KInv K gk X w' ∧ Kp2 gk gk w w'

set_option maxHeartbeats 1000000 in
theorem relK_any (K gk : Nat) (X : Nat → Prop) (a b : Int) (w : World) (hX : ∀ g, X g → g < w.heap.size) (h : KInv K gk X w) (hab : okAB a b) :
    Calls Try.prog 36 #[.int .i64 a, .int .i64 b, .pointer (some ⟨K, 0, none⟩)] w (RelPostK K gk X a b w) := by
  obtain ⟨a1, a2, a3, a4⟩ := id hab
  obtain ⟨l, hl⟩ := keyAB_mk a b (wf64 a (by omega) (by omega)) (wf64 b (by omega) (by omega))
  obtain ⟨D, n, ho, hn, hD⟩ := h.known'
  have B1 : Hid (Below w.heap.size w (w.alloc (.cells #[.int .i64 a, .int .i64 b] 55))) := Lib.hid ((Below.refl _ w).alloc (Nat.le_refl _) _)
  have HK := Lib.hid hl
  have HO1 := Lib.hid (ho.alloc (.cells #[.int .i64 a, .int .i64 b] 55))
  have HI := Lib.hid h
  have ck : (w.alloc (.cells #[.int .i64 a, .int .i64 b] 55)).cell? ⟨K, 0, none⟩ = some (.map (some gk)) := (B1.out.cell (p := ⟨K, 0, none⟩) (Array.getElem?_eq_some_iff.1 h.box).1).trans (cell_of_row w K 0 _ _ (0, 0) h.box)
  have HD := Lib.hid hD
  cases hh : has D l with
  | true =>
    obtain ⟨u, hu, ⟨a', b', hab', hk', hj⟩, hst⟩ := hD.look l hh (.held (.slice none 0 0))
    have HST := Lib.hid hst
    obtain ⟨rfl, rfl⟩ := keyAB_inj hl hk'
    have HU := Lib.hid hu
    have HJ := Lib.hid hj
    clear hl ho hD hu hj hk' hab' h hst
    go_enter Try.func36, Try.ntmps36
    go_wp2_with (first | (at_lookup; refine wpList_lookup_own_ok _ rfl _ _ 54 rfl 55 46 keyedAB Try.underlying54 RawV (Try.zeroValue46 _) (.held (.slice none 0 0)) [] rfl gk n D rfl HO1.out _ l rfl HK.out ?_; intro v ps hv))
    go_ret
    obtain rfl : v = u := by
      have e : DataW.held v = D.atKey l (.held (.slice none 0 0)) := congrArg Prod.fst (Option.some.inj hv)
      rw [HU.out] at e
      exact DataW.held.inj e
    exact ⟨v, rfl, RdI.below HJ.out B1.out, HST.out.ext B1.out.size (fun g hg => .inl hg), HI.out.below B1.out, Kp2.of_below B1.out⟩
  | false =>
    clear hl ho hD h
    obtain ⟨na, rfl⟩ := Int.eq_ofNat_of_zero_le (by omega : 0 ≤ a)
    obtain ⟨nb, rfl⟩ := Int.eq_ofNat_of_zero_le (by omega : 0 ≤ b)
    have O0 : Hid ((w.alloc (.cells #[.int .i64 (na : Int), .int .i64 (nb : Int)] 55)).ownsRow (w.alloc (.cells #[.int .i64 (na : Int), .int .i64 (nb : Int)] 55)).heap.size 2 1 (.slice none 0 0) (jsTo (nb : Int) (na : Int) 0).length ((jsTo (nb : Int) (na : Int) 0).map (Value.int .i64))) := Lib.hid (by simpa [jsTo] using World.ownsRow_nil _ _ _ _)
    have JA : Hid (jsTo (nb : Int) (na : Int) (na / 2 + 1) = js (nb : Int) (na : Int)) := Lib.hid (by have := jsTo_all (nb : Int) (na : Int); rw [Int.toNat_natCast] at this; exact this)
    go_enter Try.func36, Try.ntmps36
    go_wp2_with (first | (at_lookup; refine wpList_lookup_own_ok _ rfl _ _ 54 rfl 55 46 keyedAB Try.underlying54 RawV (Try.zeroValue46 _) (.held (.slice none 0 0)) [] rfl gk n D rfl HO1.out _ l rfl HK.out ?_; intro v ps hv))
    clear hv
    have BN := Lib.hid (heap_alloc_new w (.cells #[.int .i64 (na : Int), .int .i64 (nb : Int)] 55))
    generalize hw1 : w.alloc (.cells #[.int .i64 (na : Int), .int .i64 (nb : Int)] 55) = w1 at *
    have hs1 : w1.heap.size = w.heap.size + 1 := by rw [← hw1]; simp
    clear hw1
    go_loopw [9, 10] (fun S c wr => ∃ j : Nat, j ≤ na / 2 + 1 ∧ c = .int .i64 j ∧ Hid (wr.ownsRow w1.heap.size 2 1 S (jsTo (nb : Int) (na : Int) j).length ((jsTo (nb : Int) (na : Int) j).map (Value.int .i64))) ∧ Hid (Below w1.heap.size w1 wr)) (fun _ c _ => na / 2 + 1 - (intOf c).toNat)
    case atStart => exact ⟨0, by omega, rfl, O0, Lib.hid (Below.refl _ _)⟩
    case round =>
      clear O0
      obtain ⟨j, hj, rfl, hO, hB⟩ := hrel
      by_cases hj2 : 2 * j ≤ na
      · obtain ⟨p, hp⟩ : ∃ p : Nat, (nb : Int) - (j : Int) - 1 = (p : Int) := ⟨nb - j - 1, by omega⟩
        obtain ⟨q, hq⟩ : ∃ q : Nat, (na : Int) - 2 * (j : Int) = (q : Int) := ⟨na - 2 * j, by omega⟩
        have P : Hid (Calls Try.prog 37 #[.int .i64 ((nb : Int) - (j : Int) - 1), .int .i64 ((na : Int) - 2 * (j : Int))] wr fun e w' => e = .returned (.tuple #[.int .i64 (bpar p q), .int .i64 0]) ∧ wr = w') := Lib.hid (by rw [hp, hq]; exact implBinomial_in p q wr (by omega) (by omega))
        have ep : bpar p q = bpar ((nb : Int).toNat - j - 1) ((na : Int).toNat - 2 * j) := by
          rw [show p = (nb : Int).toNat - j - 1 by omega, show q = (na : Int).toNat - 2 * j by omega]
        have hle : (j : Int) ≤ (na : Int) / 2 := by omega
        by_cases hb1 : bpar p q = 1
        · have JY := Lib.hid (jsTo_yes (nb : Int) (na : Int) j (by rw [← ep]; exact hb1))
          rw [hb1] at P
          have B2 := Lib.hid (hB.out.alloc hB.out.size (.cells #[.int .i64 (j : Int)] 2))
          have O2 := Lib.hid (hO.out.alloc (.cells #[.int .i64 (j : Int)] 2))
          have LJ : (jsTo (nb : Int) (na : Int) j).length ≤ 1000 := by
            unfold jsTo
            rw [List.length_map]
            have := List.length_filter_le (fun j => decide (bpar ((nb : Int).toNat - j - 1) ((na : Int).toNat - 2 * j) = 1)) (List.range j)
            rw [List.length_range] at this
            omega
          have CN : Hid (∀ jj u, [Value.int .i64 (j : Int)][jj]? = some u → (wr.alloc (.cells #[.int .i64 (j : Int)] 2)).cell? ((⟨wr.heap.size, 0, none⟩ : Addr).add jj) = some u) := Lib.hid fun jj u hu => by
            have h0 : jj = 0 := by have := (List.getElem?_eq_some_iff.1 hu).1; simp at this; omega
            subst h0
            simp at hu
            subst hu
            exact cell_of_row _ wr.heap.size 0 _ _ (0, 0) (heap_alloc_new wr _)
          clear hp hq ep hb1
          go_wp2_with fail
          refine P.out.mono ?_
          rintro e w2 ⟨rfl, rfl⟩
          go_wp2_with (at_builtin; refine wpList_ints _ rfl _ _ rfl w1.heap.size (jsTo (nb : Int) (na : Int) j).length _ _ rfl O2.out (some ⟨wr.heap.size, 0, none⟩) 1 1 [Value.int .i64 (j : Int)] rfl (.inr ⟨_, rfl, CN.out⟩) rfl (by simp [Value.oneCell']) (by omega) B2.out.size ?_; intro v3 w3 ho3 hg3; have O3 := Lib.hid ho3; have B3 := Lib.hid (B2.out.grown hg3 B2.out.size (fun q hq => (O2.out.lt q hq).1)); clear ho3 hg3)
          go_roundw
          case rel => exact ⟨j + 1, by omega, by go_num, Lib.hid (by rw [JY.out, List.length_append, List.length_singleton, List.map_append]; exact O3.out), B3⟩
          case measure => simp [intOf]; omega
        · have hb0 : bpar p q = 0 := by unfold bpar at hb1 ⊢; split <;> simp_all
          have JN := Lib.hid (jsTo_no (nb : Int) (na : Int) j (by rw [← ep]; exact hb1))
          rw [hb0] at P
          clear hp hq ep hb1 hb0
          go_wp2_with fail
          refine P.out.mono ?_
          rintro e w2 ⟨rfl, rfl⟩
          go_wp2_with fail
          go_roundw
          case rel => exact ⟨j + 1, by omega, by go_num, Lib.hid (by rw [JN.out]; exact hO.out), hB⟩
          case measure => simp [intOf]; omega
      · obtain rfl : j = na / 2 + 1 := by omega
        rw [JA.out] at hO
        have hle : ¬ ((na / 2 + 1 : Nat) : Int) ≤ (na : Int) / 2 := by omega
        have ckr : wr.cell? ⟨K, 0, none⟩ = some (.map (some gk)) := (hB.out.cell (p := ⟨K, 0, none⟩) (World.block_lt_of_cell? w1 _ ck)).trans ck
        have cbr : wr.heap[w.heap.size]? = some (.cells #[.int .i64 (na : Int), .int .i64 (nb : Int)] 55 (0, 0)) := (hB.out.block _ (by omega)).trans BN.out
        have cb0 := cell_of_row wr w.heap.size 0 _ _ (0, 0) cbr
        have cb1 := cell_of_row wr w.heap.size 1 _ _ (0, 0) cbr
        have BW := Lib.hid (B1.out.trans (hB.out.mono B1.out.size))
        have HIR := Lib.hid (HI.out.below BW.out)
        have HOR : Hid (wr.ownsMap Try.prog 55 RawV gk n D) := Lib.hid (by
          obtain ⟨es, clock, hb, rest⟩ := HO1.out
          exact ⟨es, clock, (hB.out.block _ (Array.getElem?_eq_some_iff.1 hb).1).trans hb, rest⟩)
        have HDR : Hid (Ent D (PhiK X wr)) := Lib.hid (HD.out.mono fun l v k => k.keep (fun b hb _ => BW.out.block b hb) BW.out.size fun g hg => .inl hg)
        have HST : Hid (StV X wr u9) := Lib.hid fun g hg => ⟨(hO.out.lt g hg).2, fun hx => by have h1 := hX g hx; have h2 := (hO.out.lt g hg).1; omega⟩
        have HJ : Hid (JsIs wr u9 (nb : Int) (na : Int)) := Lib.hid (rd_of_own hO.out rfl)
        have hnm : n < maxLen := by unfold maxLen; omega
        clear HI HD HO1 B1 BN JA hO
        go_wp2_with (first | (at_mapUpdate; refine wpList_mapUpdate_in _ rfl _ _ _ 54 rfl 55 46 keyedAB Try.underlying54 RawV gk n D rfl HOR.out hnm _ _ l rfl rfl HK.out (.held u9) [] rfl ?_; intro w3 ho3 ht3))
        go_ret
        have kk : Kp2 gk gk wr w3 := Kp2.of_grown ht3.grown (.inl rfl)
        exact ⟨u9, rfl, RdI.kp HJ.out HIR.out.m1 HIR.out.m2 kk, HST.out.ext ht3.grown.size (fun g hg => .inl hg), HIR.out.putK ht3.grown ho3 HDR.out ⟨⟨_, _, hab, HK.out, HJ.out⟩, HST.out⟩, (Kp2.of_below BW.out).trans kk⟩
end Go.Proofs.Ytldlpeohdindaaa
end
section
namespace Go.Proofs.Ytldlpeohdindaaa
open Go.RowKit
set_option linter.unusedVariables false
set_option maxRecDepth 100000

/-- append of rows of rows, and where the new row lies. -/
theorem step_rows_at {ops : Array Oper} {o : Oper} {a : Act} {w : World} {K : Act → World → Prop} {Q : Exit → Act → World → Prop} {E : Prop} (hgd : o.guard = none) (s x : Operand) (ho : o.op = .call { callee := .builtin .append, args := #[s, x], argTypes := #[22, 22] })
    (B n : Nat) (v : Value) (xs : List Value) (hs : a.eval s = v) (hown : w.ownsRow B 46 1 v n xs) (ap : Option Addr) (m c : Nat) (news : List Value) (hx : a.eval x = .slice ap m c)
    (hsrc : (ap = none ∧ m = 0 ∧ c = 0) ∨ ∃ ad, ap = some ad ∧ ∀ j u, news[j]? = some u → w.cell? (ad.add j) = some u) (hl : news.length = m) (h1 : ∀ u ∈ news, u.oneCell' = true) (hn : n + m ≤ 400000000000) (hB : B ≤ w.heap.size)
    (h : ∀ v' w', w'.ownsRow B 46 1 v' (n + m) (xs ++ news) → w.grownBy w' v.ownBlock → (v'.ownBlock = v.ownBlock ∨ v'.ownBlock = some w.heap.size) → K (a.put o.dst v') w') :
    if Region.wanted o (yielded ops a.tmps) = true then Oper.wp Try.prog o a w K Q else E := by
  have hw : Region.wanted o (yielded ops a.tmps) = true := by simp [Region.wanted, hgd]
  rw [if_pos hw]
  obtain ⟨i1, hj, hy0, hy1, hy2⟩ := info_parts Try.infoS
  rcases hsrc with ⟨rfl, rfl, rfl⟩ | ⟨ad, rfl, hc⟩
  · have hnews : news = [] := List.eq_nil_of_length_eq_zero hl
    subst hnews
    have hrun := run_append_owned_none (P := Try.prog) (w := w) B 22 o.type 46 i1 1 Try.underlying22 hj v n xs hown
    unfold Oper.wp
    simp [execOp, ho, resolve, invoke, builtin, hs, hx, hrun, Result.andThen]
    refine h v w (by simpa using hown) (World.grownBy.refl w _) (.inl rfl)
  · obtain ⟨v', w', hr, h2, h3, _, h5⟩ := run_append_own_at (P := Try.prog) (w := w) B 22 o.type 46 i1 (.slice none 0 0) 1 24 Try.underlying22 hj hy0 hy1 hy2 rfl (by decide) v n xs hown ad m c news (by omega) hc h1 (by unfold maxLen; omega) (by omega) hB
    exact Lib.wp_append_run w s x 22 22 ho v _ hs hx v' w' hr (h v' w' h2 h3 h5)

/-- The heads of two families, one behind the other. -/
def catV (VS US : Nat → Value) (n : Nat) : Nat → Value := fun i => if i < n then VS i else US (i - n)
theorem catV_map (VS US : Nat → Value) (n m : Nat) : (List.range (n + m)).map (catV VS US n) = (List.range n).map VS ++ (List.range m).map US := by
  rw [List.range_add, List.map_append, List.map_map]
  congr 1
  · exact List.map_congr_left fun i hi => by unfold catV; rw [if_pos (List.mem_range.1 hi)]
  · exact List.map_congr_left fun i hi => by show catV VS US n (n + i) = US i; unfold catV; rw [if_neg (by omega), Nat.add_sub_cancel_left]
/-- Behind the append. -/
theorem FamL.cat {w w' : World} {B : Nat} {V V' U : Value} {VS US : Nat → Value} {L M : List (List Int)} (h : FamL w B V VS L) (k : FamL w B U US M) (ho : w'.ownsRow B 46 1 V' (L.length + M.length) ((List.range L.length).map VS ++ (List.range M.length).map US)) (hg : w.grownBy w' V.ownBlock) :
    FamL w' B V' (catV VS US L.length) (L ++ M) := by
  refine ⟨?_, fun i hi => ?_⟩
  · rw [List.length_append, catV_map]; exact ho
  · rw [List.length_append] at hi
    unfold catV rowsOf
    by_cases h1 : i < L.length
    · rw [if_pos h1, List.getElem?_append_left h1]
      exact (h.inn i h1).kept hg (own_types (h.inn i h1) h.out (by decide))
    · rw [if_neg h1, List.getElem?_append_right (by omega)]
      have h2 := k.inn (i - L.length) (by omega)
      exact h2.kept hg (own_types h2 h.out (by decide))
end Go.Proofs.Ytldlpeohdindaaa
end
