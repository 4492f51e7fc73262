/-
  Joined: YPack, WPutA.
-/
import Derived.Test.YtggebkcmokpcmaaZBHit15
import Derived.Test.YtggebkcmokpcmaaZBHit07
import Derived.Test.YtggebkcmokpcmaaZBHit14
import Derived.Laws.OwnMore
import Derived.Laws.IdiomCopy
import Derived.Test.YtggebkcmokpcmaaZBHit03
import Derived.Test.YtggebkcmokpcmaaZBHit05
import Derived.Deep.RegionLaw
import Derived.Laws.AppendOwnNone
import Derived.Lib.AppendZeros
import Derived.Maps.AppendAt
section
namespace Go.Proofs.Ytggebkcmokpcmaa
open Go.RowKit Go.Maps
set_option linter.unusedVariables false
set_option maxRecDepth 100000

/-! ### Cells written into the middle of an own row -/
def putAtY (xs : List Value) : Nat → List Value → List Value
  | _, [] => xs
  | o, v :: r => putAtY (xs.set o v) (o + 1) r
theorem putAtY_split (A : List Value) : ∀ (vs Z C : List Value), Z.length = vs.length → putAtY (A ++ (Z ++ C)) A.length vs = A ++ (vs ++ C)
  | [], Z, C, h => by
    obtain rfl : Z = [] := List.eq_nil_of_length_eq_zero h
    rfl
  | v :: r, z :: Z, C, h => by
    have e1 : (A ++ (z :: Z ++ C)).set A.length v = (A ++ [v]) ++ (Z ++ C) := by
      rw [List.set_append_right _ _ (Nat.le_refl _), Nat.sub_self]
      simp
    have ih := putAtY_split (A ++ [v]) r Z C (by simpa using h)
    rw [List.length_append, List.length_singleton] at ih
    rw [putAtY, e1, ih]
    simp
theorem own_setCellsY {B n g cap s : Nat} {e : TypeId} : ∀ (vs : List Value) (o : Nat) (w : World) (xs : List Value), w.ownsRow B e s (.slice (some ⟨g, 0, none⟩) n cap) n xs →
    (w.setCells g o vs).ownsRow B e s (.slice (some ⟨g, 0, none⟩) n cap) n (putAtY xs o vs) ∧ w.grownBy (w.setCells g o vs) (some g)
  | [], o, w, xs, h => ⟨h, ⟨rfl, rfl, rfl, Nat.le_refl _, fun k _ _ => rfl⟩⟩
  | v :: r, o, w, xs, h => by
    obtain ⟨h1, h2⟩ := World.ownsRow.stored h o v
    obtain ⟨h3, h4⟩ := own_setCellsY r (o + 1) _ _ h1
    exact ⟨h3, h2.trans h4⟩
theorem flat4_len {s : Nat} : ∀ {ks : List (Array Value)}, (∀ k ∈ ks, k.size = s) → (ks.flatMap Array.toList).length = ks.length * s
  | [], _ => by simp
  | k :: ks, h => by
    have h1 := flat4_len (ks := ks) fun x hx => h x (List.mem_cons_of_mem _ hx)
    rw [List.flatMap_cons, List.length_append, h1, Array.length_toList, h k List.mem_cons_self, List.length_cons, Nat.succ_mul]
    omega
theorem flat_putY {s : Nat} {ks : List (Array Value)} (hk : ∀ k ∈ ks, k.size = s) (j : Nat) (hj : j < ks.length) (K : Array Value) (hK : K.size = s) : putAtY (ks.flatMap Array.toList) (j * s) K.toList = (ks.set j K).flatMap Array.toList := by
  have e : ks = ks.take j ++ (ks[j] :: ks.drop (j + 1)) := by
    rw [List.getElem_cons_drop, List.take_append_drop]
  have e2 : ks.set j K = ks.take j ++ (K :: ks.drop (j + 1)) := List.set_eq_take_append_cons_drop .. |>.trans (by rw [if_pos hj])
  rw [e2, List.flatMap_append, List.flatMap_cons]
  have hA : ((ks.take j).flatMap Array.toList).length = j * s := by
    rw [flat4_len (s := s) fun k hk' => hk k (List.mem_of_mem_take hk'), List.length_take, Nat.min_eq_left (by omega)]
  have h1 := putAtY_split ((ks.take j).flatMap Array.toList) K.toList ks[j].toList ((ks.drop (j + 1)).flatMap Array.toList) (by rw [Array.length_toList, Array.length_toList, hK, hk _ (List.getElem_mem hj)])
  rw [hA] at h1
  rw [← h1]
  congr 1
  conv => lhs; rw [e]
  rw [List.flatMap_append, List.flatMap_cons]

/-! ### monomials -/
/-- The keys of lists. -/
def keyY (xs : List Int) : Array Value := pwK (padY xs)
def keysToY (X : Nat → List Int) (m j : Nat) : List (Array Value) := (List.range m).map fun i => if i < j then keyY (X i) else pwK zero4
theorem keysToY_len (X : Nat → List Int) (m j : Nat) : (keysToY X m j).length = m := by simp [keysToY]
theorem keyY_size {xs : List Int} (h : xs.length ≤ 4) : (keyY xs).size = 4 := by rw [keyY, pwK_size, padY_len h]
theorem keysToY_size {X : Nat → List Int} {m : Nat} (hX : ∀ i, i < m → (X i).length ≤ 4) (j : Nat) : ∀ k ∈ keysToY X m j, k.size = 4 := fun k hk => by
  obtain ⟨i, hi, rfl⟩ := List.mem_map.1 hk
  show (if i < j then keyY (X i) else pwK zero4).size = 4
  split
  · exact keyY_size (hX i (List.mem_range.1 hi))
  · rfl
theorem keysToY_set (X : Nat → List Int) (m j : Nat) (hj : j < m) : (keysToY X m j).set j (keyY (X j)) = keysToY X m (j + 1) := by
  refine List.ext_getElem? fun i => ?_
  rw [List.getElem?_set, keysToY_len]
  unfold keysToY
  rw [List.getElem?_map, List.getElem?_map]
  by_cases hi : i < m
  · rw [List.getElem?_range hi]
    by_cases e : j = i
    · subst e
      rw [if_pos rfl, if_pos hj]
      simp
    · rw [if_neg e]
      simp only [Option.map_some]
      congr 1
      by_cases c : i < j
      · rw [if_pos c, if_pos (by omega)]
      · rw [if_neg c, if_neg (by omega)]
  · rw [List.getElem?_eq_none (by rw [List.length_range]; omega), if_neg (by omega)]
    rfl
theorem keysToY_all (X : Nat → List Int) (m : Nat) : keysToY X m m = (rowsL X m).map keyY := by
  unfold keysToY rowsL
  rw [List.map_map]
  exact List.map_congr_left fun i hi => by rw [if_pos (List.mem_range.1 hi)]; rfl
theorem made4 (X : Nat → List Int) (m : Nat) : (madeCells (Value.cells (.agg (pwK zero4))) (m * 4)).toList = (keysToY X m 0).flatMap Array.toList := by
  have e : (keysToY X m 0).flatMap Array.toList = List.replicate (m * 4) (Value.int .i64 0) := by
    unfold keysToY
    induction m with
    | zero => rfl
    | succ m ih =>
      rw [List.range_succ, List.map_append, List.flatMap_append, ih, Nat.succ_mul, ← List.replicate_append_replicate]
      rfl
  rw [e]
  have hz : ∀ r, r < 4 → (pwK zero4)[r]! = Value.int .i64 0 := fun r hr => by
    match r, hr with
    | 0, _ => rfl
    | 1, _ => rfl
    | 2, _ => rfl
    | 3, _ => rfl
  refine List.ext_getElem? fun i => ?_
  have hc : Value.cells (.agg (pwK zero4)) = pwK zero4 := rfl
  rw [hc, List.getElem?_replicate]
  unfold madeCells
  by_cases h : i < m * 4
  · rw [if_pos h]
    have h5 : i % (pwK zero4).size < 4 := Nat.mod_lt _ (by decide)
    simp [h, hz _ h5]
  · rw [if_neg h]
    simp [h]
theorem infoEY2 : (Try.prog.info? 71).map (fun i => (i.zero, i.size, i.bytes)) = some (some (.agg (pwK zero4)), 4, 32) := by kernel_rfl

theorem own_pwAt {w : World} {B g cap n : Nat} {ks : List (Array Value)} (h : w.ownsRow B 71 4 (.slice (some ⟨g, 0, none⟩) n cap) n (ks.flatMap Array.toList)) (hk : ∀ k ∈ ks, k.size = 4) (j : Nat) (hj : j < n) (hn : ks.length = n) : w.there g (j * 4) 4 := fun q hq => by
  refine ⟨?_, World.ownsRow.frozenAt h _⟩
  rw [World.ownsRow.cellAt h (j * 4 + q) (by omega)]
  have h1 : j * 4 + q < (ks.flatMap Array.toList).length := by rw [flat4_len hk, hn]; omega
  rw [List.getElem?_eq_getElem h1]
  rfl

set_option maxHeartbeats 1000000 in
theorem packed_any (k : Int) (V : Value) (m : Nat) (X : Nat → List Int) (w : World) (h : RdSS w V m X) (hm : m ≤ 2000) (hX : ∀ i, i < m → (X i).length ≤ 4) :
    Calls Try.prog 60 #[.agg #[.int .i64 k, V]] w fun e w' => ∃ u, e = .returned u ∧ OwnY w' w.heap.size u ((rowsL X m).map keyY) ∧ Below w.heap.size w w' := by
  obtain ⟨i0, hi, hz0, hz1, hz2⟩ := info_parts infoEY2
  obtain ⟨⟨a, cap, rfl⟩, hsm, VS, hc, hr⟩ := h
  have t2 := Try.underlying31
  have HR := Lib.hid hr
  have HX := Lib.hid hX
  have HC := Lib.hid hc
  obtain ⟨w1, hw1⟩ : ∃ w1, w1 = w.alloc (.cells #[.int .i64 k, .slice a m cap] 31) := ⟨_, rfl⟩
  have B1 : Hid (Below w.heap.size w w1) := Lib.hid (by rw [hw1]; exact (Below.refl _ w).alloc (Nat.le_refl _) _)
  have X1 : Hid (Box w1 w.heap.size 31 (.int .i64 k) (.slice a m cap)) := Lib.hid (by rw [hw1]; exact Box.new _ _ _ _)
  have d0 := X1.out.c1
  clear hr hX hc hsm
  go_enter Try.func60, Try.ntmps60
  go_upto_region 1 with fail
  rw [← hw1]
  clear hw1
  go_upto_region 2 with (at_make; refine wpList_make_full _ rfl _ _ 53 rfl w1.heap.size 71 i0 (.agg (pwK zero4)) 4 Try.underlying53 hi hz0 hz1 .i64 .i64 (m : Int) (m : Int) m rfl rfl rfl rfl (by rw [hz2]; omega) (by unfold maxLen; omega) (Nat.le_refl _) ?_; intro w5 hown hgrow; rw [made4 X m] at hown; have H5 := Lib.hid hown; have G5 := Lib.hid hgrow; clear hown hgrow)
  have B5 : Hid (Below w1.heap.size w1 w5) := Lib.hid ((Below.refl w1.heap.size w1).grown G5.out (Nat.le_refl _) (by intro q hq; cases hq))
  have X5 := Lib.hid (X1.out.up B5.out)
  clear d0 G5
  have d0 := X5.out.c1
  go_wp2_with fail
  clear d0
  go_loopw [4, 5, 13] (fun _ _ c wr => ∃ j : Nat, j ≤ m ∧ c = .int .i64 j ∧ Hid (wr.ownsRow w1.heap.size 71 4 (.slice (some ⟨w1.heap.size, 0, none⟩) m m) m ((keysToY X m j).flatMap Array.toList)) ∧ Hid (Below w1.heap.size w1 wr)) (fun _ _ c _ => m - (intOf c).toNat)
  case atStart => exact ⟨0, by omega, rfl, H5, B5⟩
  case round =>
    clear H5 B5
    obtain ⟨j, hj, rfl, hO, hB⟩ := hrel
    by_cases hlt : j < m
    · have hlt' : (j : Int) < (m : Int) := by omega
      obtain ⟨b, off, ⟨cap', e⟩, hc'⟩ := HC.out.resolve_left (by omega)
      cases e
      have BW := B1.out.trans (hB.out.mono B1.out.size)
      have c1 : wr.cell? ⟨b, off + j, none⟩ = some (VS j) := (BW.cell (p := ⟨b, off + j, none⟩) (World.block_lt_of_cell? w _ (hc' j hlt))).trans (hc' j hlt)
      have MO := Lib.hid (packPowers_any (VS j) (X j) wr ((HR.out j hlt).below BW) (HX.out j hlt))
      have NX : Hid ((keysToY X m j).set j (keyY (X j)) = keysToY X m (j + 1)) := Lib.hid (keysToY_set X m j hlt)
      have KS : Hid ((pwK (padY (X j))).size = 4) := Lib.hid (keyY_size (HX.out j hlt))
      have KP : Hid (keyY (X j) = pwK (padY (X j))) := Lib.hid rfl
      have HSZ := Lib.hid (keysToY_size HX.out j)
      clear hc' BW
      generalize VS j = v at c1 MO
      go_wp2_with fail
      refine MO.out.mono ?_
      rintro e w2 ⟨rfl, b2⟩
      have O2 := own_below hO.out b2
      have TH : Hid (w2.there w1.heap.size (j * 4) (pwK (padY (X j))).size) := Lib.hid (by rw [KS.out]; exact own_pwAt O2 HSZ.out j hlt (keysToY_len X m j))
      have B2 := Lib.hid (hB.out.step1 b2)
      have SC := Lib.hid (own_setCellsY (pwK (padY (X j))).toList (j * 4) w2 _ O2)
      have KO : Hid ((pwK (padY (X j))).all (·.oneCell') = true) := Lib.hid (pwK_one _)
      have SM : Hid ((Try.prog.info? 71).map (·.size) = some (pwK (padY (X j))).size) := Lib.hid (by rw [sizeY, KS.out])
      have PU : Hid (putAtY ((keysToY X m j).flatMap Array.toList) (j * 4) (pwK (padY (X j))).toList = (keysToY X m (j + 1)).flatMap Array.toList) := Lib.hid (by rw [← NX.out]; exact flat_putY HSZ.out j (by rw [keysToY_len]; exact hlt) _ KS.out)
      clear KP b2 O2 MO hO hB
      generalize pwK (padY (X j)) = K at *
      go_wp2_with (refine wpList_store_mid rfl _ _ _ rfl w1.heap.size (j * 4) K rfl rfl TH.out SM.out KO.out ?_)
      go_roundw
      case rel => exact ⟨j + 1, by omega, by go_num, Lib.hid (by rw [← PU.out]; exact SC.out.1), Lib.hid (B2.out.grown SC.out.2 B2.out.size (fun q hq => by cases hq; exact Nat.le_refl _))⟩
      case measure => simp [intOf]; omega
    · obtain rfl : j = m := by omega
      have HO : Hid (OwnY wr w.heap.size (.slice (some ⟨w1.heap.size, 0, none⟩) j j) ((rowsL X j).map keyY)) := Lib.hid (by
        unfold OwnY
        rw [List.length_map, rowsL_len, ← keysToY_all]
        exact own_base hO.out B1.out.size)
      have B9 := Lib.hid (B1.out.trans (hB.out.mono B1.out.size))
      clear hO hB
      go_wp2_with fail
      go_ret
      exact ⟨_, rfl, HO.out, B9.out⟩
end Go.Proofs.Ytggebkcmokpcmaa
end
section
namespace Go.Proofs.Ytggebkcmokpcmaa
open Go.RowKit
set_option linter.unusedVariables false
set_option maxRecDepth 100000

/-- append of rows of rows, and where the new row lies. -/
theorem step_rows_at {ops : Array Oper} {o : Oper} {a : Act} {w : World} {K : Act → World → Prop} {Q : Exit → Act → World → Prop} {E : Prop} (hgd : o.guard = none) (s x : Operand) (ho : o.op = .call { callee := .builtin .append, args := #[s, x], argTypes := #[25, 25] })
    (B n : Nat) (v : Value) (xs : List Value) (hs : a.eval s = v) (hown : w.ownsRow B 42 1 v n xs) (ap : Option Addr) (m c : Nat) (news : List Value) (hx : a.eval x = .slice ap m c)
    (hsrc : (ap = none ∧ m = 0 ∧ c = 0) ∨ ∃ ad, ap = some ad ∧ ∀ j u, news[j]? = some u → w.cell? (ad.add j) = some u) (hl : news.length = m) (h1 : ∀ u ∈ news, u.oneCell' = true) (hn : n + m ≤ 400000000000) (hB : B ≤ w.heap.size)
    (h : ∀ v' w', w'.ownsRow B 42 1 v' (n + m) (xs ++ news) → w.grownBy w' v.ownBlock → (v'.ownBlock = v.ownBlock ∨ v'.ownBlock = some w.heap.size) → K (a.put o.dst v') w') :
    if Region.wanted o (yielded ops a.tmps) = true then Oper.wp Try.prog o a w K Q else E := by
  have hw : Region.wanted o (yielded ops a.tmps) = true := by simp [Region.wanted, hgd]
  rw [if_pos hw]
  obtain ⟨i1, hj, hy0, hy1, hy2⟩ := info_parts Try.infoS
  rcases hsrc with ⟨rfl, rfl, rfl⟩ | ⟨ad, rfl, hc⟩
  · have hnews : news = [] := List.eq_nil_of_length_eq_zero hl
    subst hnews
    have hrun := run_append_owned_none (P := Try.prog) (w := w) B 25 o.type 42 i1 1 Try.underlying25 hj v n xs hown
    unfold Oper.wp
    simp [execOp, ho, resolve, invoke, builtin, hs, hx, hrun, Result.andThen]
    refine h v w (by simpa using hown) (World.grownBy.refl w _) (.inl rfl)
  · obtain ⟨v', w', hr, h2, h3, _, h5⟩ := run_append_own_at (P := Try.prog) (w := w) B 25 o.type 42 i1 (.slice none 0 0) 1 24 Try.underlying25 hj hy0 hy1 hy2 rfl (by decide) v n xs hown ad m c news (by omega) hc h1 (by unfold maxLen; omega) (by omega) hB
    exact Lib.wp_append_run w s x 25 25 ho v _ hs hx v' w' hr (h v' w' h2 h3 h5)
theorem wpList_rows_at {ops : Array Oper} {rest : List Oper} {o : Oper} {a : Act} {Q : Exit → Act → World → Prop} (w : World) (hgd : o.guard = none) (s x : Operand) (ho : o.op = .call { callee := .builtin .append, args := #[s, x], argTypes := #[25, 25] })
    (B n : Nat) (v : Value) (xs : List Value) (hs : a.eval s = v) (hown : w.ownsRow B 42 1 v n xs) (ad : Addr) (m c : Nat) (news : List Value) (hx : a.eval x = .slice (some ad) m c)
    (hc : ∀ j u, news[j]? = some u → w.cell? (ad.add j) = some u) (hl : news.length = m) (h1 : ∀ u ∈ news, u.oneCell' = true) (hn : n + m ≤ 400000000000) (hB : B ≤ w.heap.size)
    (h : ∀ v' w', w'.ownsRow B 42 1 v' (n + m) (xs ++ news) → w.grownBy w' v.ownBlock → (v'.ownBlock = v.ownBlock ∨ v'.ownBlock = some w.heap.size) → wpList Try.prog ops Q rest (a.put o.dst v') w') : wpList Try.prog ops Q (o :: rest) a w := by
  obtain ⟨i1, hj, hy0, hy1, hy2⟩ := info_parts Try.infoS
  exact wpList_append_own_at w hgd s x 25 ho B 42 i1 (.slice none 0 0) 1 24 Try.underlying25 hj hy0 hy1 hy2 rfl (by decide) v n xs hs hown ad m c news hx (by omega) hc h1 (by unfold maxLen; omega) (by omega) hB
      (fun v' w' h2 h3 _ h5 => h v' w' h2 h3 h5)
end Go.Proofs.Ytggebkcmokpcmaa
end
