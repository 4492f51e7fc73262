/-
  Joined: PSumI, PSumJ, PSumL, NElP.
-/
import Derived.Test.YtnmilkehggjpfaaZBMil41
import Derived.Test.YtnmilkehggjpfaaZBMil27
import Derived.Test.YtnmilkehggjpfaaZBMil11
import Derived.Test.YtnmilkehggjpfaaZBMil09
import Derived.Test.YtnmilkehggjpfaaZBMil07
import Derived.Test.YtnmilkehggjpfaaZBMil06
import Derived.Test.YtnmilkehggjpfaaZBMil03
import Derived.Deep.DeepCutAuto
section
namespace Go.Proofs.Ytnmilkehggjpfaa.Ml
open Go.RowKit Go.Maps
set_option linter.unusedVariables false
set_option maxRecDepth 100000

set_option maxHeartbeats 4000000 in
theorem sumOver_try (V : Value) (W : List (List Int)) (w : World) (h : RdW w V W) (hW : ∀ i, i < W.length → ∃ x v, W[i]?.getD [] = x :: v ∧ (Lit.int .i64 x).wf = true ∧ v.length ≤ 1000) (hl : W.length ≤ 100000)
    (REST : ∀ (w2 : World), FlI w W W.length w2 → False) :
    Calls Try.prog 82 #[V, .func (.func 83) #[] #[]] w (ResT (sumW W) w) := by
  have t2 := Try.underlying45
  have t93 := Try.underlying125
  have hmm := @run_makeMap Try.prog
  obtain ⟨⟨a, cap, rfl⟩, hsm, VS, hc, hr⟩ := h
  have HC : Hid (∀ i, i < W.length → ∃ b off, a = some ⟨b, off, none⟩ ∧ w.cell? ⟨b, off + i, none⟩ = some (VS i)) := Lib.hid fun i hi => by
    obtain ⟨b, off, ⟨cap', e⟩, hc'⟩ := hc.resolve_left (by omega)
    cases e
    exact ⟨b, off, rfl, hc' i hi⟩
  have HR := Lib.hid hr
  have HW := Lib.hid hW
  have P0 : Hid (FlI w W 0 ((w.alloc (.cells #[.slice none 0 0] 45)).alloc (.map #[] 0))) := Lib.hid (by
    have b1 : Below w.heap.size w (w.alloc (.cells #[.slice none 0 0] 45)) := (Below.refl _ w).alloc (Nat.le_refl _) _
    refine ⟨b1.alloc b1.size _, (Box1.new w _ _).alloc _, 0, .map [], fun _ => .slice none 0 0, Nat.le_refl _, ?_⟩
    have := MapG.start w (w.alloc (.cells #[.slice none 0 0] 45))
    rw [World.size_alloc] at this
    exact this)
  clear hc hr hW
  go_enter Try.func82, Try.ntmps82
  go_wp2_with fail
  go_loopw [7, 14] (fun _ kv wr => ∃ i : Nat, i ≤ W.length ∧ kv = .int .i64 (i : Int) ∧ Hid (FlI w W i wr)) (fun _ kv _ => W.length - (intOf kv).toNat)
  case atStart => exact ⟨0, Nat.zero_le _, rfl, P0⟩
  case round =>
    clear P0
    obtain ⟨i, hi, rfl, hI⟩ := hrel
    by_cases hlt : i < W.length
    · have hlt' : (i : Int) < (W.length : Int) := by omega
      obtain ⟨b, off, rfl, hcell⟩ := HC.out i hlt
      have c1 : wr.cell? ⟨b, off + i, none⟩ = some (VS i) := (hI.out.bel.cell (p := ⟨b, off + i, none⟩) (World.block_lt_of_cell? w _ hcell)).trans hcell
      obtain ⟨x, v, ex, hwf, hv1⟩ := HW.out i hlt
      have r1 := HR.out i hlt
      rw [ex] at r1
      obtain ⟨wa, wc, ev, hwc, hwm, hcs⟩ := r1
      obtain ⟨wb, wo, rfl, hcz⟩ := hcs.resolve_left (fun h => by have := h.2; simp at hwc; omega)
      rw [ev] at c1
      have hx0 : w.cell? ⟨wb, wo, none⟩ = some (.int .i64 x) := by have := hcz 0 (by simp); simpa using this
      have HX0 : Hid (∀ wx, Below w.heap.size w wx → wx.cell? ⟨wb, wo, none⟩ = some (.int .i64 x)) := Lib.hid fun wx hb => (hb.cell (p := ⟨wb, wo, none⟩) (World.block_lt_of_cell? w _ hx0)).trans hx0
      have c2 : wr.cell? ⟨wb, wo, none⟩ = some (.int .i64 x) := (hI.out.bel.cell (p := ⟨wb, wo, none⟩) (World.block_lt_of_cell? w _ hx0)).trans hx0
      have hlen : (x :: v).length = v.length + 1 := rfl
      rw [hlen] at c1 hwc
      obtain ⟨tc, rfl⟩ : ∃ tc, wc = tc + 1 := ⟨wc - 1, by omega⟩
      obtain ⟨tp, htp⟩ : ∃ tp : Option Addr, (if tc = 0 then some (⟨wb, wo, none⟩ : Addr) else some ⟨wb, wo + 1, none⟩) = tp := ⟨_, rfl⟩
      have RV : RdN w (.slice tp v.length tc) v := by
        refine ⟨tp, tc, rfl, by omega, by unfold maxLen; omega, .inr ?_⟩
        by_cases e0 : tc = 0
        · rw [if_pos e0] at htp
          exact ⟨wb, wo, htp.symm, fun j hj => by omega⟩
        · rw [if_neg e0] at htp
          refine ⟨wb, wo + 1, htp.symm, fun j hj => ?_⟩
          have := hcz (j + 1) (by simp; omega)
          rw [show wo + (j + 1) = wo + 1 + j by omega] at this
          exact this
      obtain ⟨k, D, SV, hk, M⟩ := hI.out.map
      have bU : Below wr.heap.size wr ((wr.alloc (.cells #[.slice tp v.length tc] 65)).drew) := ((Below.refl _ wr).alloc (Nat.le_refl _) _).drew
      obtain ⟨xs, hxl, OWN, PUT⟩ := fl_put (hI.out.bel.step1 bU) (hI.out.box.up bU) hk (by omega) hlt (M.below bU) ex hwf RV
      have c3 : (wr.alloc (.cells #[.slice tp v.length tc] 65)).cell? ⟨wb, wo, none⟩ = some (.int .i64 x) := (((Below.refl _ wr).alloc (Nat.le_refl _) _).cell (p := ⟨wb, wo, none⟩) (World.block_lt_of_cell? wr _ c2)).trans c2
      have PUT := Lib.hid PUT
      have OWN := Lib.hid OWN
      have LK : ∀ U : World, U.ownsMap Try.prog 2 RawG (w.heap.size + 1) k D → (Instr.lookup 125 (.map (some (w.heap.size + 1))) (.int .i64 x) false).run Try.prog U = .ok (SV x) U := fun U hU => by
        obtain ⟨v0, ps, h1, h2⟩ := hU.lookup keyedI Try.underlying125 (Try.zeroValue22 _) (zd := .held (.slice none 0 0)) (zp := []) rfl (keyOf_int_mk Try.underlying2 hwf)
        rw [M.at_ x] at h2
        have e : v0 = SV x := by
          unfold RawG at h2
          simp at h2
          exact h2.1
        rw [h1, e]
      have L1 := LK wr.drew M.own.drew
      have L2 := LK _ (M.below bU).own
      have SZ : w.heap.size + 1 + 1 ≤ ((wr.alloc (.cells #[.slice tp v.length tc] 65)).drew).heap.size := by
        have := M.own.lt
        simp
        omega
      have SZ := Lib.hid SZ
      have SRC : Hid (∀ jj u, [Value.slice tp v.length tc][jj]? = some u → ((wr.alloc (.cells #[.slice tp v.length tc] 65)).drew).cell? ((⟨wr.heap.size, 0, none⟩ : Addr).add jj) = some u) := Lib.hid fun jj u hu => by
        have h0 : jj = 0 := by have := (List.getElem?_eq_some_iff.1 hu).1; simp at this; omega
        subst h0
        simp at hu
        subst hu
        exact cell_of_row (wr.alloc (.cells #[.slice tp v.length tc] 65)) wr.heap.size 0 _ _ (0, 0) (heap_alloc_new wr _)
      have hn1 : (((v.length + 1 : Nat) : Int) == 0) = false := by rw [beq_eq_false_iff_ne]; omega
      have hn2 : (0 : Int) < ((v.length + 1 : Nat) : Int) := by omega
      have htl : (tlOf W i x).length ≤ 100000 := by
        have e1 : ∀ A : List (List Int), (tails x A).length ≤ A.length := fun A => by
          induction A with
          | nil => exact Nat.le_refl _
          | cons z A ih =>
            cases z with
            | nil => rw [tails]; simp; omega
            | cons y z => rw [tails]; split <;> simp <;> omega
        have := e1 (W.take i)
        rw [List.length_take] at this
        unfold tlOf
        omega
      generalize SV x = sx at L1 L2 OWN PUT
      generalize (tlOf W i x).length = tn at OWN PUT hxl htl
      have hs1 : (1 : Int) ≤ (v.length : Int) + 1 := by omega
      generalize v.length = vn at *
      clear LK M hI hcell hx0 hcs hcz ev ex RV bU hv1 hwm
      go_wp2_with fail
      go_region_law (first
        | (refine step_rows_at (by rfl) _ _ (by rfl) (w.heap.size + 1 + 1) tn sx xs (by rfl) OWN.out _ 1 1 [.slice tp vn tc] (by rfl) (.inr ⟨_, rfl, SRC.out⟩) rfl (by simp [Value.oneCell']) (by omega) SZ.out ?_; intro v7 w7 ho7 hg7 hl7; obtain ⟨b7, w8, hr8, F8⟩ := PUT.out v7 w7 ho7 hg7 hl7; have c7 := HX0.out w7 b7))
      all_goals
        have F8 := Lib.hid F8
        go_wp2_with fail
        go_roundw
        case rel => exact ⟨i + 1, by omega, by first | rfl | go_num, F8⟩
        case measure => simp [intOf]; omega
    · exact (REST wr (by have : i = W.length := by omega
                         subst this; exact hI.out)).elim
end Go.Proofs.Ytnmilkehggjpfaa.Ml
end
section
namespace Go.Proofs.Ytnmilkehggjpfaa.Ml
open Go.RowKit Go.Maps
set_option linter.unusedVariables false
set_option maxRecDepth 100000

theorem ranges_blocks {w w' : World} {P : Program} {k : TypeId} {R : Value → Option (DataW Value × List MemPlace)} {b r n : Nat} {D : DataW Value} {left : Lit → Bool} {cnt : Nat} (h : w.ranges P k R b r n D left cnt) (hb : w'.heap[b]? = w.heap[b]?) (hr : w'.heap[r]? = w.heap[r]?) : w'.ranges P k R b r n D left cnt := by
  obtain ⟨es, clock, since, seen, c0, h1, h2, h3, h4, h5, h6⟩ := h
  exact ⟨es, clock, since, seen, c0, hb.trans h1, h2, h3, h4, hr.trans h5, h6⟩
theorem ranges_lt {w : World} {P : Program} {k : TypeId} {R : Value → Option (DataW Value × List MemPlace)} {b r n : Nat} {D : DataW Value} {left : Lit → Bool} {cnt : Nat} (h : w.ranges P k R b r n D left cnt) : b < w.heap.size ∧ r < w.heap.size := by
  obtain ⟨es, clock, since, seen, c0, h1, h2, h3, h4, h5, h6⟩ := h
  exact ⟨(Array.getElem?_eq_some_iff.1 h1).1, (Array.getElem?_eq_some_iff.1 h5).1⟩
theorem ranges_below {w w' : World} {P : Program} {k : TypeId} {R : Value → Option (DataW Value × List MemPlace)} {b r n : Nat} {D : DataW Value} {left : Lit → Bool} {cnt : Nat} (h : w.ranges P k R b r n D left cnt) (m : Below w.heap.size w w') : w'.ranges P k R b r n D left cnt :=
  ranges_blocks h (m.block b (ranges_lt h).1) (m.block r (ranges_lt h).2)

/-- The product that belongs to a letter. -/
noncomputable def prK (W : List (List Int)) (k : Int) : List (List Int) := prodT (rowsOf [[k]]) (rowsOf (sumW (tails k W))) 1 (sumW (tails k W)).length
/-- The sum under way. -/
structure SumP (W : List (List Int)) (ks : List Int) (T : List (List Int)) : Prop where
  asc : Asc T
  mem : ∀ z, z ∈ T ↔ par (ks.flatMap (prK W)) z
  nd : ks.Nodup
  ne : ∀ x ∈ ks, tails x W ≠ []
theorem SumP.start (W : List (List Int)) : SumP W [] [] := ⟨List.Pairwise.nil, fun z => by simp [par], List.nodup_nil, fun x hx => by cases hx⟩
theorem tails_bound {W : List (List Int)} {d : Int} (h : ∀ l ∈ W, okW l ∧ l.sum = d) (hd : d ≤ 40) {k : Int} (hk : tails k W ≠ []) : 1 ≤ k ∧ k ≤ d := by
  obtain ⟨v, hv⟩ := List.exists_mem_of_ne_nil _ hk
  have h1 := h _ (tails_mem hv)
  have h2 := okW_head h1.1
  have h3 := okW_nonneg (l := v) (okW_tail h1.1).1
  have h4 := h1.2
  rw [List.sum_cons] at h4
  exact ⟨h2.1, by omega⟩
theorem prK_fac {W : List (List Int)} {d : Int} (h : ∀ l ∈ W, okW l ∧ l.sum = d) (hd : d ≤ 40) {k : Int} (hk : tails k W ≠ []) : Fac (rowsOf [[k]]) (rowsOf (sumW (tails k W))) 1 (sumW (tails k W)).length := by
  have := tails_bound h hd hk
  exact sumW_fac h this.1 hd this.2
theorem prK_good {W : List (List Int)} {d : Int} (h : ∀ l ∈ W, okW l ∧ l.sum = d) (hd : d ≤ 40) {k : Int} (hk : tails k W ≠ []) : ∀ x ∈ prK W k, goodE x ∧ dgL x = d := fun x hx => by
  have hb := tails_bound h hd hk
  have hF := prK_fac h hd hk
  have h1 := hF.good x hx
  have h2 := par_mem _ _ (((prodT_spec _ _ _ _).2 x).1 hx)
  have hpos : 0 < (sumW (tails k W)).length := by
    rcases Nat.eq_zero_or_pos (sumW (tails k W)).length with e | e
    · exfalso
      rw [e] at h2
      simp [call, crow] at h2
    · exact e
  have e1 : dgL (rowsOf (sumW (tails k W)) 0) = d - k := by
    refine (sumW_good (tails_ok (k := k) h) _ ?_).2
    unfold rowsOf
    rw [List.getElem?_eq_getElem hpos]
    exact List.getElem_mem hpos
  refine ⟨h1.1, ?_⟩
  rw [h1.2, e1]
  show dgL [k] + (d - k) = d
  rw [(good_one hb.1 (by omega)).2]
  omega
theorem SumP.good {W : List (List Int)} {ks : List Int} {T : List (List Int)} {d : Int} (s : SumP W ks T) (h : ∀ l ∈ W, okW l ∧ l.sum = d) (hd : d ≤ 40) : ∀ x ∈ T, goodE x ∧ dgL x = d := fun x hx => by
  have h1 := par_mem _ _ ((s.mem x).1 hx)
  obtain ⟨k, hk, hx⟩ := List.mem_flatMap.1 h1
  exact prK_good h hd (s.ne k hk) x hx
theorem SumP.step {W : List (List Int)} {ks : List Int} {T : List (List Int)} {k : Int} (s : SumP W ks T) (hk : tails k W ≠ []) (hn : k ∉ ks) : SumP W (k :: ks) (mrg T (prK W k)) := by
  obtain ⟨h1, h2⟩ := mrg_spec T (prK W k) s.asc (prodT_spec _ _ _ _).1
  refine ⟨h1, fun z => ?_, List.nodup_cons.2 ⟨hn, s.nd⟩, fun x hx => ?_⟩
  · have e : par (prK W k) z ↔ z ∈ prK W k := par_nodup _ (prodT_spec _ _ _ _).1.nodup z
    rw [h2, List.flatMap_cons, par_append, e, ← s.mem z]
    by_cases a : z ∈ T <;> by_cases b : z ∈ prK W k <;> simp [a, b]
  · rcases List.mem_cons.1 hx with h | h
    · rw [h]; exact hk
    · exact s.ne x h
theorem tails_of_mem {x : Int} {v : List Int} : ∀ {W : List (List Int)}, (x :: v) ∈ W → tails x W ≠ []
  | [], h => by cases h
  | w :: W, h => by
    rcases List.mem_cons.1 h with h | h
    · subst h
      rw [tails, if_pos rfl]
      simp
    · have := tails_of_mem h
      cases w with
      | nil => rw [tails]; exact this
      | cons y u =>
        rw [tails]
        split
        · simp
        · exact this
/-- When all letters are done the sum is there. -/
theorem SumP.fin {W : List (List Int)} {ks : List Int} {T : List (List Int)} (s : SumP W ks T) (hW : ∀ w ∈ W, ∃ x v, w = x :: v) (hall : ∀ x, tails x W ≠ [] → x ∈ ks) : T = sumW W :=
  sumW_group W ks s.nd (fun w hw => by
    obtain ⟨x, v, rfl⟩ := hW w hw
    exact ⟨x, v, rfl, hall x (tails_of_mem hw)⟩) s.asc s.mem
end Go.Proofs.Ytnmilkehggjpfaa.Ml
end
section
namespace Go.Proofs.Ytnmilkehggjpfaa.Ml
open Go.RowKit Go.Maps
set_option linter.unusedVariables false
set_option maxRecDepth 100000

/-- The state: sb is the sum's box, sb + 1 the range's. -/
structure SjI (w : World) (W : List (List Int)) (sb k : Nat) (D : DataW Value) (SV : Int → Value) (ks : List Int) (T : List (List Int)) (S : Value) (VS : Nat → Value) (left : Lit → Bool) (cnt : Nat) (wz : World) : Prop where
  bel : Below w.heap.size w wz
  box : Box1 wz w.heap.size 45 (.slice none 0 0)
  map : MapG w wz (w.heap.size + 1 + 1) (w.heap.size + 1) k D SV (fun x => tails x W)
  off : ∀ x g, (SV x).ownBlock = some g → g < sb
  rg : wz.ranges Try.prog 2 RawG (w.heap.size + 1) (sb + 1) k D left cnt
  bS : Box1 wz sb 45 S
  ge : w.heap.size + 1 + 1 ≤ sb
  fam : FamL wz (sb + 2) S VS T
  sep : Sep T.length VS
  sum : SumP W ks T
  lf : ∀ x, left (.int .i64 x) = true ↔ tails x W ≠ [] ∧ x ∉ ks
section
variable {w wz w1 : World} {W : List (List Int)} {sb k : Nat} {D : DataW Value} {SV : Int → Value} {ks : List Int} {T : List (List Int)} {S : Value} {VS : Nat → Value} {left left1 : Lit → Bool} {cnt cnt1 : Nat}
/-- Only the range's block has turned: the next letter has come. -/
structure SjT (w : World) (W : List (List Int)) (sb k : Nat) (D : DataW Value) (SV : Int → Value) (ks : List Int) (T : List (List Int)) (S : Value) (VS : Nat → Value) (wz : World) : Prop where
  bel : Below w.heap.size w wz
  box : Box1 wz w.heap.size 45 (.slice none 0 0)
  map : MapG w wz (w.heap.size + 1 + 1) (w.heap.size + 1) k D SV (fun x => tails x W)
  off : ∀ x g, (SV x).ownBlock = some g → g < sb
  bS : Box1 wz sb 45 S
  ge : w.heap.size + 1 + 1 ≤ sb
  lt : sb + 1 < wz.heap.size
  fam : FamL wz (sb + 2) S VS T
  sep : Sep T.length VS
  sum : SumP W ks T
theorem SjI.t (h : SjI w W sb k D SV ks T S VS left cnt wz) : SjT w W sb k D SV ks T S VS wz := ⟨h.bel, h.box, h.map, h.off, h.bS, h.ge, (ranges_lt h.rg).2, h.fam, h.sep, h.sum⟩
theorem own_ge_ne {U : World} {B g n s : Nat} {e : TypeId} {v : Value} {xs : List Value} (h : U.ownsRow B e s v n xs) (hg : g < B) : v.ownBlock = none ∨ v.ownBlock ≠ some g := by
  by_cases e2 : v.ownBlock = some g
  · have := (h.lt g e2).1
    omega
  · exact .inr e2
theorem SjT.turn (h : SjT w W sb k D SV ks T S VS wz) (hg : wz.grownBy w1 (some (sb + 1))) : SjT w W sb k D SV ks T S VS w1 := by
  have hge := h.ge
  have off : ∀ x, (SV x).ownBlock = none ∨ (SV x).ownBlock ≠ some (sb + 1) := fun x => by
    by_cases e : (SV x).ownBlock = some (sb + 1)
    · have := h.off x _ e; omega
    · exact .inr e
  refine ⟨h.bel.grown hg h.bel.size (fun q hq => by have := Option.some.inj hq; omega), (hg.block _ h.box.lt (fun e => by have := Option.some.inj e; omega)).trans h.box, ⟨h.map.own.kept hg (fun e => by have := Option.some.inj e; omega), h.map.low, h.map.at_, h.map.has_, fun x => (h.map.grp x).kept hg (off x), h.map.sep⟩, h.off,
    (hg.block _ h.bS.lt (fun e => by have := Option.some.inj e; omega)).trans h.bS, hge, Nat.lt_of_lt_of_le h.lt hg.size, ⟨h.fam.out.kept hg (own_ge_ne h.fam.out (by omega)), fun i hi => (h.fam.inn i hi).kept hg (own_ge_ne (h.fam.inn i hi) (by omega))⟩, h.sep, h.sum⟩
theorem SjT.up (h : SjT w W sb k D SV ks T S VS wz) (b : Below wz.heap.size wz w1) : SjT w W sb k D SV ks T S VS w1 :=
  ⟨h.bel.step1 b, h.box.up b, h.map.below b, h.off, h.bS.up b, h.ge, Nat.lt_of_lt_of_le h.lt b.size, Fam.below h.fam b, h.sep, h.sum⟩
/-- The sum is stored. -/
theorem SjT.store {w6 : World} {V : Value} {U : Nat → Value} {x : Int} (h : SjT w W sb k D SV ks T S VS w1) (b : Below w1.heap.size w1 w6) (f : FamL w6 w1.heap.size V U (mrg T (prK W x))) (s : Sep (mrg T (prK W x)).length U) (hx : tails x W ≠ []) (hn : x ∉ ks)
    (rg : w1.ranges Try.prog 2 RawG (w.heap.size + 1) (sb + 1) k D left cnt) (lf : ∀ z, left (.int .i64 z) = true ↔ tails z W ≠ [] ∧ z ∉ x :: ks) : SjI w W sb k D SV (x :: ks) (mrg T (prK W x)) V U left cnt (w6.setCell ⟨sb, 0, none⟩ V) := by
  have h6 := h.up b
  have hge := h.ge
  have hlt := h.lt
  have ob : ∀ q, q ≠ sb → (w6.setCell ⟨sb, 0, none⟩ V).heap[q]? = w6.heap[q]? := fun q hq => heap_setCell_other _ _ _ _ hq
  have r6 := ranges_below rg b
  have rl := ranges_lt rg
  refine ⟨h6.bel.setCell (p := ⟨sb, 0, none⟩) (by simp; omega) V, (ob _ (by omega)).trans h6.box, ⟨h6.map.own.setCell (a := ⟨sb, 0, none⟩) (by simp; omega) V, h6.map.low, h6.map.at_, h6.map.has_, fun z => ?_, h6.map.sep⟩, h6.off, ranges_blocks r6 (ob _ (by omega)) (ob _ (by omega)), h6.bS.set V, hge, ?_, s, h6.sum.step hx hn, lf⟩
  · obtain ⟨VZ, g1, g2⟩ := h6.map.grp z
    exact ⟨VZ, own_sameblock g1 fun q hq => ob q (by have := h.off z q hq; omega), g2⟩
  · exact (Fam.same f fun q hq hlt2 => ob q (by omega)).base (by omega)
end
end Go.Proofs.Ytnmilkehggjpfaa.Ml
end
section
namespace Go.Proofs.Ytnmilkehggjpfaa.Ml
open Go.RowKit
set_option linter.unusedVariables false
set_option maxRecDepth 100000

/-- The exponents of P(s, t). -/
def ePl (s t : Nat) : List Int := (List.replicate t (0 : Int)).set (t - 1) ((2 ^ s : Nat) : Int)
theorem ePl_len (s t : Nat) : (ePl s t).length = t := by simp [ePl]
def okP (s t : Nat) : Bool := decide (dgr (fun i => (ePl s t)[i]?.getD 0) t = (((2 ^ t - 1) * 2 ^ s : Nat) : Int)) && decide ((2 ^ t - 1) * 2 ^ s ≤ 1047552 ∧ 1 ≤ 2 ^ s ∧ 2 ^ s ≤ 1024 ∧ 2 ^ t - 1 ≤ 1023)
theorem okP_b : ∀ s, s < 11 → ∀ t, t < 11 → okP s t = true := by decide +kernel
theorem okP_all {s t : Nat} (hs : s ≤ 10) (ht : t ≤ 10) : dgr (fun i => (ePl s t)[i]?.getD 0) t = (((2 ^ t - 1) * 2 ^ s : Nat) : Int) ∧ (2 ^ t - 1) * 2 ^ s ≤ 1047552 ∧ 1 ≤ 2 ^ s ∧ 2 ^ s ≤ 1024 ∧ 2 ^ t - 1 ≤ 1023 := by
  have h := okP_b s (by omega) t (by omega)
  unfold okP at h
  obtain ⟨a, b⟩ := Bool.and_eq_true_iff.1 h
  exact ⟨of_decide_eq_true a, of_decide_eq_true b⟩

/-- The result's struct was stored into its variable, which lies ahead of all else. -/
theorem fin1 {w w5 : World} {g : Nat} {V x : Value} {VS : Nat → Value} {L : List (List Int)} (hF : FamL w5 g V VS L) (hBe : Below w.heap.size w w5) (h1 : w.heap.size < g) (BR : Box1 w5 w.heap.size 45 x) :
    Box1 (w5.setCell ⟨w.heap.size, 0, none⟩ V) w.heap.size 45 V ∧ FamL (w5.setCell ⟨w.heap.size, 0, none⟩ V) w.heap.size V VS L ∧ Below w.heap.size w (w5.setCell ⟨w.heap.size, 0, none⟩ V) :=
  ⟨BR.set V, (Fam.same hF fun q hq hlt => heap_setCell_other _ _ _ _ (by simp; omega)).base (by omega), hBe.setCell (p := ⟨w.heap.size, 0, none⟩) (Nat.le_refl _) V⟩
/-- One list in a list. -/
theorem one_fam {w3 : World} {B : Nat} {v : Value} {x : List Int} (h : w3.ownsRow B 2 1 v x.length (x.map (Value.int .i64))) (hB : B ≤ w3.heap.size) : FamL (w3.alloc (.cells #[v] 65)) B (.slice (some ⟨w3.heap.size, 0, none⟩) 1 1) (fun _ => v) [x] := by
  refine ⟨⟨rfl, .inr ⟨w3.heap.size, 1, #[v], rfl, hB, heap_alloc_new w3 _, Nat.le_refl _, by unfold maxLen; omega, rfl, by simp [List.range_succ]⟩⟩, fun i hi => ?_⟩
  obtain rfl : i = 0 := by simp at hi; exact hi
  exact h.alloc _
theorem one_sep (v : Value) (x : List Int) : Sep [x].length (fun _ => v) := fun i j hi hj hij => by simp at hi hj; omega

end Go.Proofs.Ytnmilkehggjpfaa.Ml
end
