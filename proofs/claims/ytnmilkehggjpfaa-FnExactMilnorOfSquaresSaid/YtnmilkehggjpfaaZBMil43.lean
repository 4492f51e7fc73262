/-
  Joined: PSumM, PSumN.
-/
import Derived.Test.YtnmilkehggjpfaaZBMil42
section
namespace Go.Proofs.Ytnmilkehggjpfaa.Ml
open Go.RowKit Go.Maps
set_option linter.unusedVariables false
set_option maxRecDepth 100000

set_option maxHeartbeats 4000000 in
theorem sumOver_ok (V : Value) (W : List (List Int)) (w : World) (h : RdW w V W) (hW : ∀ i, i < W.length → ∃ x v, W[i]?.getD [] = x :: v ∧ (Lit.int .i64 x).wf = true ∧ v.length ≤ 1000) (hl : W.length ≤ 100000)
    (d : Int) (hd : d ≤ 40) (hok : ∀ l ∈ W, okW l ∧ l.sum = d)
    (REC : Hid (∀ x, tails x W ≠ [] → ∀ wx S, Below w.heap.size w wx → RdW wx S (tails x W) → Calls Try.prog 82 #[S, .func (.func 83) #[] #[]] wx (ResT (sumW (tails x W)) wx))) :
    Calls Try.prog 82 #[V, .func (.func 83) #[] #[]] w (ResT (sumW W) w) := by
  have t2 := Try.underlying45
  have t93 := Try.underlying125
  have hmm := @run_makeMap Try.prog
  obtain ⟨⟨a, cap, rfl⟩, hsm, VS, hc, hr⟩ := h
  have HC : Hid (∀ i, i < W.length → ∃ b off, a = some ⟨b, off, none⟩ ∧ w.cell? ⟨b, off + i, none⟩ = some (VS i)) := Lib.hid fun i hi => by
    obtain ⟨b, off, ⟨cap', e⟩, hc'⟩ := hc.resolve_left (by omega)
    cases e
    exact ⟨b, off, rfl, hc' i hi⟩
  have HR := Lib.hid hr
  have HW := Lib.hid hW
  have HOK := Lib.hid hok
  have P0 : Hid (FlI w W 0 ((w.alloc (.cells #[.slice none 0 0] 45)).alloc (.map #[] 0))) := Lib.hid (by
    have b1 : Below w.heap.size w (w.alloc (.cells #[.slice none 0 0] 45)) := (Below.refl _ w).alloc (Nat.le_refl _) _
    refine ⟨b1.alloc b1.size _, (Box1.new w _ _).alloc _, 0, .map [], fun _ => .slice none 0 0, Nat.le_refl _, ?_⟩
    have := MapG.start w (w.alloc (.cells #[.slice none 0 0] 45))
    rw [World.size_alloc] at this
    exact this)
  clear hc hr hW hok
  go_enter Try.func82, Try.ntmps82
  go_wp2_with fail
  go_loopw [7, 14] (fun _ kv wr => ∃ i : Nat, i ≤ W.length ∧ kv = .int .i64 (i : Int) ∧ Hid (FlI w W i wr)) (fun _ kv _ => W.length - (intOf kv).toNat)
  case atStart => exact ⟨0, Nat.zero_le _, rfl, P0⟩
  case round =>
    clear P0
    obtain ⟨i, hi, rfl, hI⟩ := hrel
    by_cases hlt : i < W.length
    · have hlt' : (i : Int) < (W.length : Int) := by omega
      obtain ⟨b, off, rfl, hcell⟩ := HC.out i hlt
      have c1 : wr.cell? ⟨b, off + i, none⟩ = some (VS i) := (hI.out.bel.cell (p := ⟨b, off + i, none⟩) (World.block_lt_of_cell? w _ hcell)).trans hcell
      obtain ⟨x, v, ex, hwf, hv1⟩ := HW.out i hlt
      have r1 := HR.out i hlt
      rw [ex] at r1
      obtain ⟨wa, wc, ev, hwc, hwm, hcs⟩ := r1
      obtain ⟨wb, wo, rfl, hcz⟩ := hcs.resolve_left (fun h => by have := h.2; simp at hwc; omega)
      rw [ev] at c1
      have hx0 : w.cell? ⟨wb, wo, none⟩ = some (.int .i64 x) := by have := hcz 0 (by simp); simpa using this
      have HX0 : Hid (∀ wx, Below w.heap.size w wx → wx.cell? ⟨wb, wo, none⟩ = some (.int .i64 x)) := Lib.hid fun wx hb => (hb.cell (p := ⟨wb, wo, none⟩) (World.block_lt_of_cell? w _ hx0)).trans hx0
      have c2 : wr.cell? ⟨wb, wo, none⟩ = some (.int .i64 x) := (hI.out.bel.cell (p := ⟨wb, wo, none⟩) (World.block_lt_of_cell? w _ hx0)).trans hx0
      have hlen : (x :: v).length = v.length + 1 := rfl
      rw [hlen] at c1 hwc
      obtain ⟨tc, rfl⟩ : ∃ tc, wc = tc + 1 := ⟨wc - 1, by omega⟩
      obtain ⟨tp, htp⟩ : ∃ tp : Option Addr, (if tc = 0 then some (⟨wb, wo, none⟩ : Addr) else some ⟨wb, wo + 1, none⟩) = tp := ⟨_, rfl⟩
      have RV : RdN w (.slice tp v.length tc) v := by
        refine ⟨tp, tc, rfl, by omega, by unfold maxLen; omega, .inr ?_⟩
        by_cases e0 : tc = 0
        · rw [if_pos e0] at htp
          exact ⟨wb, wo, htp.symm, fun j hj => by omega⟩
        · rw [if_neg e0] at htp
          refine ⟨wb, wo + 1, htp.symm, fun j hj => ?_⟩
          have := hcz (j + 1) (by simp; omega)
          rw [show wo + (j + 1) = wo + 1 + j by omega] at this
          exact this
      obtain ⟨k, D, SV, hk, M⟩ := hI.out.map
      have bU : Below wr.heap.size wr ((wr.alloc (.cells #[.slice tp v.length tc] 65)).drew) := ((Below.refl _ wr).alloc (Nat.le_refl _) _).drew
      obtain ⟨xs, hxl, OWN, PUT⟩ := fl_put (hI.out.bel.step1 bU) (hI.out.box.up bU) hk (by omega) hlt (M.below bU) ex hwf RV
      have c3 : (wr.alloc (.cells #[.slice tp v.length tc] 65)).cell? ⟨wb, wo, none⟩ = some (.int .i64 x) := (((Below.refl _ wr).alloc (Nat.le_refl _) _).cell (p := ⟨wb, wo, none⟩) (World.block_lt_of_cell? wr _ c2)).trans c2
      have PUT := Lib.hid PUT
      have OWN := Lib.hid OWN
      have LK : ∀ U : World, U.ownsMap Try.prog 2 RawG (w.heap.size + 1) k D → (Instr.lookup 125 (.map (some (w.heap.size + 1))) (.int .i64 x) false).run Try.prog U = .ok (SV x) U := fun U hU => by
        obtain ⟨v0, ps, h1, h2⟩ := hU.lookup keyedI Try.underlying125 (Try.zeroValue22 _) (zd := .held (.slice none 0 0)) (zp := []) rfl (keyOf_int_mk Try.underlying2 hwf)
        rw [M.at_ x] at h2
        have e : v0 = SV x := by
          unfold RawG at h2
          simp at h2
          exact h2.1
        rw [h1, e]
      have L1 := LK wr.drew M.own.drew
      have L2 := LK _ (M.below bU).own
      have SZ : w.heap.size + 1 + 1 ≤ ((wr.alloc (.cells #[.slice tp v.length tc] 65)).drew).heap.size := by
        have := M.own.lt
        simp
        omega
      have SZ := Lib.hid SZ
      have SRC : Hid (∀ jj u, [Value.slice tp v.length tc][jj]? = some u → ((wr.alloc (.cells #[.slice tp v.length tc] 65)).drew).cell? ((⟨wr.heap.size, 0, none⟩ : Addr).add jj) = some u) := Lib.hid fun jj u hu => by
        have h0 : jj = 0 := by have := (List.getElem?_eq_some_iff.1 hu).1; simp at this; omega
        subst h0
        simp at hu
        subst hu
        exact cell_of_row (wr.alloc (.cells #[.slice tp v.length tc] 65)) wr.heap.size 0 _ _ (0, 0) (heap_alloc_new wr _)
      have hn1 : (((v.length + 1 : Nat) : Int) == 0) = false := by rw [beq_eq_false_iff_ne]; omega
      have hn2 : (0 : Int) < ((v.length + 1 : Nat) : Int) := by omega
      have htl : (tlOf W i x).length ≤ 100000 := by
        have e1 : ∀ A : List (List Int), (tails x A).length ≤ A.length := fun A => by
          induction A with
          | nil => exact Nat.le_refl _
          | cons z A ih =>
            cases z with
            | nil => rw [tails]; simp; omega
            | cons y z => rw [tails]; split <;> simp <;> omega
        have := e1 (W.take i)
        rw [List.length_take] at this
        unfold tlOf
        omega
      generalize SV x = sx at L1 L2 OWN PUT
      generalize (tlOf W i x).length = tn at OWN PUT hxl htl
      have hs1 : (1 : Int) ≤ (v.length : Int) + 1 := by omega
      generalize v.length = vn at *
      clear LK M hI hcell hx0 hcs hcz ev ex RV bU hv1 hwm
      go_wp2_with fail
      go_region_law (first
        | (refine step_rows_at (by rfl) _ _ (by rfl) (w.heap.size + 1 + 1) tn sx xs (by rfl) OWN.out _ 1 1 [.slice tp vn tc] (by rfl) (.inr ⟨_, rfl, SRC.out⟩) rfl (by simp [Value.oneCell']) (by omega) SZ.out ?_; intro v7 w7 ho7 hg7 hl7; obtain ⟨b7, w8, hr8, F8⟩ := PUT.out v7 w7 ho7 hg7 hl7; have c7 := HX0.out w7 b7))
      all_goals
        have F8 := Lib.hid F8
        go_wp2_with fail
        go_roundw
        case rel => exact ⟨i + 1, by omega, by first | rfl | go_num, F8⟩
        case measure => simp [intOf]; omega
    · have hiW : i = W.length := by omega
      subst hiW
      have hlt' : ¬ (W.length : Int) < (W.length : Int) := by omega
      obtain ⟨k, D, SV, hk, M⟩ := hI.out.map
      have etl : tlOf W W.length = fun x => tails x W := by funext x; unfold tlOf; rw [List.take_length]
      rw [etl] at M
      have hb1 : Below wr.heap.size wr (wr.alloc (.cells #[.slice none 0 0] 45)) := (Below.refl _ _).alloc (Nat.le_refl _) _
      have OWN := Lib.hid (M.below hb1).own
      have ST : Hid (∀ w0, (wr.alloc (.cells #[.slice none 0 0] 45)).grownBy w0 none → w0.ranges Try.prog 2 RawG (w.heap.size + 1) (wr.heap.size + 1) k D (Maps.has D) (Maps.size D) → SjI w W wr.heap.size k D SV [] [] (.slice none 0 0) (fun _ => undef) (Maps.has D) (Maps.size D) w0) := Lib.hid fun w0 hg hr => by
        have b0 : Below (wr.alloc (.cells #[.slice none 0 0] 45)).heap.size (wr.alloc (.cells #[.slice none 0 0] 45)) w0 := (Below.refl _ _).grown hg (Nat.le_refl _) (fun q hq => by cases hq)
        have b1 := hb1.step1 b0
        have hml := M.own.lt
        exact ⟨hI.out.bel.step1 b1, hI.out.box.up b1, M.below b1, fun x g e => ((M.grp x).blk e).2, hr, (Box1.new wr _ _).up b0, hml, famNil _ _, sepNil, SumP.start W, fun x => by rw [M.has_ x]; simp⟩
      have HAT := Lib.hid M.at_
      clear hI M hb1 etl hk
      go_wp2_with (at_range; refine wpList_range_own _ rfl _ 125 rfl 2 22 keyedI Try.underlying125 RawG (w.heap.size + 1) k D rfl OWN.out ?_; intro w0 hrg0 hg0 hs0)
      rw [World.size_alloc] at hrg0
      have J0 := Lib.hid (ST.out w0 hg0 hrg0)
      clear hrg0 hg0 hs0 ST OWN
      generalize wr.heap.size = sb at *
      go_wp2_with fail
      go_loopw [9, 10] (fun _ _ wz => ∃ (ks : List Int) (T : List (List Int)) (S : Value) (VS : Nat → Value) (left : Lit → Bool) (cnt : Nat), Hid (SjI w W sb k D SV ks T S VS left cnt wz)) (fun _ _ wz => wz.rangeLeft (w.heap.size + 1) (sb + 1))
      case atStart => exact ⟨_, _, _, _, _, _, J0⟩
      case round =>
        clear J0
        obtain ⟨ks, T, S, VS, left, cnt, hJ⟩ := hrel
        have hrg := hJ.out.rg
        go_wp2_with (at_next; refine wpList_next_ranges _ rfl _ rfl 2 keyedI RawG (Value.int .i64) id (fun key kl hk => by obtain ⟨x, e, _⟩ := keyOf_int_inv Try.underlying2 hk; exact ⟨x, e⟩) (fun v _ _ => ⟨v, rfl⟩) (w.heap.size + 1) (sb + 1) k D left cnt rfl hrg ?_ ?_)
        · intro hc0 hl0
          have hall : ∀ x, tails x W ≠ [] → x ∈ ks := fun x hx => by
            by_cases c : x ∈ ks
            · exact c
            · have h1 := (hJ.out.lf x).2 ⟨hx, c⟩
              rw [hl0] at h1
              cases h1
          have HT : Hid (T = sumW W) := Lib.hid (hJ.out.sum.fin (fun u hu => by
            obtain ⟨i, hi, rfl⟩ := List.mem_iff_getElem.1 hu
            obtain ⟨x, v, e, _⟩ := HW.out i hi
            rw [List.getElem?_eq_getElem hi] at e
            exact ⟨x, v, e⟩) hall)
          obtain ⟨sa, sc, rfl, _, _⟩ := hJ.out.fam.head
          have d0 := hJ.out.bS.c
          have dR := hJ.out.box.c
          have fR := hJ.out.box.fr 0
          have hge := hJ.out.ge
          have FIN := Lib.hid (fin1 (w := w) hJ.out.fam hJ.out.bel (by omega) hJ.out.box)
          have HS := Lib.hid hJ.out.sep
          clear hall hrg hc0 hl0 hJ
          go_wp2_with fail
          refine bodyPost_ret (results_cell_row rfl _ _ w.heap.size 45 _ (0, 0) _ rfl FIN.out.1 t2 rfl (by kernel_rfl)) rfl ?_
          rw [← HT.out]
          exact ⟨_, _, rfl, FIN.out.2.1, HS.out, FIN.out.2.2⟩
        · intro x c kl y1 y2 w1 cnt1 hkey hlk hR hat hrg1 hlt1 hg1 hs1 hen
          obtain ⟨x', ex, rfl, hwx⟩ := keyOf_int_inv Try.underlying2 hkey
          cases ex
          have ec : c = SV x := by
            have h1 := hat (.held (.slice none 0 0))
            rw [HAT.out x] at h1
            have h2 : (DataW.held c, ([] : List MemPlace)) = (y1, y2) := Option.some.inj hR
            have h3 : DataW.held c = y1 := congrArg Prod.fst h2
            rw [← h3] at h1
            exact (DataW.held.inj h1).symm
          have hx := (hJ.out.lf x).1 hlk
          have T1 := Lib.hid (hJ.out.t.turn hg1)
          have G1 := (T1.out.map.grp x).rdw T1.out.bel
          rw [← ec] at G1
          have RC : Hid (∀ wx, Below w1.heap.size w1 wx → Calls Try.prog 82 #[c, .func (.func 83) #[] #[]] wx (ResT (sumW (tails x W)) wx)) := Lib.hid fun wx hb => REC.out x hx.1 wx c (T1.out.bel.step1 hb) (G1.below hb)
          have FC := prK_fac HOK.out hd hx.1
          have SQ : Hid (∀ wx B V U, FamL wx B V U (sumW (tails x W)) → Calls Try.prog 83 #[.int .i64 x, .agg #[V]] wx (ResT (prK W x) wx)) := Lib.hid fun wx B V U f => by
            obtain ⟨va, vc, rfl, _, _⟩ := Fam.head f
            exact squareBefore_any x va _ vc (prK W x) wx (Lib.hid fun wy hy => implTimes FC _ _ (wSq wy x) (Fam.rdss (wSq_fam wy x)) (Fam.rdss (Fam.below f (hy.step1 (wSq_below wy x)))))
          have gT := hJ.out.sum.good HOK.out hd
          have gP := prK_good HOK.out hd hx.1
          have nT := okMl_few (okMl_of hJ.out.sum.asc d gT)
          have nP := FC.few
          have PL : Hid (∀ wx V1 V2 U1 U2 B1 B2, FamL wx B1 V1 U1 T → FamL wx B2 V2 U2 (prK W x) → Calls Try.prog 93 #[.agg #[V1], .agg #[V2]] wx (ResT (mrg T (prK W x)) wx)) := Lib.hid fun wx V1 V2 U1 U2 B1 B2 f1 f2 =>
            comPlus hJ.out.sum.asc (prodT_spec _ _ _ _).1 (fun z hz => good_ok (gT z hz).1) (fun z hz => good_ok (gP z hz).1) (by omega) nP wx V1 V2 U1 U2 B1 B2 f1 f2
          have lf2 : Hid (∀ z, (left (.int .i64 z) && !(Lit.int .i64 z).sameKey (.int .i64 x)) = true ↔ tails z W ≠ [] ∧ z ∉ x :: ks) := Lib.hid fun z => by
            rw [Bool.and_eq_true, hJ.out.lf z]
            by_cases e : z = x
            · subst e; simp [Lit.sameKey]
            · simp [Lit.sameKey, e]
          have STO := Lib.hid (fun w6 V U (b : Below w1.heap.size w1 w6) (f : FamL w6 w1.heap.size V U (mrg T (prK W x))) (s : Sep (mrg T (prK W x)).length U) => T1.out.store b f s hx.1 hx.2 hrg1 lf2.out)
          have MEA := Lib.hid hJ.out.rg
          obtain ⟨sa, sc, rfl, _, _⟩ := hJ.out.fam.head
          have d1 := T1.out.bS.c
          clear G1 FC gT gP nT nP hJ hrg ec hkey hlk hR hat hrg1 hg1 hs1 hx
          generalize T.length = tn at *
          go_wp2_with fail
          go_region_law (first
            | (go_simp; go_at_call 82; refine (RC.out _ ?_).mono ?_; (first | exact (Below.refl _ _).drew | exact Below.refl _ _); rintro e w5 ⟨V5, U5, rfl, f5, s5, b5⟩; obtain ⟨a5, c5, rfl, _, _⟩ := Fam.head f5; have B5 : Below w1.heap.size w1 w5 := (by first | exact b5 | exact Below.step1 ((Below.refl _ _).drew) b5); have d5 := (T1.out.bS.up B5).c)
            | (go_simp; go_at_call 83; refine (SQ.out _ _ _ _ f5).mono ?_; rintro e w6 ⟨V6, U6, rfl, f6, s6, b6⟩; obtain ⟨a6, c6, rfl, _, _⟩ := Fam.head f6; have B6 := Below.step1 B5 b6; have d6 := (T1.out.bS.up B6).c)
            | (go_simp; go_at_call 93; refine (PL.out _ _ _ _ _ _ _ (Fam.below T1.out.fam B6) f6).mono ?_; rintro e w7 ⟨V7, U7, rfl, f7, s7, b7⟩; obtain ⟨a7, c7, rfl, _, _⟩ := Fam.head f7; have B7 := Below.step1 B6 b7; have d7 := (T1.out.bS.up B7).c; have e7 := (T1.out.bS.up B7).fr 0))
          all_goals
            have J7 := Lib.hid (STO.out _ _ _ B7 (Fam.base f7 B6.size) s7)
            go_wp2_with fail
            go_roundw
            case rel => exact ⟨_, _, _, _, _, cnt1, J7⟩
            case measure =>
              rw [J7.out.rg.left_eq, MEA.out.left_eq]
              omega
end Go.Proofs.Ytnmilkehggjpfaa.Ml
end
section
namespace Go.Proofs.Ytnmilkehggjpfaa.Ml
open Go.RowKit Go.Maps
set_option linter.unusedVariables false
set_option maxRecDepth 100000

theorem len_sum : ∀ {l : List Int}, (∀ z ∈ l, 1 ≤ z) → (l.length : Int) ≤ l.sum
  | [], _ => by simp
  | n :: l, h => by
    have h1 := h n List.mem_cons_self
    have h2 := len_sum (l := l) fun z hz => h z (List.mem_cons_of_mem _ hz)
    rw [List.sum_cons, List.length_cons]
    omega
theorem tails_nodup {k : Int} : ∀ {W : List (List Int)}, W.Nodup → (tails k W).Nodup
  | [], _ => List.nodup_nil
  | [] :: W, h => tails_nodup (W := W) (List.nodup_cons.1 h).2
  | (x :: v) :: W, h => by
    have h1 := List.nodup_cons.1 h
    rw [tails]
    by_cases e : x = k
    · subst e
      rw [if_pos rfl]
      exact List.nodup_cons.2 ⟨fun hm => h1.1 (tails_mem hm), tails_nodup h1.2⟩
    · rw [if_neg e]
      exact tails_nodup h1.2
theorem tails_len {k : Int} : ∀ W : List (List Int), (tails k W).length ≤ W.length
  | [] => Nat.le_refl _
  | [] :: W => by have := tails_len (k := k) W; rw [tails, List.length_cons]; omega
  | (x :: v) :: W => by
    have := tails_len (k := k) W
    rw [tails]
    split <;> simp <;> omega
theorem sumW_unit : sumW [[]] = [[]] := (sumW_eq (T := [[]]) (W := [[]]) (List.pairwise_singleton _ _) fun z => by
  have : ([[]] : List (List Int)).flatMap wT = [[]] := rfl
  rw [this, par_nodup _ (by simp)]).symm

/-- impl.unitElement. -/
theorem unitElement_any (w : World) : Calls Try.prog 115 #[] w (ResT [[]] w) := by
  have t2 := Try.underlying45
  obtain ⟨w1, hw1⟩ : ∃ w1, w1 = (w.alloc (.cells #[.slice none 0 0] 45)) := ⟨_, rfl⟩
  have B1 : Hid (Below w.heap.size w w1) := Lib.hid (by rw [hw1]; exact (Below.refl _ w).alloc (Nat.le_refl _) _)
  have X1 : Hid (Box1 w1 w.heap.size 45 (.slice none 0 0)) := Lib.hid (by rw [hw1]; exact Box1.new _ _ _)
  have WD := Lib.hid (wd_start w1)
  have X3 := Lib.hid (X1.out.up WD.out.bel)
  have B3 := Lib.hid (B1.out.step1 WD.out.bel)
  have hsz := X1.out.lt
  have FIN := Lib.hid (fin1 (w := w) WD.out.fam B3.out (by omega) X3.out)
  have HS := Lib.hid WD.out.sep
  have dR := X3.out.c
  have fR := X3.out.fr 0
  go_enter Try.func115, Try.ntmps115
  go_upto_region 1 with fail
  rw [← hw1]
  clear hw1
  have hcomm : ((w1.setCell ⟨w.heap.size, 0, none⟩ (.slice (some ⟨w1.heap.size + 1, 0, none⟩) 1 1)).alloc (.cells #[] 2)).alloc (.cells #[.slice (some ⟨w1.heap.size, 0, none⟩) 0 0] 65) = ((w1.alloc (.cells #[] 2)).alloc (.cells #[.slice (some ⟨w1.heap.size, 0, none⟩) 0 0] 65)).setCell ⟨w.heap.size, 0, none⟩ (.slice (some ⟨w1.heap.size + 1, 0, none⟩) 1 1) := by
    rw [World.setCell_alloc_past _ _ _ _ (by rw [World.size_alloc]; omega), World.setCell_alloc_past _ _ _ _ hsz]
  have HCM := Lib.hid hcomm
  clear hcomm
  go_wp2_with fail
  rw [HCM.out]
  refine bodyPost_ret (results_cell_row rfl _ _ w.heap.size 45 _ (0, 0) _ rfl FIN.out.1 t2 rfl (by kernel_rfl)) rfl ?_
  exact ⟨_, _, rfl, FIN.out.2.1, HS.out, FIN.out.2.2⟩

set_option maxHeartbeats 1000000 in
theorem sumOver_unit (V : Value) (w : World) (h : RdW w V [[]]) : Calls Try.prog 82 #[V, .func (.func 83) #[] #[]] w (ResT [[]] w) := by
  have t2 := Try.underlying45
  have t93 := Try.underlying125
  have hmm := @run_makeMap Try.prog
  obtain ⟨⟨a, cap, rfl⟩, hsm, VS, hc, hr⟩ := h
  obtain ⟨b, off, ⟨cap', e⟩, hc'⟩ := hc.resolve_left (by simp)
  cases e
  have h0 := hc' 0 (by simp)
  rw [Nat.add_zero] at h0
  obtain ⟨ra, rc, er, _, _, _⟩ := hr 0 (by simp)
  have er : VS 0 = .slice ra 0 rc := er
  rw [er] at h0
  have b1 : Below w.heap.size w (w.alloc (.cells #[.slice none 0 0] 45)) := (Below.refl _ w).alloc (Nat.le_refl _) _
  have B2 : Hid (Below w.heap.size w ((w.alloc (.cells #[.slice none 0 0] 45)).alloc (.map #[] 0))) := Lib.hid (b1.alloc b1.size _)
  have X2 : Hid (Box1 ((w.alloc (.cells #[.slice none 0 0] 45)).alloc (.map #[] 0)) w.heap.size 45 (.slice none 0 0)) := Lib.hid ((Box1.new w _ _).alloc _)
  have c2 := (B2.out.cell (p := ⟨b, off, none⟩) (World.block_lt_of_cell? w _ h0)).trans h0
  have UN := Lib.hid (unitElement_any ((w.alloc (.cells #[.slice none 0 0] 45)).alloc (.map #[] 0)))
  clear hc hr hc' h0 er b1
  show Calls Try.prog 82 #[.slice (some ⟨b, off, none⟩) 1 cap, .func (.func 83) #[] #[]] w (ResT [[]] w)
  go_enter Try.func82, Try.ntmps82
  go_wp2_with fail
  refine wp_loop_rounds 1 ?_
  rw [rounds_succ]
  go_wp2_with fail
  refine UN.out.mono ?_
  rintro e w5 ⟨V5, U5, rfl, f5, s5, b5⟩
  obtain ⟨av, cv, rfl, _, _⟩ := Fam.head f5
  have X5 := Lib.hid (X2.out.up b5)
  have B5 := Lib.hid (B2.out.step1 b5)
  have FIN := Lib.hid (fin1 (w := w) f5 B5.out (by rw [World.size_alloc, World.size_alloc]; omega) X5.out)
  have HS := Lib.hid s5
  clear f5 s5 b5 UN c2
  have dR := X5.out.c
  have fR := X5.out.fr 0
  go_wp2_with fail
  refine bodyPost_ret (results_cell_row rfl _ _ w.heap.size 45 _ (0, 0) _ rfl FIN.out.1 t2 rfl (by kernel_rfl)) rfl ?_
  exact ⟨_, _, rfl, FIN.out.2.1, HS.out, FIN.out.2.2⟩

theorem sumOver_any : ∀ (N : Nat) (W : List (List Int)) (d : Int) (V : Value) (w : World), d.toNat ≤ N → d ≤ 40 → (∀ l ∈ W, okW l ∧ l.sum = d) → W.Nodup → W.length ≤ 100000 → RdW w V W →
    Calls Try.prog 82 #[V, .func (.func 83) #[] #[]] w (ResT (sumW W) w)
  | N, W, d, V, w, hN, hd, hok, hn, hl, h => by
    by_cases he : [] ∈ W
    · have d0 : d = 0 := by have := (hok _ he).2; simpa using this.symm
      have all : ∀ l ∈ W, l = [] := fun l hl => by
        have h1 := hok l hl
        have h2 := len_sum h1.1.1
        rw [h1.2, d0] at h2
        exact List.eq_nil_of_length_eq_zero (by omega)
      have e : W = [[]] := by
        match W, he, all, hn with
        | [x], _, all, _ => rw [all x List.mem_cons_self]
        | x :: y :: W, _, all, hn =>
          exfalso
          have h1 := all x List.mem_cons_self
          have h2 := all y (List.mem_cons_of_mem _ List.mem_cons_self)
          exact (List.nodup_cons.1 hn).1 (by rw [h1, h2]; exact List.mem_cons_self)
      subst e
      rw [sumW_unit]
      exact sumOver_unit V w h
    · have hne : ∀ l ∈ W, ∃ x v, l = x :: v := fun l hl => by
        cases l with
        | nil => exact absurd hl he
        | cons x v => exact ⟨x, v, rfl⟩
      refine sumOver_ok V W w h (fun i hi => ?_) hl d hd hok (Lib.hid fun x hx wx S hb hS => ?_)
      · have hm := List.getElem_mem hi
        obtain ⟨x, v, e⟩ := hne _ hm
        have h1 := hok _ hm
        rw [e] at h1
        have h2 := okW_head h1.1
        have h3 := len_sum h1.1.1
        rw [h1.2, List.length_cons] at h3
        refine ⟨x, v, by rw [List.getElem?_eq_getElem hi, e]; rfl, (Bool.and_eq_true _ _).mpr ⟨decide_eq_true (by omega : (-9223372036854775808 : Int) ≤ x), decide_eq_true (by omega : x ≤ (9223372036854775807 : Int))⟩, by omega⟩
      · have hb2 := tails_bound hok hd hx
        exact sumOver_any (N - 1) (tails x W) (d - x) S wx (by omega) (by omega) (tails_ok hok) (tails_nodup hn) (by have := tails_len (k := x) W; omega) hS
  termination_by N => N
  decreasing_by omega
end Go.Proofs.Ytnmilkehggjpfaa.Ml
end
