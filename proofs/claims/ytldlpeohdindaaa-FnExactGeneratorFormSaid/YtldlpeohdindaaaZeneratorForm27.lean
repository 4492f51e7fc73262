/-
  Joined: RTimesL, RAll.
-/
import Derived.Test.YtldlpeohdindaaaZeneratorForm26
section
namespace Go.Proofs.Ytldlpeohdindaaa
open Go.RowKit Go.Maps
set_option linter.unusedVariables false
set_option maxRecDepth 100000

theorem keyNX_inj {n n' : Int} {x x' : List Int} {l : Lit} (hx : fits x) (hx' : fits x') (h : keyOf Try.prog 116 (keyNX n x) = some l) (h' : keyOf Try.prog 116 (keyNX n' x') = some l) : n = n' ∧ x = x' := by
  have e := keyedNX.inj h h'
  unfold keyNX at e
  have e2 := congrArg Array.toList (Value.agg.inj e)
  simp only [List.cons.injEq, Value.int.injEq, true_and] at e2
  exact ⟨e2.1, packK_inj x x' hx hx' (Array.toList_inj.1 e2.2)⟩
theorem okNX.fit {n : Int} {x : List Int} (h : okNX n x) : fits x := adm_fits h.2.1 (by have := h.1; have := h.2.2; omega)

/-- The reducer behind a put into the map of products. -/
theorem RInv.putP {R K gk gp n : Nat} {X : Nat → Prop} {w w' : World} {D : DataW Value} {l : Lit} {v : Value} (h : RInv R K gk gp X w) (hg : w.grownBy w' (some gp)) (ho : w'.ownsMap Try.prog 116 RawV gp n (D.put l (.held v)))
    (hD : Ent D (PhiP X w)) (hv : PhiP X w l v) : RInv R K gk gp X w' := by
  have m1 := h.m1
  have m2 := h.m2
  have kk : Kp2 gk gp w w' := Kp2.of_grown hg (.inr (.inl rfl))
  obtain ⟨D1, n1, o1, e1⟩ := h.known
  have up : ∀ l u, PhiP X w l u → PhiP X w' l u := fun l u ⟨⟨n, x, h1, h2, L, h3, h5, h6⟩, h4⟩ => ⟨⟨n, x, h1, h2, L, h3, h5, h6.kp (res_ok h1 h5) m1 m2 kk⟩, h4.ext hg.size fun g hg => .inl hg⟩
  exact ⟨heap_kp h.obj m1 m2 kk, heap_kp h.box m1 m2 kk, ⟨D1, n1, o1.kept hg (by simpa using h.ne), e1.mono fun l u ⟨⟨a, b, h1, h2, h3⟩, h4⟩ => ⟨⟨a, b, h1, h2, RdI.kp h3 m1 m2 kk⟩, h4.ext hg.size fun g hg => .inl hg⟩⟩, ⟨_, n, ho, (hD.mono up).put l v (up l v hv)⟩, h.ne, h.nx⟩
theorem js_len (b n : Int) (hn : n ≤ 40) : (js b n).length ≤ 41 := by
  unfold js
  rw [List.length_map]
  have := List.length_filter_le (fun j => decide (bpar (b.toNat - j - 1) (n.toNat - 2 * j) = 1)) (List.range (n.toNat / 2 + 1))
  rw [List.length_range] at this
  omega
theorem js_at (b n : Int) (hn : 0 ≤ n) (k : Nat) (h : k < (js b n).length) : ∃ j, (js b n)[k]?.getD 0 = j ∧ 0 ≤ j ∧ 2 * j ≤ n ∧ (js b n).take (k + 1) = (js b n).take k ++ [j] :=
  ⟨(js b n)[k], by rw [List.getElem?_eq_getElem h]; rfl, (js_mem hn (List.getElem_mem h)).1, (js_mem hn (List.getElem_mem h)).2, by rw [List.take_add_one, List.getElem?_eq_getElem h]; rfl⟩

set_option maxHeartbeats 2000000 in
theorem times_lt (R K gk gp f : Nat) (T : TimesAt R K gk gp f) (TS : TimesSumAt R K gk gp f) (X : Nat → Prop) (n b : Int) (r : List Int) (w : World) (hX : ∀ g, X g → g < w.heap.size) (hI : RInv R K gk gp X w) (hok : okT n (b :: r)) (h0 : n ≠ 0) (hlt : n < 2 * b) (hmu : mu n (b :: r) < f + 1) :
    Calls Try.prog 68 #[.pointer (some ⟨R, 0, none⟩), .int .i64 n, .agg (packK (b :: r))] w (RedPost R K gk gp X (admF 1700 n (b :: r)) w) := by
  obtain ⟨y1, y2, y3, y4, y5, y6, y7, e1, e2⟩ := packK_cons b r hok.fit
  have hb1 := isAdm_pos hok.adm
  have hrs := isAdm_sum (isAdm_tail hok.adm)
  have hs40 := hok.sum
  rw [List.sum_cons] at hs40
  have hn0 := hok.n0
  obtain ⟨l, hl⟩ := keyNX_mk n (b :: r) (wf64 n (by omega) (by omega)) hok.fit
  have hkey : keyNX n (b :: r) = .agg #[.int .i64 n, .int .u8 (b + 1), .int .u8 y1, .int .u8 y2, .int .u8 y3, .int .u8 y4, .int .u8 y5, .int .u8 y6, .int .u8 y7] := by
    unfold keyNX; rw [e1]
  have HKEY := Lib.hid hkey
  have D := Lib.hid fun wx => divided_word b r hok.fit wx
  rw [e1, e2] at D
  have HE1 := Lib.hid e1
  have HE2 := Lib.hid e2
  rw [e1]
  rw [hkey] at hl
  have HL := Lib.hid hl
  have hn1 : (n == 0) = false := by rw [beq_eq_false_iff_ne]; omega
  have hw0 : IntKind.i64.wrap (2 * b) = 2 * b := by rw [IntKind.wrap_i64]; omega
  have HI := Lib.hid hI
  have B1 : Hid (Below w.heap.size w (w.alloc (.cells #[.int .u8 (b + 1), .int .u8 y1, .int .u8 y2, .int .u8 y3, .int .u8 y4, .int .u8 y5, .int .u8 y6, .int .u8 y7] 72))) := Lib.hid ((Below.refl _ w).alloc (Nat.le_refl _) _)
  have H1 : Hid ((w.alloc (.cells #[.int .u8 (b + 1), .int .u8 y1, .int .u8 y2, .int .u8 y3, .int .u8 y4, .int .u8 y5, .int .u8 y6, .int .u8 y7] 72)).heap[w.heap.size]? = some (.cells #[.int .u8 (b + 1), .int .u8 y1, .int .u8 y2, .int .u8 y3, .int .u8 y4, .int .u8 y5, .int .u8 y6, .int .u8 y7] 72 (0, 0))) := Lib.hid (heap_alloc_new w _)
  clear hkey e1 e2 hl
  go_enter Try.func68, Try.ntmps68
  go_wp2_with fail
  refine (D.out _).mono ?_
  rintro e w2 ⟨rfl, b2⟩
  have hs2 : w.heap.size < w2.heap.size := by have := b2.size; simp at this; omega
  have B2 := Lib.hid (B1.out.trans (b2.mono (by simp)))
  have H2 : Hid (w2.heap[w.heap.size]? = _) := Lib.hid ((b2.block w.heap.size (by simp)).trans H1.out)
  have hge : ¬ 2 * b ≤ n := by omega
  have BA : Hid (Below w.heap.size w (w2.alloc (.cells #[Value.int .u8 y1, .int .u8 y2, .int .u8 y3, .int .u8 y4, .int .u8 y5, .int .u8 y6, .int .u8 y7, .int .u8 0] 72))) := Lib.hid (B2.out.alloc (by omega) _)
  have R2 : Hid ((w2.alloc (.cells #[Value.int .u8 y1, .int .u8 y2, .int .u8 y3, .int .u8 y4, .int .u8 y5, .int .u8 y6, .int .u8 y7, .int .u8 0] 72)).rangeAt w.heap.size 0 #[Value.int .u8 (b + 1), .int .u8 y1, .int .u8 y2, .int .u8 y3, .int .u8 y4, .int .u8 y5, .int .u8 y6, .int .u8 y7].toList) := Lib.hid (rangeOfP ((heap_alloc_old w2 _ (by omega)).trans H2.out))
  clear b2 B1 H1
  go_wp2_with (first | (refine ldKP rfl _ rfl w.heap.size 0 rfl #[Value.int .u8 (b + 1), .int .u8 y1, .int .u8 y2, .int .u8 y3, .int .u8 y4, .int .u8 y5, .int .u8 y6, .int .u8 y7] (R2.out) rfl ?_))
  have B4 : Hid (Below w.heap.size w ((w2.alloc (.cells #[Value.int .u8 y1, .int .u8 y2, .int .u8 y3, .int .u8 y4, .int .u8 y5, .int .u8 y6, .int .u8 y7, .int .u8 0] 72)).alloc (.cells #[Value.int .i64 n, .int .u8 (b + 1), .int .u8 y1, .int .u8 y2, .int .u8 y3, .int .u8 y4, .int .u8 y5, .int .u8 y6, .int .u8 y7] 116))) := Lib.hid (BA.out.alloc BA.out.size _)
  have k4 : ((w2.alloc (.cells #[Value.int .u8 y1, .int .u8 y2, .int .u8 y3, .int .u8 y4, .int .u8 y5, .int .u8 y6, .int .u8 y7, .int .u8 0] 72)).alloc (.cells #[Value.int .i64 n, .int .u8 (b + 1), .int .u8 y1, .int .u8 y2, .int .u8 y3, .int .u8 y4, .int .u8 y5, .int .u8 y6, .int .u8 y7] 116)).heap[w2.heap.size + 1]? = some (.cells #[Value.int .i64 n, .int .u8 (b + 1), .int .u8 y1, .int .u8 y2, .int .u8 y3, .int .u8 y4, .int .u8 y5, .int .u8 y6, .int .u8 y7] 116 (0, 0)) := by
    have := heap_alloc_new (w2.alloc (.cells #[Value.int .u8 y1, .int .u8 y2, .int .u8 y3, .int .u8 y4, .int .u8 y5, .int .u8 y6, .int .u8 y7, .int .u8 0] 72)) (.cells #[Value.int .i64 n, .int .u8 (b + 1), .int .u8 y1, .int .u8 y2, .int .u8 y3, .int .u8 y4, .int .u8 y5, .int .u8 y6, .int .u8 y7] 116)
    rw [World.size_alloc] at this
    exact this
  have r4 : ((w2.alloc (.cells #[Value.int .u8 y1, .int .u8 y2, .int .u8 y3, .int .u8 y4, .int .u8 y5, .int .u8 y6, .int .u8 y7, .int .u8 0] 72)).alloc (.cells #[Value.int .i64 n, .int .u8 (b + 1), .int .u8 y1, .int .u8 y2, .int .u8 y3, .int .u8 y4, .int .u8 y5, .int .u8 y6, .int .u8 y7] 116)).heap[w2.heap.size]? = some (.cells #[Value.int .u8 y1, .int .u8 y2, .int .u8 y3, .int .u8 y4, .int .u8 y5, .int .u8 y6, .int .u8 y7, .int .u8 0] 72 (0, 0)) := by
    have := heap_alloc_new w2 (.cells #[Value.int .u8 y1, .int .u8 y2, .int .u8 y3, .int .u8 y4, .int .u8 y5, .int .u8 y6, .int .u8 y7, .int .u8 0] 72)
    exact (heap_alloc_old (w2.alloc (.cells #[Value.int .u8 y1, .int .u8 y2, .int .u8 y3, .int .u8 y4, .int .u8 y5, .int .u8 y6, .int .u8 y7, .int .u8 0] 72)) _ (r := w2.heap.size) (by simp)).trans this
  have sz4 : ((w2.alloc (.cells #[Value.int .u8 y1, .int .u8 y2, .int .u8 y3, .int .u8 y4, .int .u8 y5, .int .u8 y6, .int .u8 y7, .int .u8 0] 72)).alloc (.cells #[Value.int .i64 n, .int .u8 (b + 1), .int .u8 y1, .int .u8 y2, .int .u8 y3, .int .u8 y4, .int .u8 y5, .int .u8 y6, .int .u8 y7] 116)).heap.size = w2.heap.size + 2 := by simp
  obtain ⟨w4, hw4⟩ : ∃ w4, ((w2.alloc (.cells #[Value.int .u8 y1, .int .u8 y2, .int .u8 y3, .int .u8 y4, .int .u8 y5, .int .u8 y6, .int .u8 y7, .int .u8 0] 72)).alloc (.cells #[Value.int .i64 n, .int .u8 (b + 1), .int .u8 y1, .int .u8 y2, .int .u8 y3, .int .u8 y4, .int .u8 y5, .int .u8 y6, .int .u8 y7] 116)) = w4 := ⟨_, rfl⟩
  rw [hw4] at B4 k4 r4 sz4 ⊢
  clear hw4 BA R2 H2 B2
  have I4 := Lib.hid (HI.out.below B4.out)
  have K4 := Lib.hid k4
  have R4 := Lib.hid r4
  have o1 := cell_of_row w4 R 1 _ _ (0, 0) I4.out.obj
  have o0 := cell_of_row w4 R 0 _ _ (0, 0) I4.out.obj
  have c0 := cell_of_row w4 (w2.heap.size + 1) 0 _ _ (0, 0) k4
  have c1 := cell_of_row w4 (w2.heap.size + 1) 1 _ _ (0, 0) k4
  have c2 := cell_of_row w4 (w2.heap.size + 1) 2 _ _ (0, 0) k4
  have c3 := cell_of_row w4 (w2.heap.size + 1) 3 _ _ (0, 0) k4
  have c4 := cell_of_row w4 (w2.heap.size + 1) 4 _ _ (0, 0) k4
  have c5 := cell_of_row w4 (w2.heap.size + 1) 5 _ _ (0, 0) k4
  have c6 := cell_of_row w4 (w2.heap.size + 1) 6 _ _ (0, 0) k4
  have c7 := cell_of_row w4 (w2.heap.size + 1) 7 _ _ (0, 0) k4
  have c8 := cell_of_row w4 (w2.heap.size + 1) 8 _ _ (0, 0) k4
  simp only [List.getElem?_toArray, List.getElem?_cons_zero, List.getElem?_cons_succ] at c0 c1 c2 c3 c4 c5 c6 c7 c8 o1 o0
  obtain ⟨DP, nP, hoP, hnP, hDP⟩ := I4.out.prods'
  have HOP := Lib.hid hoP
  have HDP := Lib.hid hDP
  have kw4 := Lib.hid (Kp2.of_below (gk := gk) (gp := gp) B4.out)
  clear k4 r4 hoP hDP HI hI
  obtain ⟨v, ps, hrun, hv⟩ := HOP.out.drew.look_ok keyedNX Try.underlying67 (Try.zeroValue70 _) (zd := .held (.slice none 0 0)) (zp := []) rfl HL.out
  have HV : Hid (DP.atKey l (.held (.slice none 0 0)) = .held v) := Lib.hid (congrArg Prod.fst (Option.some.inj hv)).symm
  clear hv
  have B5 : Hid (Below w4.heap.size w4 w4.drew) := Lib.hid (Below.refl _ _).drew
  cases hh : has DP l with
  | true =>
    rw [hh] at hrun
    go_region
    go_wp2_with fail
    go_ret
    obtain ⟨u, hu, ⟨n', x', hok', hk', L, h1, h2, h3⟩, _⟩ := HDP.out.look l hh (.held (.slice none 0 0))
    obtain rfl : v = u := by rw [HV.out] at hu; exact DataW.held.inj hu
    obtain ⟨rfl, rfl⟩ := keyNX_inj hok.fit hok'.fit (by rw [HKEY.out]; exact HL.out) hk'
    exact ⟨v, L, rfl, h1, h2, h3.below (res_ok hok' h2) B5.out, I4.out.below B5.out, kw4.out.trans (Kp2.of_below B5.out)⟩
  | false =>
    rw [hh] at hrun
    go_region
    have I5 := Lib.hid (I4.out.below B5.out)
    have RR5 : Hid (w4.drew.heap[w2.heap.size]? = _) := Lib.hid R4.out
    have KK5 : Hid (w4.drew.heap[w2.heap.size + 1]? = _) := Lib.hid K4.out
    have sz5 : w4.drew.heap.size = w2.heap.size + 2 := sz4
    have o5 : w4.drew.cell? ⟨R, 0, none⟩ = _ := o0
    have kw5 := Lib.hid (kw4.out.trans (Kp2.of_below B5.out))
    generalize w4.drew = w5 at *
    clear c0 c1 c2 c3 c4 c5 c6 c7 c8 o1 o0 hrun HV HOP HDP I4 R4 K4 kw4 B4 B5 hh
    have hX5 : ∀ g, X g → g < w5.heap.size := fun g hg => by have := hX g hg; omega
    have RL := Lib.hid (rel_any R K gk gp X n b w5 hX5 I5.out ⟨by omega, by omega, hlt, by omega⟩)
    have HX := Lib.hid hX
    have HT := Lib.hid T
    have HTS := Lib.hid TS
    have HOK := Lib.hid hok
    have HADM := Lib.hid (admF_lt hok h0 hlt)
    have HMU := Lib.hid hmu
    have hjl : (js b n).length ≤ 41 := js_len b n (by omega)
    clear hX5 hX T TS hok hmu
    go_wp2_with fail
    refine RL.out.mono ?_
    rintro e w6 ⟨v6, rfl, j6, i6, k6⟩
    have kw6 := Lib.hid (kw5.out.trans k6)
    have RR6 := Lib.hid (heap_kp RR5.out I5.out.m1 I5.out.m2 k6)
    have KK6 := Lib.hid (heap_kp KK5.out I5.out.m1 I5.out.m2 k6)
    have I6 := Lib.hid i6
    have sz6 : w5.heap.size ≤ w6.heap.size := k6.size
    have HJ6 := Lib.hid j6
    obtain ⟨a6, c6, rfl, hm6, hc6⟩ := j6
    have HC6 := Lib.hid hc6
    unfold maxLen at hm6
    have HX6 : Hid (∀ g, X g → g < w6.heap.size) := Lib.hid fun g hg => by have := HX.out g hg; omega
    obtain ⟨G, hG⟩ : ∃ G : Int → List (List Int), (fun j => (admF 1700 j r).flatMap fun z => admF 1700 (n + b - j) z) = G := ⟨_, rfl⟩
    have HG := Lib.hid hG
    rw [hG] at HADM
    have S0 := Lib.hid (TSt.start (w := w6) i6 (Kp2.refl gk gp w6))
    clear hc6 i6 k6 I5 RR5 KK5 kw5 o5 RL hG sz5
    go_wp2_with fail
    go_loopw [12, 14, 55] (fun S _ c wr => ∃ (k : Nat) (A : List (List Int)), k ≤ (js b n).length ∧ c = .int .i64 k ∧ A.length ≤ k * 100 ∧ Hid (TSt R K gk gp X w6 (((js b n).take k).flatMap G) S A wr)) (fun _ _ c _ => (js b n).length - (intOf c).toNat)
    case atStart => exact ⟨0, [], Nat.zero_le _, rfl, Nat.zero_le _, S0⟩
    case round =>
      clear S0
      obtain ⟨k, A, hk, rfl, hA, hS⟩ := hrel
      have RRr := Lib.hid (heap_kp RR6.out I6.out.m1 I6.out.m2 hS.out.kp)
      by_cases hkl : k < (js b n).length
      · have hkl' : (k : Int) < ((js b n).length : Int) := by omega
        obtain ⟨j, hj, j0, j2, ht⟩ := js_at b n hn0 k hkl
        have HJr := RdI.kp HJ6.out I6.out.m1 I6.out.m2 hS.out.kp
        obtain ⟨a7, c7, e7, _, hcr⟩ := HJr
        cases e7
        obtain ⟨b6, f6, rfl, hcr2⟩ := hcr.resolve_left (by omega)
        have cj := hcr2 k hkl
        simp only [hj] at cj
        obtain ⟨o1, m1, o2⟩ := HOK.out.step h0 hlt j0 j2
        have C1 := Lib.hid (HT.out _ j r wr (hS.out.low HX6.out) hS.out.inv o1 (by have := HMU.out; omega))
        rw [HE2.out] at C1
        have RNG : Hid (wr.rangeAt w2.heap.size 0 #[Value.int .u8 y1, .int .u8 y2, .int .u8 y3, .int .u8 y4, .int .u8 y5, .int .u8 y6, .int .u8 y7, .int .u8 0].toList) := Lib.hid (rangeOfP RRr.out)
        have HT2 : Hid (((js b n).take (k + 1)).flatMap G = ((js b n).take k).flatMap G ++ G j) := Lib.hid (by rw [ht, List.flatMap_append, List.flatMap_cons, List.flatMap_nil, List.append_nil])
        have O1 := Lib.hid o1
        have O2 := Lib.hid o2
        clear hj ht hcr hcr2 o1 m1 o2
        go_wp2_with (first | (refine ldKP rfl _ rfl w2.heap.size 0 rfl #[Value.int .u8 y1, .int .u8 y2, .int .u8 y3, .int .u8 y4, .int .u8 y5, .int .u8 y6, .int .u8 y7, .int .u8 0] RNG.out rfl ?_))
        refine C1.out.mono ?_
        rintro e w7 ⟨u7, L7, rfl, nd7, m7, rd7, i7, k7⟩
        have sj := isAdm_sum O1.out.adm
        obtain ⟨l7, q7⟩ := few_of nd7 m7 (by omega) O1.out.sum O1.out.out
        have S7 := Lib.hid (hS.out.call i7 k7)
        have C2 := Lib.hid (HTS.out _ (n + b - j) L7 u7 w7 (S7.out.low HX6.out) S7.out.inv rd7 l7 (fun z hz => by
          obtain ⟨p1, p2⟩ := O2.out z (par_mem _ _ ((m7 z).1 hz))
          exact ⟨p1, by have := HMU.out; omega⟩))
        have P7 := Lib.hid (par_of_mem nd7 m7)
        clear nd7 m7 rd7 i7 k7 q7 C1
        go_wp2_with fail
        refine C2.out.mono ?_
        rintro e w8 ⟨u8, L8, rfl, nd8, m8, rd8, i8, k8⟩
        have S8 := Lib.hid (S7.out.call i8 k8)
        have m9 : ∀ y, y ∈ L8 ↔ par (G j) y := fun y => by rw [m8, ← congrFun HG.out j]; exact par_flatMap _ _ _ _ P7.out
        have hGj : ∀ y ∈ G j, isAdm y ∧ y.sum = n + b + r.sum := fun y hy => by
          rw [← congrFun HG.out j] at hy
          obtain ⟨z, hz, hy⟩ := List.mem_flatMap.1 hy
          obtain ⟨p1, p2⟩ := (O2.out z hz).1.out y hy
          exact ⟨p1, by rw [p2, (O1.out.out z hz).2]; omega⟩
        obtain ⟨l8, q8⟩ := few_of nd8 m9 (by omega) (by omega) hGj
        have F8 : Hid (∀ y ∈ L8, fits y) := Lib.hid fun y hy => adm_fits (q8 y hy).1 (by rw [(q8 y hy).2]; omega)
        have P8 := Lib.hid (par_of_mem nd8 m9)
        have RD8 := Lib.hid rd8
        have hA8 : A.length + L8.length ≤ (k + 1) * 100 := by rw [Nat.succ_mul]; omega
        clear nd8 m8 m9 rd8 i8 k8 hGj q8 C2
        go_wp2_with (at_builtin; refine wpList_appQ w8 rfl _ _ rfl w6.heap.size _ (A.map packK) rfl S8.out.own u8 (L8.map packK) rfl RD8.out (packs_ok F8.out) (by rw [List.length_map, List.length_map]; omega) S8.out.kp.size ?_; intro v9 w9 ho9 hg9 hl9; have S9 := Lib.hid (S8.out.app ho9 hg9 hl9 P8.out F8.out); clear ho9 hg9 hl9)
        go_roundw
        case rel => exact ⟨k + 1, A ++ L8, by omega, by go_num, by rw [List.length_append]; exact hA8, Lib.hid (by rw [HT2.out]; exact S9.out)⟩
        case measure => simp [intOf]; omega
      · obtain rfl : k = (js b n).length := by omega
        have ET : Hid ((js b n).take (js b n).length = js b n) := Lib.hid (List.take_length)
        rw [ET.out, ← HADM.out] at hS
        have SM := Lib.hid (hS.out.sum (by omega))
        go_wp2_with fail
        refine SM.out.mono ?_
        rintro e w10 ⟨u10, L10, rfl, nd10, m10, o10, f10, i10, k10, b10⟩
        have KK10 := Lib.hid (heap_kp KK6.out I6.out.m1 I6.out.m2 k10)
        have o1 := cell_of_row w10 R 1 _ _ (0, 0) i10.obj
        have c0 := cell_of_row w10 (w2.heap.size + 1) 0 _ _ (0, 0) KK10.out
        have c1 := cell_of_row w10 (w2.heap.size + 1) 1 _ _ (0, 0) KK10.out
        have c2 := cell_of_row w10 (w2.heap.size + 1) 2 _ _ (0, 0) KK10.out
        have c3 := cell_of_row w10 (w2.heap.size + 1) 3 _ _ (0, 0) KK10.out
        have c4 := cell_of_row w10 (w2.heap.size + 1) 4 _ _ (0, 0) KK10.out
        have c5 := cell_of_row w10 (w2.heap.size + 1) 5 _ _ (0, 0) KK10.out
        have c6 := cell_of_row w10 (w2.heap.size + 1) 6 _ _ (0, 0) KK10.out
        have c7 := cell_of_row w10 (w2.heap.size + 1) 7 _ _ (0, 0) KK10.out
        have c8 := cell_of_row w10 (w2.heap.size + 1) 8 _ _ (0, 0) KK10.out
        simp only [List.getElem?_toArray, List.getElem?_cons_zero, List.getElem?_cons_succ] at c0 c1 c2 c3 c4 c5 c6 c7 c8 o1
        obtain ⟨DQ, nQ, hoQ, hnQ, hDQ⟩ := i10.prods'
        have hrn : RawV u10 = some (.held u10, []) := rfl
        obtain ⟨w11, hrunU, ho11, ht11⟩ := hoQ.drew.store keyedNX Try.underlying67 (by unfold maxLen; omega) HL.out hrn
        have B11 : Below w10.heap.size w10 w10.drew := (Below.refl _ _).drew
        have I11 := i10.below B11
        have HD11 : Ent DQ (PhiP X w10.drew) := hDQ.mono fun l v k => k.keep (fun b hb _ => B11.block b hb) B11.size fun g hg => .inl hg
        have RD10 : RdQ w10 u10 (L10.map packK) := RdQ.of_own o10 (packs_ok f10)
        have RD11 := RD10.below (packs_ok f10) B11
        have sw : w6.heap.size ≤ wr.heap.size := hS.out.kp.size
        have ST11 : StV X w10.drew u10 := fun g hg => ⟨(o10.lt g hg).2, fun hx => by have h1 := HX6.out g hx; have h2 := (o10.lt g hg).1; omega⟩
        have PH : PhiP X w10.drew l u10 := ⟨⟨n, b :: r, ⟨by omega, HOK.out.adm, HOK.out.sum⟩, by rw [HKEY.out]; exact HL.out, L10, nd10, m10, RD11⟩, ST11⟩
        have I12 := Lib.hid (I11.putP ht11.grown ho11 HD11 PH)
        have kk12 : Kp2 gk gp w10.drew w11 := Kp2.of_grown ht11.grown (.inr (.inl rfl))
        have RD12 := Lib.hid (RD11.kp (packs_ok f10) I11.m1 I11.m2 kk12)
        have KK12 := Lib.hid (kw6.out.trans (k10.trans ((Kp2.of_below B11).trans kk12)))
        have ND := Lib.hid nd10
        have MM := Lib.hid m10
        clear hoQ hnQ hDQ hrn ho11 ht11 B11 I11 HD11 RD10 RD11 ST11 PH kk12 nd10 m10 o10 f10 i10 k10 b10 SM sw
        go_wp2_with fail
        go_region
        go_wp2_with fail
        go_ret
        exact ⟨u10, L10, rfl, ND.out, MM.out, RD12.out, I12.out, KK12.out⟩
end Go.Proofs.Ytldlpeohdindaaa
end
section
namespace Go.Proofs.Ytldlpeohdindaaa
open Go.RowKit Go.Maps
set_option linter.unusedVariables false
set_option maxRecDepth 100000

theorem times_any (R K gk gp : Nat) : ∀ f, TimesAt R K gk gp f
  | 0 => fun X n x w _ _ _ hmu => absurd hmu (Nat.not_lt_zero _)
  | f + 1 => fun X n x w hX hI hok hmu => by
    by_cases h0 : n = 0
    · subst h0; exact times_zero R K gk gp X x w hI hok.fit
    · have hn := hok.n0
      have hxs := isAdm_sum hok.adm
      have hs := hok.sum
      have hx8 : x.length ≤ 6 := isAdm_len hok.adm (by omega)
      have hnx : fits (n :: x) := by
        refine ⟨by simp; omega, fun i hi => ?_⟩
        cases i with
        | zero => simp; omega
        | succ i =>
          have := hok.fit.2 i (by simpa using hi)
          simpa using this
      cases x with
      | nil => exact times_ge R K gk gp X n 0 [] [] w hI (by simp at hs; omega) hok.fit hnx hok.fit (by omega) (by omega) (admF_ge h0 (.inl rfl)) fun wx => divided_nil wx
      | cons b r =>
        have hb := isAdm_pos hok.adm
        have hrs := isAdm_sum (isAdm_tail hok.adm)
        rw [List.sum_cons] at hs
        by_cases hlt : n < 2 * b
        · exact times_lt R K gk gp f (times_any R K gk gp f) (timesSum_of R K gk gp f (times_any R K gk gp f)) X n b r w hX hI hok h0 hlt hmu
        · exact times_ge R K gk gp X n b (b :: r) r w hI (by omega) hok.fit hnx (fits_tail hok.fit).1 (by omega) (by omega) (admF_ge h0 (.inr ⟨b, r, rfl, by omega⟩)) fun wx => divided_word b r hok.fit wx
theorem timesSum_any (R K gk gp : Nat) : TimesSumAt R K gk gp 1700 := timesSum_of R K gk gp 1700 (times_any R K gk gp 1700)

theorem remembered_any (w : World) :
    Calls Try.prog 17 #[] w fun e w' => e = .returned (.func (.func 36) #[] #[.pointer (some ⟨w.heap.size + 1, 0, none⟩)]) ∧ w' = (w.alloc (.map #[] 0)).alloc (.cells #[.map (some w.heap.size)] 54) := by
  have hmm := @run_makeMap Try.prog
  go_enter Try.func17, Try.ntmps17
  go_wp2_with fail
  go_ret
  exact ⟨rfl, rfl⟩

theorem newReducer_any (w : World) :
    Calls Try.prog 30 #[] w fun e w' => ∃ R K gk gp, e = .returned (.pointer (some ⟨R, 0, none⟩)) ∧ RInv R K gk gp (fun _ => False) w' ∧ Below w.heap.size w w' ∧ w.heap.size ≤ gk ∧ w.heap.size ≤ gp := by
  have hmm := @run_makeMap Try.prog
  have A := Lib.hid (remembered_any w)
  go_enter Try.func30, Try.ntmps30
  go_wp2_with fail
  refine A.out.mono ?_
  rintro e w1 ⟨rfl, hw1⟩
  have HW := Lib.hid hw1
  have HS1 : Hid (w1.heap.size = w.heap.size + 2) := Lib.hid (by rw [hw1]; simp)
  clear hw1
  go_wp2_with fail
  go_ret
  have hs1 := HS1.out
  have b1 : Below w.heap.size w w1 := by rw [HW.out]; exact ((Below.refl _ w).alloc (Nat.le_refl _) _).alloc (by simp) _
  have hk : w1.heap[w.heap.size + 1]? = some (.cells #[.map (some w.heap.size)] 54 (0, 0)) := by
    rw [HW.out]
    have := heap_alloc_new (w.alloc (.map #[] 0)) (.cells #[.map (some w.heap.size)] 54)
    rw [World.size_alloc] at this
    exact this
  have ok : w1.ownsMap (H := Value) Try.prog 55 RawV w.heap.size 0 (.map []) := by
    rw [HW.out]
    exact (World.ownsMap_made w _ _ _).alloc _
  have op := World.ownsMap_made (H := Value) w1 Try.prog 116 RawV
  refine ⟨w1.heap.size + 1, w.heap.size + 1, w.heap.size, w1.heap.size, rfl, ⟨?_, ?_, ⟨_, _, (ok.alloc _).alloc _, Ent.nil _⟩, ⟨_, _, op.alloc _, Ent.nil _⟩, by omega, ⟨id, id, id, id⟩⟩, (b1.alloc (by omega) _).alloc (by simp; omega) _, Nat.le_refl _, by omega⟩
  · have := heap_alloc_new (w1.alloc (.map #[] 0)) (.cells #[.func (.func 36) #[] #[.pointer (some ⟨w.heap.size + 1, 0, none⟩)], .map (some w1.heap.size)] 69)
    rw [World.size_alloc] at this
    exact this
  · rw [heap_alloc_old _ _ (by simp; omega), heap_alloc_old _ _ (by omega)]
    exact hk
end Go.Proofs.Ytldlpeohdindaaa
end
