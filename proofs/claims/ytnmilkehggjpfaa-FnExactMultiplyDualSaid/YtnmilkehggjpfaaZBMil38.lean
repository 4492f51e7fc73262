/-
  Joined: PCodeI, PGood, NLaw2.
-/
import Derived.Test.YtnmilkehggjpfaaZBMil37
import Derived.Test.YtnmilkehggjpfaaZBMil25
import Derived.Test.YtnmilkehggjpfaaZBMil36
import Derived.Test.YtnmilkehggjpfaaZBMil27
import Derived.Deep.DeepCutAuto
import Derived.Deep.RegionWith
import Derived.Deep.RegionHeld3
import Derived.BigRegion
section
namespace Go.Proofs.Ytnmilkehggjpfaa.Ml
open Go.RowKit
set_option linter.unusedVariables false
set_option maxRecDepth 100000

theorem implCode_bad1 (aa ab : Option Addr) (m n ca cb : Nat) (w : World) (A : IsI false aa m ca w) : Calls Try.prog 70 #[.agg #[.slice aa m ca], .agg #[.slice ab n cb]] w (SaysI 1 w) := by
  have t2 := Try.underlying45
  obtain ⟨w1, hw1⟩ : ∃ w1, w1 = ((w.alloc (.cells #[.slice aa m ca] 45)).alloc (.cells #[.slice ab n cb] 45)) := ⟨_, rfl⟩
  have T1 : Hid (Two w (.slice aa m ca) (.slice ab n cb) w1) := Lib.hid (by rw [hw1]; exact Two.start _ _ _)
  go_enter Try.func70, Try.ntmps70
  go_wp2_with fail
  rw [← hw1]
  clear hw1
  have d0 := T1.out.bA.c
  go_wp2_with fail
  refine (A.out w1 T1.out.bel).mono ?_
  rintro e w2 ⟨rfl, b2⟩
  have B2 := Lib.hid (T1.out.bel.step1 b2)
  clear b2 T1 d0
  go_wp2_with fail
  go_ret
  exact ⟨rfl, B2.out⟩
theorem implCode_bad2 (aa ab : Option Addr) (m n ca cb : Nat) (w : World) (A : IsI true aa m ca w) (B : IsI false ab n cb w) : Calls Try.prog 70 #[.agg #[.slice aa m ca], .agg #[.slice ab n cb]] w (SaysI 1 w) := by
  have t2 := Try.underlying45
  obtain ⟨w1, hw1⟩ : ∃ w1, w1 = ((w.alloc (.cells #[.slice aa m ca] 45)).alloc (.cells #[.slice ab n cb] 45)) := ⟨_, rfl⟩
  have T1 : Hid (Two w (.slice aa m ca) (.slice ab n cb) w1) := Lib.hid (by rw [hw1]; exact Two.start _ _ _)
  go_enter Try.func70, Try.ntmps70
  go_wp2_with fail
  rw [← hw1]
  clear hw1
  have d0 := T1.out.bA.c
  go_wp2_with fail
  refine (A.out w1 T1.out.bel).mono ?_
  rintro e w2 ⟨rfl, b2⟩
  have d1 := (T1.out.bB.up b2).c
  have B2 := Lib.hid (T1.out.bel.step1 b2)
  clear b2 T1 d0
  go_wp2_with fail
  refine (B.out w2 B2.out).mono ?_
  rintro e w3 ⟨rfl, b3⟩
  have B3 := Lib.hid (B2.out.step1 b3)
  clear b3 d1
  go_wp2_with fail
  go_ret
  exact ⟨rfl, B3.out⟩
/-- The method degree answers x. -/
abbrev DegI (x : Int) (a : Option Addr) (m cap : Nat) (w : World) : Prop := Hid (∀ wx, Below w.heap.size w wx → Calls Try.prog 75 #[.agg #[.slice a m cap]] wx fun e w' => e = .returned (.int .i64 x) ∧ Below wx.heap.size wx w')
set_option maxHeartbeats 1000000 in
theorem implCode_2 (aa ab : Option Addr) (m n ca cb : Nat) (w : World) (x y : Int) (A : IsI true aa m ca w) (B : IsI true ab n cb w) (GA : DegI x aa m ca w) (GB : DegI y ab n cb w) (x0 : 0 ≤ x ∧ x ≤ 40) (y0 : 0 ≤ y ∧ y ≤ 40) :
    Calls Try.prog 70 #[.agg #[.slice aa m ca], .agg #[.slice ab n cb]] w (SaysI (if 40 < x + y then 3 else 0) w) := by
  have t2 := Try.underlying45
  obtain ⟨w1, hw1⟩ : ∃ w1, w1 = ((w.alloc (.cells #[.slice aa m ca] 45)).alloc (.cells #[.slice ab n cb] 45)) := ⟨_, rfl⟩
  have T1 : Hid (Two w (.slice aa m ca) (.slice ab n cb) w1) := Lib.hid (by rw [hw1]; exact Two.start _ _ _)
  have hw : IntKind.i64.wrap (x + y) = x + y := by rw [IntKind.wrap_i64]; omega
  have hcase : (40 < x + y) ∨ ¬ (40 < x + y) := by omega
  obtain ⟨r, hr⟩ : ∃ r, decide (40 < x + y) = r := ⟨_, rfl⟩
  have HR : Hid ((if 40 < x + y then (3 : Int) else 0) = if r = true then 3 else 0) := Lib.hid (by rw [← hr]; simp)
  rw [HR.out]
  clear HR hcase
  have HW := Lib.hid hw
  obtain ⟨sxy, hsxy⟩ : ∃ s, IntKind.i64.wrap (x + y) = s := ⟨_, rfl⟩
  have hd : decide (40 < sxy) = r := by rw [← hsxy, hw]; exact hr
  have hle : (r = true → 40 < sxy) ∧ (r = false → sxy ≤ 40) := by
    subst hd
    constructor
    · intro h; exact of_decide_eq_true h
    · intro h; have := of_decide_eq_false h; omega
  clear hw hr
  cases r
  all_goals
    simp at hle
    go_enter Try.func70, Try.ntmps70
    go_wp2_with fail
    rw [← hw1]
    clear hw1
    have d0 := T1.out.bA.c
    go_wp2_with fail
    refine (A.out w1 T1.out.bel).mono ?_
    rintro e w2 ⟨rfl, b2⟩
    have T2 : Hid (Two w (.slice aa m ca) (.slice ab n cb) w2) := Lib.hid ⟨T1.out.bel.step1 b2, T1.out.bA.up b2, T1.out.bB.up b2⟩
    have d1 := T2.out.bB.c
    clear b2 T1 d0
    go_wp2_with fail
    refine (B.out w2 T2.out.bel).mono ?_
    rintro e w3 ⟨rfl, b3⟩
    have T3 : Hid (Two w (.slice aa m ca) (.slice ab n cb) w3) := Lib.hid ⟨T2.out.bel.step1 b3, T2.out.bA.up b3, T2.out.bB.up b3⟩
    clear b3 d1 T2
    have KEEP : Hid (∀ wx, Below w3.heap.size w3 wx → (wx.cell? ⟨w.heap.size, 0, none⟩ = some (.slice aa m ca) ∧ wx.cell? ⟨w.heap.size + 1, 0, none⟩ = some (.slice ab n cb) ∧ Below w3.heap.size w3 wx)) :=
      Lib.hid (fun wx hb => ⟨(T3.out.bA.up hb).c, (T3.out.bB.up hb).c, hb⟩)
    have GA3 : Hid (∀ wx, Below w3.heap.size w3 wx → Calls Try.prog 75 #[.agg #[.slice aa m ca]] wx fun e w' => e = .returned (.int .i64 x) ∧ Below wx.heap.size wx w') := Lib.hid fun wx hb => GA.out wx (T3.out.bel.step1 hb)
    have GB3 : Hid (∀ wx, Below w3.heap.size w3 wx → Calls Try.prog 75 #[.agg #[.slice ab n cb]] wx fun e w' => e = .returned (.int .i64 y) ∧ Below wx.heap.size wx w') := Lib.hid fun wx hb => GB.out wx (T3.out.bel.step1 hb)
    have z0 : Below w3.heap.size w3 w3.drew := (Below.refl _ _).drew
    go_wp2_with fail
    go_region_held3 (fun wx => wx.cell? ⟨w.heap.size, 0, none⟩ = some (.slice aa m ca) ∧ wx.cell? ⟨w.heap.size + 1, 0, none⟩ = some (.slice ab n cb) ∧ Below w3.heap.size w3 wx)
      (first | exact KEEP.out _ (Below.refl _ _).drew | exact KEEP.out _ (by assumption))
      (first | (go_at_call_of 75 (Value.agg #[Value.slice aa m ca]); refine (GA3.out _ (by assumption)).mono ?_; rintro e wq ⟨rfl, bq⟩; have zq : Below w3.heap.size w3 wq := Below.step1 (by assumption) bq) | (go_at_call_of 75 (Value.agg #[Value.slice ab n cb]); refine (GB3.out _ (by assumption)).mono ?_; rintro e wq ⟨rfl, bq⟩; have zq : Below w3.heap.size w3 wq := Below.step1 (by assumption) bq))
    all_goals
      have B4 := Lib.hid (T3.out.bel.step1 (by assumption : Below w3.heap.size w3 _))
      go_wp2_with fail
      go_ret
      exact ⟨rfl, B4.out⟩

/-- The code of two elements that are multiplied. -/
noncomputable def codeOf (X Y : Nat → List Int) (m n : Nat) : Int :=
  @ite _ (okMl X m ∧ okMl Y n) (Classical.propDecidable _) (if 0 < m ∧ 0 < n ∧ 40 < dgL (X 0) + dgL (Y 0) then 3 else 0) 1
theorem codeOf_bad {X Y : Nat → List Int} {m n : Nat} (h : ¬ (okMl X m ∧ okMl Y n)) : codeOf X Y m n = 1 := by unfold codeOf; rw [if_neg h]
theorem codeOf_ok {X Y : Nat → List Int} {m n : Nat} (h1 : okMl X m) (h2 : okMl Y n) : codeOf X Y m n = if 0 < m ∧ 0 < n ∧ 40 < dgL (X 0) + dgL (Y 0) then 3 else 0 := by unfold codeOf; rw [if_pos ⟨h1, h2⟩]
theorem rd_up {va : Value} {w : World} {m : Nat} {X : Nat → List Int} (h : RdSS w va m X) : ∀ wx, Below w.heap.size w wx → RdSS wx va m X := fun wx hx => h.below hx
theorem code_impl (X Y : Nat → List Int) (m n : Nat) (va vb : Value) (w : World) (ha : RdSS w va m X) (hb : RdSS w vb n Y) : Calls Try.prog 70 #[.agg #[va], .agg #[vb]] w (SaysI (codeOf X Y m n) w) := by
  by_cases hA : okMl X m
  · by_cases hB : okMl Y n
    · rw [codeOf_ok hA hB]
      have deg : ∀ (X : Nat → List Int) (m : Nat) (va : Value), okMl X m → RdSS w va m X → ∃ a cap x, va = .slice a m cap ∧ DegI x a m cap w ∧ (0 ≤ x ∧ x ≤ 40) ∧ (m = 0 → x = 0) ∧ (0 < m → x = dgL (X 0)) := fun X m va hok h => by
        by_cases h0 : m = 0
        · subst h0
          obtain ⟨a, cap, rfl⟩ := h.head
          exact ⟨a, cap, 0, rfl, Lib.hid fun wx hx => degreeM_any a 0 cap 0 wx (fun _ => rfl) (by omega) (fun h => absurd h (Nat.lt_irrefl _)), by omega, fun _ => rfl, fun h => absurd h (Nat.lt_irrefl _)⟩
        · obtain ⟨b, o, v, cap, rfl, k, d⟩ := headM hok (by omega) h
          have h40 := okMl_deg hok (by omega)
          exact ⟨_, cap, dgL (X 0), rfl, Lib.hid fun wx hx => degreeM_any _ m cap _ wx (fun e => absurd e h0) h40.2 (fun _ => ⟨b, o, v, rfl, (hx.cell (p := ⟨b, o, none⟩) (World.block_lt_of_cell? w _ k)).trans k, d.below hx⟩), h40, fun e => absurd e h0, fun _ => rfl⟩
      obtain ⟨aa, ca, x, rfl, GA, x0, x1, x2⟩ := deg X m va hA ha
      obtain ⟨ab, cb, y, rfl, GB, y0, y1, y2⟩ := deg Y n vb hB hb
      have e : (if 0 < m ∧ 0 < n ∧ 40 < dgL (X 0) + dgL (Y 0) then (3 : Int) else 0) = if 40 < x + y then 3 else 0 := by
        by_cases hm : m = 0
        · have := x1 hm
          rw [if_neg (by omega), if_neg (by omega)]
        · by_cases hn : n = 0
          · have := y1 hn
            rw [if_neg (by omega), if_neg (by omega)]
          · rw [← x2 (by omega), ← y2 (by omega)]
            by_cases c : 40 < x + y
            · rw [if_pos ⟨by omega, by omega, c⟩, if_pos c]
            · rw [if_neg (fun h => c h.2.2), if_neg c]
      rw [e]
      exact implCode_2 aa ab m n ca cb w x y (Lib.hid fun wx hx => (isM_yes X m hA).2 _ wx (ha.below hx)) (Lib.hid fun wx hx => (isM_yes Y n hB).2 _ wx (hb.below hx)) GA GB x0 y0
    · rw [codeOf_bad (fun h => hB h.2)]
      obtain ⟨aa, ca, rfl⟩ := ha.head
      obtain ⟨ab, cb, rfl⟩ := hb.head
      exact implCode_bad2 aa ab m n ca cb w (Lib.hid fun wx hx => (isM_yes X m hA).2 _ wx (ha.below hx)) (Lib.hid fun wx hx => (isM_no Y n hB).2 _ wx (hb.below hx))
  · rw [codeOf_bad (fun h => hA h.1)]
    obtain ⟨aa, ca, rfl⟩ := ha.head
    obtain ⟨ab, cb, rfl⟩ := hb.head
    exact implCode_bad1 aa ab m n ca cb w (Lib.hid fun wx hx => (isM_no X m hA).2 _ wx (ha.below hx))
end Go.Proofs.Ytnmilkehggjpfaa.Ml
end
section
namespace Go.Proofs.Ytnmilkehggjpfaa.Ml
open Go.RowKit
set_option linter.unusedVariables false
set_option maxRecDepth 100000

/-! ### The degree of a table -/
def phi (T : Tab) : Int := (T 1 0 + T 0 1) + 3 * (T 2 0 + T 1 1 + T 0 2) + 7 * (T 3 0 + T 2 1 + T 1 2 + T 0 3) + 15 * (T 4 0 + T 3 1 + T 2 2 + T 1 3 + T 0 4) + 31 * (T 5 0 + T 4 1 + T 3 2 + T 2 3 + T 1 4 + T 0 5)
theorem posI_cases {p : Nat × Nat} (h : p ∈ posI) : p = (1, 1) ∨ p = (1, 2) ∨ p = (1, 3) ∨ p = (1, 4) ∨ p = (2, 1) ∨ p = (2, 2) ∨ p = (2, 3) ∨ p = (3, 1) ∨ p = (3, 2) ∨ p = (4, 1) := by
  simpa [posI] using h
theorem phi_mv {p : Nat × Nat} (h : p ∈ posI) (n : Int) (T : Tab) : phi (mv p.1 p.2 n T) = phi T := by
  rcases posI_cases h with rfl | rfl | rfl | rfl | rfl | rfl | rfl | rfl | rfl | rfl
  all_goals
    simp [phi, mv]
    omega
theorem allE_phi : ∀ (ps : List (Nat × Nat)) (T : Tab), (∀ p ∈ ps, p ∈ posI) → ∀ y ∈ allE ps T, phi y = phi T
  | [], T, _, y, hy => by rw [List.mem_singleton.1 hy]
  | p :: ps, T, h, y, hy => by
    obtain ⟨u, hu, hy⟩ := List.mem_flatMap.1 hy
    obtain ⟨v, hv, rfl⟩ := List.mem_map.1 hy
    rw [phi_mv (h p List.mem_cons_self)]
    exact allE_phi ps T (fun q hq => h q (List.mem_cons_of_mem _ hq)) u hu
theorem wt5 : ∀ (r : List Int), r.length ≤ 5 → wt 0 r = r[0]?.getD 0 + 3 * r[1]?.getD 0 + 7 * r[2]?.getD 0 + 15 * r[3]?.getD 0 + 31 * r[4]?.getD 0
  | [], _ => by simp [wt]
  | [a], _ => by simp [wt, sp]
  | [a, b], _ => by simp [wt, sp]; omega
  | [a, b, c], _ => by simp [wt, sp]; omega
  | [a, b, c, d], _ => by simp [wt, sp]; omega
  | [a, b, c, d, e], _ => by simp [wt, sp]; omega
  | _ :: _ :: _ :: _ :: _ :: _ :: _, h => by simp at h
theorem phi_T0 (r s : List Int) (hr : r.length ≤ 5) (hs : s.length ≤ 5) : phi (T0 r s) = wt 0 r + wt 0 s := by
  rw [wt5 r hr, wt5 s hs]
  simp only [phi, T0]
  omega
theorem outs_phi (y : Tab) : wt 0 ((List.range 5).map fun k => sm (dia y (k + 1))) = phi y := by
  rw [wt5 _ (by simp)]
  have e : ∀ k, k < 5 → (((List.range 5).map fun k => sm (dia y (k + 1)))[k]?.getD 0) = isum (dia y (k + 1)) := fun k hk => by
    rw [List.getElem?_map, List.getElem?_range hk]
    exact sm_isum _
  rw [e 0 (by omega), e 1 (by omega), e 2 (by omega), e 3 (by omega), e 4 (by omega)]
  have d1 : isum (dia y 1) = y 1 0 + (y 0 1 + 0) := rfl
  have d2 : isum (dia y 2) = y 2 0 + (y 1 1 + (y 0 2 + 0)) := rfl
  have d3 : isum (dia y 3) = y 3 0 + (y 2 1 + (y 1 2 + (y 0 3 + 0))) := rfl
  have d4 : isum (dia y 4) = y 4 0 + (y 3 1 + (y 2 2 + (y 1 3 + (y 0 4 + 0)))) := rfl
  have d5 : isum (dia y 5) = y 5 0 + (y 4 1 + (y 3 2 + (y 2 3 + (y 1 4 + (y 0 5 + 0))))) := rfl
  show isum (dia y 1) + 3 * isum (dia y 2) + 7 * isum (dia y 3) + 15 * isum (dia y 4) + 31 * isum (dia y 5) = phi y
  rw [d1, d2, d3, d4, d5]
  unfold phi
  omega
theorem trim_ok (l : List Int) : ∀ j, j ≤ l.length → wt 0 (trimTo l j) = wt 0 (l.take j) ∧ lastOk (trimTo l j)
  | 0, _ => ⟨rfl, .inl rfl⟩
  | j + 1, h => by
    unfold trimTo
    by_cases e : l[j]?.getD 0 = 0
    · rw [if_pos e]
      obtain ⟨h1, h2⟩ := trim_ok l j (by omega)
      refine ⟨?_, h2⟩
      rw [h1, List.take_succ_eq_append_getElem (by omega), wt_snoc]
      rw [List.getElem?_eq_getElem (by omega)] at e
      simp only [Option.getD_some] at e
      rw [e, Int.zero_mul, Int.add_zero]
    · rw [if_neg e]
      refine ⟨rfl, .inr ?_⟩
      rw [List.length_take, show min (j + 1) l.length - 1 = j by omega, List.getElem?_take, if_pos (by omega)]
      exact e
theorem isE_of {x : List Int} (h1 : x.length ≤ 5) (h2 : ∀ z ∈ x, 0 ≤ z ∧ z ≤ 10000000) (h3 : lastOk x) : isE x := by
  refine ⟨by omega, ?_, fun i hi => ?_⟩
  · rcases h3 with e | e
    · left; rw [e]; rfl
    · right; exact e
  · unfold gOf
    rw [List.getElem?_eq_getElem hi]
    have := h2 _ (List.getElem_mem hi)
    simp only [Option.getD_some]
    omega
/-- Each result is an exponent list of the sum of both degrees. -/
theorem cntL_good {r s : List Int} (hr : goodE r) (hs : goodE s) (hd : dgL r + dgL s ≤ 40) : ∀ x ∈ cntL r s, goodE x ∧ dgL x = dgL r + dgL s := fun x hx => by
  have h1 := cntL_ok hr hs x hx
  obtain ⟨y, hy, e⟩ := List.mem_filterMap.1 hx
  have hp : phi y = phi (T0 r s) := allE_phi posI (T0 r s) (fun _ h => h) y hy
  rw [phi_T0 r s (good_len hr) (good_len hs), ← dgL_wt hr.1, ← dgL_wt hs.1] at hp
  unfold resI at e
  split at e
  · cases e
    obtain ⟨k1, k2⟩ := trim_ok ((List.range 5).map fun k => sm (dia y (k + 1))) ((List.range 5).map fun k => sm (dia y (k + 1))).length (Nat.le_refl _)
    rw [List.take_length, outs_phi] at k1
    have hE := isE_of h1.1 h1.2 k2
    have hw := dgL_wt hE
    have : dgL (trim ((List.range 5).map fun k => sm (dia y (k + 1)))) = dgL r + dgL s := by
      rw [hw]
      show wt 0 (trimTo _ _) = _
      rw [k1, hp]
    exact ⟨⟨hE, by rw [this]; exact hd⟩, this⟩
  · cases e
theorem Fac.good {X Y : Nat → List Int} {p q : Nat} (h : Fac X Y p q) : ∀ x ∈ prodT X Y p q, goodE x ∧ dgL x = dgL (X 0) + dgL (Y 0) := fun x hx => by
  have h1 := par_mem _ _ (((prodT_spec X Y p q).2 x).1 hx)
  obtain ⟨i, hi, h1⟩ := List.mem_flatMap.1 h1
  obtain ⟨k, hk, h1⟩ := List.mem_flatMap.1 h1
  have hi := List.mem_range.1 hi
  have hk := List.mem_range.1 hk
  obtain ⟨a, b, c⟩ := h.pair i k hi hk
  obtain ⟨g1, g2⟩ := cntL_good a b c x h1
  rw [(h.l.2 i hi).2, (h.r.2 k hk).2] at g2
  exact ⟨g1, g2⟩
/-- Lists of one degree, in order, are an element. -/
theorem okMl_of {L : List (List Int)} (ha : Asc L) (d : Int) (h : ∀ x ∈ L, goodE x ∧ dgL x = d) : okMl (rowsOf L) L.length := by
  have row : ∀ i, i < L.length → rowsOf L i ∈ L := fun i hi => by
    unfold rowsOf
    rw [List.getElem?_eq_getElem hi]
    exact List.getElem_mem hi
  have h82 : L.length ≤ 82 := by
    cases L with
    | nil => simp
    | cons x l =>
      have hx := h x List.mem_cons_self
      have h40 := hx.1.2
      have h0 := (good_part hx.1 0).2.2
      have := nodup_len (x :: l) (parts 6 [] (dgL x).toNat) ha.nodup fun z hz => by
        have hz2 := h z hz
        have := good_mem hz2.1
        rwa [hz2.2, ← hx.2] at this
      have := few_parts (dgL x).toNat (by omega)
      omega
  refine ⟨⟨by omega, fun i hi => by have := good_len (h _ (row i hi)).1; omega, fun i hi h0 => ?_⟩, fun i hi => ⟨(h _ (row i hi)).1, ?_⟩⟩
  · have := List.pairwise_iff_getElem.1 ha (i - 1) i (by omega) hi (by omega)
    unfold rowsOf
    rw [List.getElem?_eq_getElem (by omega), List.getElem?_eq_getElem hi]
    exact this
  · rw [(h _ (row i hi)).2, (h _ (row 0 (by omega))).2]
theorem Fac.el {X Y : Nat → List Int} {p q : Nat} (h : Fac X Y p q) : okMl (rowsOf (prodT X Y p q)) (prodT X Y p q).length := okMl_of (prodT_spec X Y p q).1 _ h.good
theorem Fac.deg {X Y : Nat → List Int} {p q : Nat} (h : Fac X Y p q) (h0 : 0 < (prodT X Y p q).length) : dgL (rowsOf (prodT X Y p q) 0) = dgL (X 0) + dgL (Y 0) := by
  refine (h.good _ ?_).2
  unfold rowsOf
  rw [List.getElem?_eq_getElem h0]
  exact List.getElem_mem h0
end Go.Proofs.Ytnmilkehggjpfaa.Ml
end
section
namespace Go.Proofs.Ytnmilkehggjpfaa.Ml
open Go.RowKit
set_option linter.unusedVariables false
set_option maxRecDepth 100000

/-- The two arguments in their boxes. -/
structure Sq2 (w0 : World) (V0 V1 : Value) (w : World) : Prop where
  bel : Below w0.heap.size w0 w
  boxA : Box1 w w0.heap.size 41 V0
  boxB : Box1 w (w0.heap.size + 1) 41 V1
/-- A struct that the law holds: its box and the family. -/
structure OwnF (w0 : World) (g : Nat) (V : Value) (m : Nat) (VS : Nat → Value) (X : Nat → List Int) (w : World) : Prop where
  fam : Fam w w0.heap.size V m VS X
  sep : Sep m VS
  box : Box1 w g 45 V
  ge : w0.heap.size ≤ g

section
variable {w0 w w' : World} {V0 V1 V : Value} {g m : Nat} {VS : Nat → Value} {X : Nat → List Int}
theorem Sq2.start (w : World) (V0 V1 : Value) : Sq2 w V0 V1 ((w.alloc (.cells #[V0] 41)).alloc (.cells #[V1] 41)) := by
  refine ⟨((Below.refl w.heap.size w).alloc (Nat.le_refl _) _).alloc (by simp) _, (Box1.new w _ _).alloc _, ?_⟩
  have := Box1.new (w.alloc (.cells #[V0] 41)) 41 V1
  simpa using this
theorem Sq2.up (h : Sq2 w0 V0 V1 w) (k : Below w.heap.size w w') : Sq2 w0 V0 V1 w' := ⟨h.bel.step1 k, h.boxA.up k, h.boxB.up k⟩
theorem Sq2.alloc (h : Sq2 w0 V0 V1 w) (o : Obj) : Sq2 w0 V0 V1 (w.alloc o) := h.up ((Below.refl _ _).alloc (Nat.le_refl _) _)
theorem OwnF.up (h : OwnF w0 g V m VS X w) (k : Below w.heap.size w w') : OwnF w0 g V m VS X w' := ⟨h.fam.below k, h.sep, h.box.up k, h.ge⟩
theorem OwnF.alloc (h : OwnF w0 g V m VS X w) (o : Obj) : OwnF w0 g V m VS X (w.alloc o) := h.up ((Below.refl _ _).alloc (Nat.le_refl _) _)
theorem OwnF.start (hw : w0.heap.size ≤ w.heap.size) (h : Fam w w0.heap.size V m VS X) (hs : Sep m VS) : OwnF w0 w.heap.size V m VS X (w.alloc (.cells #[V] 45)) :=
  ⟨h.below ((Below.refl _ _).alloc (Nat.le_refl _) _), hs, Box1.new _ _ _, hw⟩
theorem OwnF.stored {x : Value} (h : Box1 w g 45 x) (o : Fam w w0.heap.size V m VS X) (hs : Sep m VS) (hg : w0.heap.size ≤ g) : OwnF w0 g V m VS X (w.setCell ⟨g, 0, none⟩ V) :=
  ⟨⟨own_sameblock o.out fun q hq => heap_setCell_other _ _ _ _ (h.ne_own o.out (by decide) q hq), fun i hi => own_sameblock (o.inn i hi) fun q hq => heap_setCell_other _ _ _ _ (h.ne_own (o.inn i hi) (by decide) q hq)⟩, hs, h.set V, hg⟩
theorem OwnF.rest {g' n : Nat} {V' : Value} {VB : Nat → Value} {Y : Nat → List Int} (h : OwnF w0 g V m VS X w) (k : OwnF w0 g' V' n VB Y w) (r : MRestK n VB w w') (ap : FApart m VS n VB) : OwnF w0 g V m VS X w' :=
  ⟨h.fam.rest k.fam r ap, h.sep, h.box.restK (B' := 0) (by decide) k.fam r, h.ge⟩
theorem Sq2.rest {g' n : Nat} {V' : Value} {VB : Nat → Value} {Y : Nat → List Int} (h : Sq2 w0 V0 V1 w) (k : OwnF w0 g' V' n VB Y w) (r : MRestK n VB w w') (b : Below w0.heap.size w w') : Sq2 w0 V0 V1 w' :=
  ⟨h.bel.trans b, h.boxA.restK (B' := 0) (by decide) k.fam r, h.boxB.restK (B' := 0) (by decide) k.fam r⟩

/-- What is kept of a struct that a region made: the block of its box, its lists, its code. -/
def MadeS (w0 wS : World) (cd : Int) (L : List (List Int)) (s6 s7 : Value) (wx : World) : Prop :=
  ∃ (g : Nat) (va : Option Addr) (vc : Nat) (VS : Nat → Value), s6 = .pointer (some ⟨g, 0, none⟩) ∧ s7 = .int .i64 cd ∧ Hid (OwnF w0 g (.slice va L.length vc) L.length VS (rowsOf L) wx) ∧ Hid (Below wS.heap.size wS wx)
end
end Go.Proofs.Ytnmilkehggjpfaa.Ml
end
