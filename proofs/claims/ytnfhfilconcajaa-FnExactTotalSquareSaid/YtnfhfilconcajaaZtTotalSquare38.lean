/-
  Joined: YMulB.
-/
import Derived.Test.YtnfhfilconcajaaZtTotalSquare31
import Derived.Test.YtnfhfilconcajaaZtTotalSquare37
section
namespace Go.Proofs.Ytnfhfilconcajaa.Pl
open Go.RowKit
set_option linter.unusedVariables false
set_option maxRecDepth 100000

/-- The degree, 0 for 0. -/
def dgP (X : Nat → List Int) (m : Nat) : Int := if m = 0 then 0 else sumL (X 0)
theorem dgP_bnd {k : Int} {X : Nat → List Int} {m : Nat} (h : okPl k X m) : 0 ≤ dgP X m ∧ dgP X m ≤ 40 := by
  unfold dgP
  split
  · omega
  · have h1 := (h.2.2 0 (by omega)).2.1
    have h2 := isX_iff.1 h1
    refine ⟨?_, h2.2⟩
    exact dsum_nn _ _ (fun j hj => (h2.1 j hj).1)
/-- The rows of a polynomial. -/
theorem _root_.Go.Proofs.Ytnfhfilconcajaa.okPl.rows {k : Int} {X : Nat → List Int} {m : Nat} (h : okPl k X m) (i : Nat) (hi : i < m) : (X i).length = k.toNat ∧ isX (X i) ∧ sumL (X i) = dgP X m := by
  have h1 := h.2.2 i hi
  have h2 := h.1
  exact ⟨by have := h1.1; omega, h1.2.1, by unfold dgP; rw [if_neg (by omega)]; exact h1.2.2⟩
theorem _root_.Go.Proofs.Ytnfhfilconcajaa.okPl.sm {k : Int} {X : Nat → List Int} {m : Nat} (h : okPl k X m) (i : Nat) (hi : i < m) : (X i).length = k.toNat ∧ SmL (X i) := by
  obtain ⟨a, b, _⟩ := h.rows i hi
  exact ⟨a, isX_sm b (by have := h.1; omega)⟩
theorem _root_.Go.Proofs.Ytnfhfilconcajaa.okPl.mono {k : Int} {X : Nat → List Int} {m : Nat} (h : okPl k X m) : ∀ t ∈ (rowsL X m).map padY, Mono4 (dgP X m).toNat t := fun t ht => by
  obtain ⟨r, hr, rfl⟩ := List.mem_map.1 ht
  obtain ⟨i, hi, rfl⟩ := mem_rowsL hr
  obtain ⟨a, b, c⟩ := h.rows i hi
  rw [← c]
  exact pad_mono b (by have := h.1; omega)
theorem _root_.Go.Proofs.Ytnfhfilconcajaa.okPl.len {k : Int} {X : Nat → List Int} {m : Nat} (h : okPl k X m) : ∀ t ∈ rowsL X m, t.length = k.toNat := fun t ht => by
  obtain ⟨i, hi, rfl⟩ := mem_rowsL ht
  exact (h.rows i hi).1
theorem _root_.Go.Proofs.Ytnfhfilconcajaa.okPl.few {k : Int} {X : Nat → List Int} {m : Nat} (h : okPl k X m) : m ≤ 2000 := h.2.1.1

theorem degP_any {k : Int} {X : Nat → List Int} {m : Nat} (h : okPl k X m) (a : Option Addr) (q : Nat) (w : World) (r : RdSS w (.slice a m q) m X) : DegPM w k a m q (dgP X m) := fun wx hb => by
  refine degreeP_any k a m q (dgP X m) wx (fun h0 => if_pos h0) fun hm => ?_
  obtain ⟨b, o, v, cap, e, c, d⟩ := headP h hm (r.below hb)
  cases e
  exact ⟨b, o, v, rfl, c, by rw [show dgP X m = sumL (X 0) from if_neg (by omega)]; exact d⟩
theorem packedP_any {k : Int} {X : Nat → List Int} {m : Nat} (h : okPl k X m) (a : Option Addr) (q : Nat) (w : World) (r : RdSS w (.slice a m q) m X) :
    ∀ wx, Below w.heap.size w wx → Calls Try.prog 61 #[.agg #[.int .i64 k, .slice a m q]] wx fun e w' => ∃ u, e = .returned u ∧ RdY w' u (((rowsL X m).map padY).map pwK) ∧ Below wx.heap.size wx w' := fun wx hb => by
  refine (packed_any k _ m X wx (r.below hb) h.few fun i hi => by have := (h.sm i hi).2.1; omega).mono ?_
  rintro e w' ⟨u, h1, h2, h3⟩
  have e2 : (rowsL X m).map keyY = ((rowsL X m).map padY).map pwK := by rw [List.map_map]; rfl
  rw [e2] at h2
  exact ⟨u, h1, rdY_of_own h2 fun z hz => (h.mono z hz).len, h3⟩

/-- The two answers, told so that the law can take them. -/
theorem rows4 {k : Nat} {L : List (List Int)} (h : ∀ t ∈ L, t.length = k) (hk : k ≤ 4) : ∀ i, (rowsOf L i).length ≤ 20 := fun i => by
  unfold rowsOf
  by_cases hi : i < L.length
  · rw [List.getElem?_eq_getElem hi]
    have := h _ (List.getElem_mem hi)
    simp only [Option.getD_some]
    omega
  · rw [List.getElem?_eq_none (by omega)]
    exact Nat.zero_le _
theorem rows0 : ∀ i, (rowsOf ([] : List (List Int)) i).length ≤ 20 := fun i => Nat.zero_le _
theorem fitL_rows {k : Nat} {L : List (List Int)} (h : ∀ t ∈ L, t.length = k) (hk : k ≤ 4) : ∀ i, (rowsOf (fitL L) i).length ≤ 20 := by
  unfold fitL
  split
  · exact rows4 h hk
  · exact rows0
theorem fitL_len (L : List (List Int)) : (fitL L).length ≤ 4000 := by
  by_cases h : L.length ≤ 2000
  · rw [show fitL L = L from if_pos h]; omega
  · rw [show fitL L = [] from if_neg h]; exact Nat.zero_le _

set_option maxHeartbeats 1000000 in
theorem MultiplyPolys_both (c0 : Int) (m : Nat) (X : Nat → List Int) (c1 : Int) (n : Nat) (Y : Nat → List Int) :
    ∃ (C : Int) (L : List (List Int)) (cd : Int), L.length ≤ 4000 ∧ (∀ i, (rowsOf L i).length ≤ 20) ∧
      (∀ va vb VA VB Ba Bb w, Fam w Ba va m VA X → Fam w Bb vb n VB Y → Calls Try.prog 21 #[.agg #[.int .i64 c0, va], .agg #[.int .i64 c1, vb]] w (ResY C L cd w)) ∧
      (∀ va vb w, RdSS w va m X → RdSS w vb n Y → Calls Try.prog 22 #[.agg #[.int .i64 c0, va], .agg #[.int .i64 c1, vb]] w (ResY C L cd w)) := by
  -- what l08Both and IsPoly tell
  have BO : ∀ (r0 r1 : Bool), (∀ V w, RdSS w V m X → Calls Try.prog 49 #[.agg #[.int .i64 c0, V]] w (SaysB r0 w)) → (∀ V w, RdSS w V n Y → Calls Try.prog 49 #[.agg #[.int .i64 c1, V]] w (SaysB r1 w)) → ∀ a0 a1 q0 q1 w, RdSS w (.slice a0 m q0) m X → RdSS w (.slice a1 n q1) n Y → BothIsM (bothC r0 r1 c0 c1) c0 c1 a0 a1 m n q0 q1 w :=
    fun r0 r1 A0 A1 a0 a1 q0 q1 w h0 h1 wx hb => l08Both_r r0 r1 c0 c1 m n X Y a0 a1 q0 q1 wx (h0.below hb) (h1.below hb) A0 A1
  have IP : ∀ (r0 r1 : Bool), (∀ V w, RdSS w V m X → Calls Try.prog 15 #[.agg #[.int .i64 c0, V]] w (SaysB r0 w)) → (∀ V w, RdSS w V n Y → Calls Try.prog 15 #[.agg #[.int .i64 c1, V]] w (SaysB r1 w)) → ∀ a0 a1 q0 q1 w, RdSS w (.slice a0 m q0) m X → RdSS w (.slice a1 n q1) n Y → IsPsM r0 r1 c0 c1 a0 a1 m n q0 q1 w :=
    fun r0 r1 A0 A1 a0 a1 q0 q1 w h0 h1 => ⟨fun wx hb => A0 _ wx (h0.below hb), fun wx hb => A1 _ wx (h1.below hb)⟩
  by_cases h0 : okPl c0 X m
  · obtain ⟨s0, i0⟩ := isP_yes c0 X m h0
    by_cases h1 : okPl c1 Y n
    · obtain ⟨s1, i1⟩ := isP_yes c1 Y n h1
      by_cases hk : c0 = c1
      · subst hk
        have hx := dgP_bnd h0
        have hy := dgP_bnd h1
        have B0 : bothC true true c0 c0 = 0 := by unfold bothC; simp
        by_cases hov : 40 < dgP X m + dgP Y n
        · have hm : 0 < m := by
            apply Nat.pos_of_ne_zero; intro e
            have : dgP X m = 0 := if_pos e
            omega
          have hn : 0 < n := by
            apply Nat.pos_of_ne_zero; intro e
            have : dgP Y n = 0 := if_pos e
            omega
          refine ⟨0, [], 3, Nat.zero_le _, rows0, ?_, ?_⟩
          · intro va vb VA VB Ba Bb w ha hb
            obtain ⟨b0, o0, v0, q0, rfl, e0, d0⟩ := headP h0 hm ha.rdss
            obtain ⟨b1, o1, v1, q1, rfl, e1, d1⟩ := headP h1 hn hb.rdss
            have := BO true true s0 s1 _ _ _ _ w ha.rdss hb.rdss
            rw [B0] at this
            exact specMultiplyPolys_over (dgP X m) (dgP Y n) c0 c0 b0 o0 b1 o1 v0 v1 m n q0 q1 w hm hn hx hy hov (Lib.hid this) e0 e1 (by rw [show dgP X m = sumL (X 0) from if_neg (by omega)]; exact d0) (by rw [show dgP Y n = sumL (Y 0) from if_neg (by omega)]; exact d1)
          · intro va vb w ha hb
            obtain ⟨a0, q0, rfl⟩ := ha.head
            obtain ⟨a1, q1, rfl⟩ := hb.head
            exact implMul_over (dgP X m) (dgP Y n) c0 a0 a1 m n q0 q1 w hx hy hov (Lib.hid (IP true true i0 i1 _ _ _ _ w ha hb)) (Lib.hid (degP_any h0 a0 q0 w ha)) (Lib.hid (degP_any h1 a1 q1 w hb))
        · have hk4 := h0.1
          obtain ⟨k, hkk⟩ : ∃ k : Nat, c0 = (k : Int) := ⟨c0.toNat, by omega⟩
          have ek : c0.toNat = k := by omega
          have hl0 := h0.len
          have hl1 := h1.len
          rw [ek] at hl0 hl1
          have TK : (oddY (prodY ((rowsL X m).map padY) ((rowsL Y n).map padY))).map (List.take k) = oddY (sumsY (rowsL X m) (rowsL Y n)) := by
            rw [prodY_pad (k := k) (by omega) _ _ hl0 hl1]
            exact take_odd _ (sumsY_row hl0)
          have LR : ∀ t ∈ oddY (sumsY (rowsL X m) (rowsL Y n)), t.length = k := fun t ht => sumsY_row hl0 t (oddY_mem ht)
          refine ⟨fitC c0 (oddY (sumsY (rowsL X m) (rowsL Y n))), fitL (oddY (sumsY (rowsL X m) (rowsL Y n))), fitD (oddY (sumsY (rowsL X m) (rowsL Y n))), fitL_len _, fitL_rows LR (by omega), ?_, ?_⟩
          · intro va vb VA VB Ba Bb w ha hb
            obtain ⟨a0, q0, rfl⟩ := ha.rdss.head
            obtain ⟨a1, q1, rfl⟩ := hb.rdss.head
            have := BO true true s0 s1 _ _ _ _ w ha.rdss hb.rdss
            rw [B0] at this
            refine specMultiplyPolys_ok c0 c0 a0 a1 m n q0 q1 _ w ?_ (Lib.hid this) (Lib.hid fun wx hx => l08Times_any _ _ m n k X Y wx (ha.rdss.below hx) (hb.rdss.below hx) (fun i hi => by have := h0.sm i hi; rw [ek] at this; exact this) (fun i hi => by have := h1.sm i hi; rw [ek] at this; exact this) h0.few h1.few)
            by_cases hm : m = 0
            · exact .inl hm
            · by_cases hn : n = 0
              · exact .inr (.inl ⟨by omega, hn⟩)
              · obtain ⟨b0, o0, v0, q0', e0, c0', d0⟩ := headP h0 (by omega) ha.rdss
                obtain ⟨b1, o1, v1, q1', e1, c1', d1⟩ := headP h1 (by omega) hb.rdss
                cases e0
                cases e1
                exact .inr (.inr ⟨by omega, by omega, b0, o0, b1, o1, v0, v1, dgP X m, dgP Y n, rfl, rfl, c0', c1', by rw [show dgP X m = sumL (X 0) from if_neg hm]; exact d0, by rw [show dgP Y n = sumL (Y 0) from if_neg hn]; exact d1, hx, hy, by omega⟩)
          · intro va vb w ha hb
            obtain ⟨a0, q0, rfl⟩ := ha.head
            obtain ⟨a1, q1, rfl⟩ := hb.head
            rw [← TK]
            have hpq : (dgP X m).toNat + (dgP Y n).toNat ≤ 40 := by omega
            refine implMul_ok (dgP X m) (dgP Y n) k c0 a0 a1 m n q0 q1 _ ((rowsL X m).map padY) ((rowsL Y n).map padY) w hkk (by omega) hx hy (by omega) (Lib.hid (IP true true i0 i1 _ _ _ _ w ha hb)) (Lib.hid (degP_any h0 a0 q0 w ha)) (Lib.hid (degP_any h1 a1 q1 w hb)) (Lib.hid (packedP_any h0 a0 q0 w ha)) (Lib.hid (packedP_any h1 a1 q1 w hb))
              (Lib.hid fun wx va vb ra rb => timesY_any va vb _ _ (dgP X m).toNat (dgP Y n).toNat wx ra rb h0.mono h1.mono hpq (by rw [List.length_map, rowsL_len]; have := h0.few; omega) (by rw [List.length_map, rowsL_len]; have := h1.few; omega)) (Lib.hid fun z hz => ?_)
            obtain ⟨x, hx, hz⟩ := List.mem_flatMap.1 (oddY_mem hz)
            obtain ⟨y, hy, rfl⟩ := List.mem_map.1 hz
            exact ((h0.mono x hx).add (h1.mono y hy)).len
      · have B0 : bothC true true c0 c1 = 2 := by unfold bothC; simp [hk]
        refine ⟨0, [], 2, Nat.zero_le _, rows0, ?_, ?_⟩
        · intro va vb VA VB Ba Bb w ha hb
          obtain ⟨a0, q0, rfl⟩ := ha.rdss.head
          obtain ⟨a1, q1, rfl⟩ := hb.rdss.head
          have := BO true true s0 s1 _ _ _ _ w ha.rdss hb.rdss
          rw [B0] at this
          exact specMultiplyPolys_code 2 c0 c1 a0 a1 m n q0 q1 w (by decide) (Lib.hid this)
        · intro va vb w ha hb
          obtain ⟨a0, q0, rfl⟩ := ha.head
          obtain ⟨a1, q1, rfl⟩ := hb.head
          exact implMul_var c0 c1 a0 a1 m n q0 q1 w hk (Lib.hid (IP true true i0 i1 _ _ _ _ w ha hb))
    · obtain ⟨s1, i1⟩ := isP_no c1 Y n h1
      refine ⟨0, [], 1, Nat.zero_le _, rows0, ?_, ?_⟩
      · intro va vb VA VB Ba Bb w ha hb
        obtain ⟨a0, q0, rfl⟩ := ha.rdss.head
        obtain ⟨a1, q1, rfl⟩ := hb.rdss.head
        exact specMultiplyPolys_code 1 c0 c1 a0 a1 m n q0 q1 w (by decide) (Lib.hid (BO true false s0 s1 _ _ _ _ w ha.rdss hb.rdss))
      · intro va vb w ha hb
        obtain ⟨a0, q0, rfl⟩ := ha.head
        obtain ⟨a1, q1, rfl⟩ := hb.head
        exact implMul_bad1 c0 c1 a0 a1 m n q0 q1 w (Lib.hid (IP true false i0 i1 _ _ _ _ w ha hb))
  · obtain ⟨s0, i0⟩ := isP_no c0 X m h0
    obtain ⟨r1, s1, i1⟩ := isP_both c1 Y n
    refine ⟨0, [], 1, Nat.zero_le _, rows0, ?_, ?_⟩
    · intro va vb VA VB Ba Bb w ha hb
      obtain ⟨a0, q0, rfl⟩ := ha.rdss.head
      obtain ⟨a1, q1, rfl⟩ := hb.rdss.head
      exact specMultiplyPolys_code 1 c0 c1 a0 a1 m n q0 q1 w (by decide) (Lib.hid (BO false r1 s0 s1 _ _ _ _ w ha.rdss hb.rdss))
    · intro va vb w ha hb
      obtain ⟨a0, q0, rfl⟩ := ha.head
      obtain ⟨a1, q1, rfl⟩ := hb.head
      exact implMul_bad0 r1 c0 c1 a0 a1 m n q0 q1 w (Lib.hid (IP false r1 i0 i1 _ _ _ _ w ha hb))
end Go.Proofs.Ytnfhfilconcajaa.Pl
end
