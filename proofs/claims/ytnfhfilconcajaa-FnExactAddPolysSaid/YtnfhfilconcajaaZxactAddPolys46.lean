/-
  Joined: YAddB.
-/
import Derived.Test.YtnfhfilconcajaaZxactAddPolys42
import Derived.Test.YtnfhfilconcajaaZxactAddPolys44
import Derived.Test.YtnfhfilconcajaaZxactAddPolys45
import Derived.Test.YtnfhfilconcajaaZxactAddPolys12
section
namespace Go.Proofs.Ytnfhfilconcajaa.Pl
open Go.RowKit
set_option linter.unusedVariables false
set_option maxRecDepth 100000

set_option maxHeartbeats 1000000 in
theorem AddPolys_both (c0 : Int) (m : Nat) (X : Nat → List Int) (c1 : Int) (n : Nat) (Y : Nat → List Int) :
    ∃ (C : Int) (L : List (List Int)) (cd : Int), L.length ≤ 4000 ∧ (∀ i, (rowsOf L i).length ≤ 20) ∧
      (∀ va vb VA VB Ba Bb w, Fam w Ba va m VA X → Fam w Bb vb n VB Y → Calls Try.prog 17 #[.agg #[.int .i64 c0, va], .agg #[.int .i64 c1, vb]] w (ResY C L cd w)) ∧
      (∀ va vb w, RdSS w va m X → RdSS w vb n Y → Calls Try.prog 18 #[.agg #[.int .i64 c0, va], .agg #[.int .i64 c1, vb]] w (ResY C L cd w)) := by
  -- what l08Both and IsPoly tell
  have BO : ∀ (r0 r1 : Bool), (∀ V w, RdSS w V m X → Calls Try.prog 49 #[.agg #[.int .i64 c0, V]] w (SaysB r0 w)) → (∀ V w, RdSS w V n Y → Calls Try.prog 49 #[.agg #[.int .i64 c1, V]] w (SaysB r1 w)) → ∀ a0 a1 q0 q1 w, RdSS w (.slice a0 m q0) m X → RdSS w (.slice a1 n q1) n Y → BothIsA (bothC r0 r1 c0 c1) c0 c1 a0 a1 m n q0 q1 w :=
    fun r0 r1 A0 A1 a0 a1 q0 q1 w h0 h1 wx hb => l08Both_r r0 r1 c0 c1 m n X Y a0 a1 q0 q1 wx (h0.below hb) (h1.below hb) A0 A1
  have IP : ∀ (r0 r1 : Bool), (∀ V w, RdSS w V m X → Calls Try.prog 15 #[.agg #[.int .i64 c0, V]] w (SaysB r0 w)) → (∀ V w, RdSS w V n Y → Calls Try.prog 15 #[.agg #[.int .i64 c1, V]] w (SaysB r1 w)) → ∀ a0 a1 q0 q1 w, RdSS w (.slice a0 m q0) m X → RdSS w (.slice a1 n q1) n Y → IsPsM r0 r1 c0 c1 a0 a1 m n q0 q1 w :=
    fun r0 r1 A0 A1 a0 a1 q0 q1 w h0 h1 => ⟨fun wx hb => A0 _ wx (h0.below hb), fun wx hb => A1 _ wx (h1.below hb)⟩
  by_cases h0 : okPl c0 X m
  · obtain ⟨s0, i0⟩ := isP_yes c0 X m h0
    by_cases h1 : okPl c1 Y n
    · obtain ⟨s1, i1⟩ := isP_yes c1 Y n h1
      by_cases hk : c0 = c1
      · subst hk
        have hx := dgP_bnd h0
        have hy := dgP_bnd h1
        have B0 : bothC true true c0 c0 = 0 := by unfold bothC; simp
        by_cases hov : 0 < m ∧ 0 < n ∧ dgP X m ≠ dgP Y n
        · obtain ⟨hm, hn, hov⟩ := hov
          refine ⟨0, [], 2, Nat.zero_le _, rows0, ?_, ?_⟩
          · intro va vb VA VB Ba Bb w ha hb
            obtain ⟨b0, o0, v0, q0, rfl, e0, d0⟩ := headP h0 hm ha.rdss
            obtain ⟨b1, o1, v1, q1, rfl, e1, d1⟩ := headP h1 hn hb.rdss
            have := BO true true s0 s1 _ _ _ _ w ha.rdss hb.rdss
            rw [B0] at this
            exact specAddPolys_over (dgP X m) (dgP Y n) c0 c0 b0 o0 b1 o1 v0 v1 m n q0 q1 w hm hn hx hy hov (Lib.hid this) e0 e1 (by rw [show dgP X m = sumL (X 0) from if_neg (by omega)]; exact d0) (by rw [show dgP Y n = sumL (Y 0) from if_neg (by omega)]; exact d1)
          · intro va vb w ha hb
            obtain ⟨a0, q0, rfl⟩ := ha.head
            obtain ⟨a1, q1, rfl⟩ := hb.head
            exact implAdd_deg (dgP X m) (dgP Y n) c0 a0 a1 m n q0 q1 w hx hy hm hn hov (Lib.hid (IP true true i0 i1 _ _ _ _ w ha hb)) (Lib.hid (degP_any h0 a0 q0 w ha)) (Lib.hid (degP_any h1 a1 q1 w hb))
        · have hk4 := h0.1
          obtain ⟨k, hkk⟩ : ∃ k : Nat, c0 = (k : Int) := ⟨c0.toNat, by omega⟩
          have ek : c0.toNat = k := by omega
          have hl0 := h0.len
          have hl1 := h1.len
          rw [ek] at hl0 hl1
          have M0 : mrg (rowsL X m) (rowsL Y n) = oddY (rowsL X m ++ rowsL Y n) := by
            have a0 := asc_rows X m h0.2.1.2.2
            have a1 := asc_rows Y n h1.2.1.2.2
            obtain ⟨e1, e2⟩ := mrg_spec _ _ a0 a1
            refine oddY_eq e1 fun z => ?_
            rw [e2, par_append, par_nodup _ a0.nodup, par_nodup _ a1.nodup]
          have hl01 : ∀ t ∈ rowsL X m ++ rowsL Y n, t.length = k := fun t ht => by
            rcases List.mem_append.1 ht with ht | ht
            · exact hl0 t ht
            · exact hl1 t ht
          have TK : (oddY [(rowsL X m).map padY, (rowsL Y n).map padY].flatten).map (List.take k) = mrg (rowsL X m) (rowsL Y n) := by
            have e : [(rowsL X m).map padY, (rowsL Y n).map padY].flatten = (rowsL X m ++ rowsL Y n).map padY := by simp
            rw [e, M0]
            exact take_odd _ hl01
          have LR : ∀ t ∈ mrg (rowsL X m) (rowsL Y n), t.length = k := fun t ht => by
            rw [M0] at ht
            exact hl01 t (oddY_mem ht)
          have SD : SameDeg m n (dgP X m) (dgP Y n) := by
            by_cases hm : m = 0
            · exact .inl hm
            · by_cases hn : n = 0
              · exact .inr (.inl ⟨by omega, hn⟩)
              · exact .inr (.inr ⟨by omega, by omega, Classical.byContradiction fun h => hov ⟨by omega, by omega, h⟩⟩)
          refine ⟨fitC c0 (mrg (rowsL X m) (rowsL Y n)), fitL (mrg (rowsL X m) (rowsL Y n)), fitD (mrg (rowsL X m) (rowsL Y n)), fitL_len _, fitL_rows LR (by omega), ?_, ?_⟩
          · intro va vb VA VB Ba Bb w ha hb
            obtain ⟨a0, q0, rfl⟩ := ha.rdss.head
            obtain ⟨a1, q1, rfl⟩ := hb.rdss.head
            have := BO true true s0 s1 _ _ _ _ w ha.rdss hb.rdss
            rw [B0] at this
            refine specAddPolys_ok c0 c0 a0 a1 m n q0 q1 _ w ?_ (Lib.hid this) (Lib.hid fun wx hx => l01Sum_any _ _ m n X Y VA VB Ba Bb wx (ha.below hx) (hb.below hx) (by have := h0.few; omega) (by have := h1.few; omega) (fun i hi => by have := (h0.sm i hi).2.1; omega) (fun i hi => by have := (h1.sm i hi).2.1; omega))
            by_cases hm : m = 0
            · exact .inl hm
            · by_cases hn : n = 0
              · exact .inr (.inl ⟨by omega, hn⟩)
              · obtain ⟨b0, o0, v0, q0', e0, c0', d0⟩ := headP h0 (by omega) ha.rdss
                obtain ⟨b1, o1, v1, q1', e1, c1', d1⟩ := headP h1 (by omega) hb.rdss
                cases e0
                cases e1
                exact .inr (.inr ⟨by omega, by omega, b0, o0, b1, o1, v0, v1, dgP X m, dgP Y n, rfl, rfl, c0', c1', by rw [show dgP X m = sumL (X 0) from if_neg hm]; exact d0, by rw [show dgP Y n = sumL (Y 0) from if_neg hn]; exact d1, hx, hy, Classical.byContradiction fun h => hov ⟨by omega, by omega, h⟩⟩)
          · intro va vb w ha hb
            obtain ⟨a0, q0, rfl⟩ := ha.head
            obtain ⟨a1, q1, rfl⟩ := hb.head
            rw [← TK]
            obtain ⟨D, hD, d0, d1⟩ : ∃ D : Nat, D ≤ 40 ∧ (∀ t ∈ (rowsL X m).map padY, Mono4 D t) ∧ (∀ t ∈ (rowsL Y n).map padY, Mono4 D t) := by
              rcases SD with h | ⟨_, h⟩ | ⟨_, _, h⟩
              · subst h; exact ⟨(dgP Y n).toNat, by omega, (fun t ht => by cases ht), h1.mono⟩
              · subst h; exact ⟨(dgP X m).toNat, by omega, h0.mono, (fun t ht => by cases ht)⟩
              · exact ⟨(dgP X m).toNat, by omega, h0.mono, by rw [h]; exact h1.mono⟩
            have PD : ∀ p ∈ [(rowsL X m).map padY, (rowsL Y n).map padY], ∀ t ∈ p, Mono4 D t := fun p hp => by
              simp only [List.mem_cons, List.not_mem_nil, or_false] at hp
              rcases hp with rfl | rfl
              · exact d0
              · exact d1
            have PL : ∀ p ∈ [(rowsL X m).map padY, (rowsL Y n).map padY], p.length ≤ 1000000 := fun p hp => by
              simp only [List.mem_cons, List.not_mem_nil, or_false] at hp
              rcases hp with rfl | rfl
              · rw [List.length_map, rowsL_len]; have := h0.few; omega
              · rw [List.length_map, rowsL_len]; have := h1.few; omega
            exact implAdd_ok (dgP X m) (dgP Y n) k c0 a0 a1 m n q0 q1 _ ((rowsL X m).map padY) ((rowsL Y n).map padY) w hkk (by omega) SD (Lib.hid (IP true true i0 i1 _ _ _ _ w ha hb)) (Lib.hid (degP_any h0 a0 q0 w ha)) (Lib.hid (degP_any h1 a1 q1 w hb)) (Lib.hid (packedP_any h0 a0 q0 w ha)) (Lib.hid (packedP_any h1 a1 q1 w hb))
              (Lib.hid fun wx V r => joined_any V _ D wx r PD hD (by simp) PL) (Lib.hid fun z hz => by
                obtain ⟨p, hp, hz⟩ := List.mem_flatten.1 (oddY_mem hz)
                exact (PD p hp z hz).len)
      · have B0 : bothC true true c0 c1 = 2 := by unfold bothC; simp [hk]
        refine ⟨0, [], 2, Nat.zero_le _, rows0, ?_, ?_⟩
        · intro va vb VA VB Ba Bb w ha hb
          obtain ⟨a0, q0, rfl⟩ := ha.rdss.head
          obtain ⟨a1, q1, rfl⟩ := hb.rdss.head
          have := BO true true s0 s1 _ _ _ _ w ha.rdss hb.rdss
          rw [B0] at this
          exact specAddPolys_code 2 c0 c1 a0 a1 m n q0 q1 w (by decide) (Lib.hid this)
        · intro va vb w ha hb
          obtain ⟨a0, q0, rfl⟩ := ha.head
          obtain ⟨a1, q1, rfl⟩ := hb.head
          exact implAdd_var c0 c1 a0 a1 m n q0 q1 w hk (Lib.hid (IP true true i0 i1 _ _ _ _ w ha hb))
    · obtain ⟨s1, i1⟩ := isP_no c1 Y n h1
      refine ⟨0, [], 1, Nat.zero_le _, rows0, ?_, ?_⟩
      · intro va vb VA VB Ba Bb w ha hb
        obtain ⟨a0, q0, rfl⟩ := ha.rdss.head
        obtain ⟨a1, q1, rfl⟩ := hb.rdss.head
        exact specAddPolys_code 1 c0 c1 a0 a1 m n q0 q1 w (by decide) (Lib.hid (BO true false s0 s1 _ _ _ _ w ha.rdss hb.rdss))
      · intro va vb w ha hb
        obtain ⟨a0, q0, rfl⟩ := ha.head
        obtain ⟨a1, q1, rfl⟩ := hb.head
        exact implAdd_bad1 c0 c1 a0 a1 m n q0 q1 w (Lib.hid (IP true false i0 i1 _ _ _ _ w ha hb))
  · obtain ⟨s0, i0⟩ := isP_no c0 X m h0
    obtain ⟨r1, s1, i1⟩ := isP_both c1 Y n
    refine ⟨0, [], 1, Nat.zero_le _, rows0, ?_, ?_⟩
    · intro va vb VA VB Ba Bb w ha hb
      obtain ⟨a0, q0, rfl⟩ := ha.rdss.head
      obtain ⟨a1, q1, rfl⟩ := hb.rdss.head
      exact specAddPolys_code 1 c0 c1 a0 a1 m n q0 q1 w (by decide) (Lib.hid (BO false r1 s0 s1 _ _ _ _ w ha.rdss hb.rdss))
    · intro va vb w ha hb
      obtain ⟨a0, q0, rfl⟩ := ha.head
      obtain ⟨a1, q1, rfl⟩ := hb.head
      exact implAdd_bad0 r1 c0 c1 a0 a1 m n q0 q1 w (Lib.hid (IP false r1 i0 i1 _ _ _ _ w ha hb))
end Go.Proofs.Ytnfhfilconcajaa.Pl
end
