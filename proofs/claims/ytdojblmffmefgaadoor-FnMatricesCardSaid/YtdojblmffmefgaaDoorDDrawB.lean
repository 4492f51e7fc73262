/-
  The draws of matrices: spec.l02Draw, spec.l02Spoil.
-/
import Derived.Test.YtdojblmffmefgaaDoorDDraw
import Derived.Deep.RegionLaw
namespace Go.Proofs.YtdojblmffmefgaaDoor
open Go.RowKit
set_option linter.unusedVariables false
set_option maxRecDepth 100000

/-- A source, and a box for the result. -/
structure Dr (w0 : World) (g B gR : Nat) (w : World) : Prop where
  src : Src w g B
  gr : w0.grownBy w (some g)
  bR : Box w gR 26 (.int .i64 0) (.slice none 0 0)
  gl : g < w0.heap.size
  gR0 : w0.heap.size ≤ gR
section
variable {w0 w w' : World} {g B gR gO : Nat} {C : Int} {v : Value} {L : List Int}
theorem Dr.grown (h : Dr w0 g B gR w) (s : Src w' g B) (k : w.grownBy w' (some g)) : Dr w0 g B gR w' :=
  ⟨s, grown_trans h.gr k, h.bR.grownG k (by have := h.gl; have := h.gR0; omega), h.gl, h.gR0⟩
theorem Dr.up (h : Dr w0 g B gR w) (k : Below w.heap.size w w') : Dr w0 g B gR w' := h.grown (h.src.news k) (grown_of_below k _)
theorem Dr.new (h : Src w g B) : Dr w g B w.heap.size (w.alloc (.cells #[.int .i64 0, .slice none 0 0] 26)) :=
  ⟨h.alloc _, grown_of_below ((Below.refl _ _).alloc (Nat.le_refl _) _) _, Box.new _ _ _ _, h.lt.2, Nat.le_refl _⟩
theorem Dr.fin {n : Nat} {xs : List Value} (h : Dr w0 g B gR w) (o : w.ownsRow w0.heap.size 2 1 v n xs) : Box ((w.setCell ⟨gR, 0, none⟩ (.int .i64 C)).setCell ⟨gR, 1, none⟩ v) gR 26 (.int .i64 C) v ∧
    ((w.setCell ⟨gR, 0, none⟩ (.int .i64 C)).setCell ⟨gR, 1, none⟩ v).ownsRow w0.heap.size 2 1 v n xs ∧ Src ((w.setCell ⟨gR, 0, none⟩ (.int .i64 C)).setCell ⟨gR, 1, none⟩ v) g B ∧ w0.grownBy ((w.setCell ⟨gR, 0, none⟩ (.int .i64 C)).setCell ⟨gR, 1, none⟩ v) (some g) :=
  ⟨(h.bR.set0 _).set1 _, own_setBox (h.bR.set0 _) (own_setBox h.bR o (by decide)) (by decide),
    (h.src.other _ _ (by have := h.gR0; have := h.gl; have := h.src.lt; simp; omega) (by have := h.gR0; have := h.gl; simp; omega)).other _ _ (by have := h.gR0; have := h.gl; have := h.src.lt; simp; omega) (by have := h.gR0; have := h.gl; simp; omega),
    grown_new (grown_new h.gr h.gR0) h.gR0⟩
/-- A matrix that a call has drawn goes into a new box. -/
theorem Dr.box (h : Dr w0 g B gR w) (o : w.ownsRow w0.heap.size 2 1 v L.length (L.map (Value.int .i64))) : Mk w0 g B gR w.heap.size C v L (w.alloc (.cells #[.int .i64 C, v] 26)) := by
  have hl := h.bR.lt
  refine ⟨h.src.alloc _, grown_trans h.gr (grown_of_below ((Below.refl _ _).alloc (Nat.le_refl _) _) _), h.bR.alloc _, Box.new _ _ _ _, own_below o ((Below.refl _ _).alloc (Nat.le_refl _) _), h.gl, h.gR0, h.gr.size, by omega⟩
end

def boxLen (w : World) (g : Nat) : Nat := match w.cell? ⟨g, 1, none⟩ with
  | some (.slice _ n _) => n
  | _ => 0
theorem Mk.boxLen {w0 w : World} {g B gR gO n cap : Nat} {C : Int} {a : Option Addr} {L : List Int} (h : Mk w0 g B gR gO C (.slice a n cap) L w) : boxLen w gO = n := by
  unfold Go.Proofs.YtdojblmffmefgaaDoor.boxLen
  rw [h.bO.c1]

theorem pick_in {x a b c : Int} {P : Int → Prop} (h : x ∈ [a, b, c]) (ha : P a) (hb : P b) (hc : P c) : P x := by
  simp only [List.mem_cons, List.not_mem_nil, or_false] at h
  rcases h with rfl | rfl | rfl <;> assumption
theorem pick_in4 {x a b c d : Int} {P : Int → Prop} (h : x ∈ [a, b, c, d]) (ha : P a) (hb : P b) (hc : P c) (hd : P d) : P x := by
  simp only [List.mem_cons, List.not_mem_nil, or_false] at h
  rcases h with rfl | rfl | rfl | rfl <;> assumption

set_option maxHeartbeats 1000000 in
theorem l02Draw_any (g B : Nat) (w : World) (hs : Src w g B) :
    Calls Tryd.prog 73 #[.pointer (some ⟨g, 0, none⟩)] w (WithRes B g 100 (fun x => 0 ≤ x ∧ x ≤ 60) w) := by
  have t2 := Tryd.underlying26
  have D1 := Lib.hid (Dr.new hs)
  clear hs
  go_enter Tryd.func73, Tryd.ntmps73
  go_wp2_with fail
  generalize (w.alloc (.cells #[.int .i64 0, .slice none 0 0] 26)) = w1 at *
  refine (next_g g B 4 w1 D1.out.src (by omega) (by omega)).mono ?_
  rintro e w2 ⟨a, rfl, ⟨a0, a1⟩, s1, k1⟩
  have D2 := Lib.hid (D1.out.grown s1 k1)
  clear s1 k1 D1
  go_wp2_with fail
  refine (next_g g B 9 w2 D2.out.src (by omega) (by omega)).mono ?_
  rintro e w3 ⟨b, rfl, ⟨b0, b1⟩, s1, k1⟩
  have D3 := Lib.hid (D2.out.grown s1 k1)
  clear s1 k1 D2
  go_wp2_with fail
  refine (next_g g B 20 w3 D3.out.src (by omega) (by omega)).mono ?_
  rintro e w4 ⟨c, rfl, ⟨c0, c1⟩, s1, k1⟩
  have D4 := Lib.hid (D3.out.grown s1 k1)
  clear s1 k1 D3
  go_wp2_with fail
  refine (pick_g g B 3 [a, b, c] w4 D4.out.src (by simp) (by simp)).mono ?_
  rintro e w5 ⟨y, rfl, hy, s1, k1⟩
  have hy := pick_in (P := fun x => 0 ≤ x ∧ x < 20) hy (by omega) (by omega) (by omega)
  have D5 := Lib.hid (D4.out.grown s1 k1)
  clear s1 k1 D4 a0 a1 b0 b1 c0 c1
  go_wp2_with fail
  refine (next_g g B 4 w5 D5.out.src (by omega) (by omega)).mono ?_
  rintro e w6 ⟨d, rfl, ⟨d0, d1⟩, s1, k1⟩
  have D6 := Lib.hid (D5.out.grown s1 k1)
  clear s1 k1 D5
  go_wp2_with fail
  refine (next_g g B 9 w6 D6.out.src (by omega) (by omega)).mono ?_
  rintro e w7 ⟨e2, rfl, ⟨e20, e21⟩, s1, k1⟩
  have D7 := Lib.hid (D6.out.grown s1 k1)
  clear s1 k1 D6
  go_wp2_with fail
  refine (next_g g B 30 w7 D7.out.src (by omega) (by omega)).mono ?_
  rintro e w8 ⟨f, rfl, ⟨f0, f1⟩, s1, k1⟩
  have D8 := Lib.hid (D7.out.grown s1 k1)
  clear s1 k1 D7
  go_wp2_with fail
  refine (pick_g g B 4 [d, e2, f, 60] w8 D8.out.src (by simp) (by simp)).mono ?_
  rintro e w9 ⟨z, rfl, hz, s1, k1⟩
  have hz := pick_in4 (P := fun x => 0 ≤ x ∧ x ≤ 60) hz (by omega) (by omega) (by omega) (by omega)
  have D9 := Lib.hid (D8.out.grown s1 k1)
  clear s1 k1 D8 d0 d1 e20 e21 f0 f1
  obtain ⟨r, rfl⟩ := Int.eq_ofNat_of_zero_le hy.1
  obtain ⟨q, rfl⟩ := Int.eq_ofNat_of_zero_le hz.1
  go_wp2_with fail
  refine (l02With_any g B r q w9 D9.out.src (by omega) (by omega)).mono ?_
  rintro e w10 ⟨C, L, u, rfl, rfl, hl, o1, s1, k1⟩
  have D10 := Lib.hid (D9.out.grown s1 k1)
  have O10 := Lib.hid (own_base o1 D9.out.gr.size)
  obtain ⟨ua, uc, rfl⟩ := o1.shape
  clear s1 k1 o1 D9
  have cR0 := D10.out.bR.c0
  have cR1 := D10.out.bR.c1
  have fR0 := D10.out.bR.fr 0
  have fR1 := D10.out.bR.fr 1
  obtain ⟨F1, F2, F3, F4⟩ := D10.out.fin (C := (q : Int)) O10.out
  have F1 := Lib.hid F1
  have F2 := Lib.hid F2
  have F3 := Lib.hid F3
  have F4 := Lib.hid F4
  have HL : Hid (L.length ≤ 100) := Lib.hid (by omega)
  go_wp2_with fail
  refine bodyPost_ret (results_cell_row rfl _ _ w.heap.size 26 _ (0, 0) _ rfl F1.out t2 rfl (by kernel_rfl)) rfl ?_
  exact ⟨_, L, _, rfl, hz, HL.out, F2.out, F3.out, F4.out⟩

set_option maxHeartbeats 4000000 in
theorem l02Spoil_any (g B : Nat) (w : World) (hs : Src w g B) :
    Calls Tryd.prog 67 #[.pointer (some ⟨g, 0, none⟩)] w (WithRes B g 300 (fun _ => True) w) := by
  have t2 := Tryd.underlying26
  have D1 := Lib.hid (Dr.new hs)
  clear hs
  go_enter Tryd.func67, Tryd.ntmps67
  go_wp2_with fail
  generalize (w.alloc (.cells #[.int .i64 0, .slice none 0 0] 26)) = w1 at *
  refine (l02Draw_any g B w1 D1.out.src).mono ?_
  rintro e w2 ⟨C, L, u, rfl, hC, hl, o2, s2, k2⟩
  have D2 := Lib.hid (D1.out.grown s2 k2)
  have O2 := Lib.hid (own_base o2 D1.out.gr.size)
  obtain ⟨ua, uc, rfl⟩ := o2.shape
  have M3 := Lib.hid (D2.out.box (C := C) O2.out)
  clear s2 k2 o2 D1 O2 D2
  go_wp2_with fail
  generalize w2.heap.size = gO at *
  generalize (w2.alloc (.cells #[.int .i64 C, .slice ua L.length uc] 26)) = w3 at *
  refine (next_g g B 30 w3 M3.out.src (by omega) (by omega)).mono ?_
  rintro e w4 ⟨x, rfl, ⟨x0, x1⟩, s4, k4⟩
  have M4 := Lib.hid (M3.out.grown s4 k4)
  clear s4 k4 M3
  have d0 := M4.out.bO.c0
  have d1 := M4.out.bO.c1
  have fO0 := M4.out.bO.fr 0
  have fO1 := M4.out.bO.fr 1
  by_cases h0 : x = 0
  · subst h0
    go_wp2_with fail
    refine (pick_g g B 3 [-1, 61, 0] w4 M4.out.src (by simp) (by simp)).mono ?_
    rintro e w5 ⟨y, rfl, hy, s5, k5⟩
    have M5 := Lib.hid (M4.out.grown s5 k5)
    clear s5 k5 hy M4 d0 d1 fO0 fO1
    have d0 := M5.out.bO.c0
    have d1 := M5.out.bO.c1
    have fO0 := M5.out.bO.fr 0
    have gR0 := M5.out.bR.c0
    have gR1 := M5.out.bR.c1
    have gF0 := M5.out.bR.fr 0
    have gF1 := M5.out.bR.fr 1
    have MM := Lib.hid (M5.out.setC y)
    obtain ⟨F1, F2, F3, F4⟩ := MM.out.fin
    have F1 := Lib.hid F1
    have F2 := Lib.hid F2
    have F3 := Lib.hid F3
    have F4 := Lib.hid F4
    have NE1 := M5.out.ne
    have HL : Hid (L.length ≤ 300) := Lib.hid (by omega)
    go_wp2_with fail
    refine bodyPost_ret (results_cell_row rfl _ _ w.heap.size 26 _ (0, 0) _ rfl F1.out t2 rfl (by kernel_rfl)) rfl ?_
    exact ⟨_, L, _, rfl, trivial, HL.out, F2.out, F3.out, F4.out⟩
  · have h0' : (x == 0) = false := by rw [beq_eq_false_iff_ne]; exact h0
    by_cases h1 : x = 1
    · subst h1
      have A := Lib.hid (M4.out.alloc (.cells #[.int .i64 (-1), .int .i64 1152921504606846976, .int .i64 8] 2))
      have da := A.out.bO.c1
      have PK := Lib.hid (pick_g g B 3 [-1, 1152921504606846976, 8] w4.drew ((M4.out.up (Below.refl _ _).drew).src) (by simp) (by simp))
      have HL : Hid (L.length + 1 ≤ 300) := Lib.hid (by omega)
      have MD := Lib.hid (M4.out.up (Below.refl _ _).drew)
      go_wp2_with fail
      go_region_law (first | (go_simp; go_at_call 111; refine PK.out.mono ?_; rintro e w6 ⟨y, rfl, hy, s6, k6⟩; have M6 := Lib.hid (MD.out.grown s6 k6); have e1 := M6.out.bO.c1; have M7 := Lib.hid (M6.out.alloc (.cells #[.int .i64 y] 2)); have e2 := M7.out.bO.c1) | (refine step_append1 (by rfl) _ _ (by rfl) w.heap.size (.slice ua L.length uc) L.length L (by rfl) M7.out.own _ _ 1 (by rfl) (World.cell?_alloc_new _ _ _ _) (by omega) M7.out.gr.size ?_; intro va' vc' w12 ho hg; have A2 := Lib.hid (M7.out.app (r := y) ho hg); have x1 := A2.out.bO.c1; have x2 := A2.out.bO.fr 1))
      all_goals
        have MM := Lib.hid (Mk2.store M7.out A2.out)
        clear ho hg e1 e2 x1 x2 d0 d1 da fO0 fO1
        generalize (w12.setCell ⟨gO, 1, none⟩ (.slice va' (L.length + 1) vc')) = w13 at *
        have HL2 : Hid ((L ++ [y]).length ≤ 300) := Lib.hid (by rw [List.length_append]; exact HL.out)
        have d0 := MM.out.bO.c0
        have d1 := MM.out.bO.c1
        have cR0 := MM.out.bR.c0
        have cR1 := MM.out.bR.c1
        have fR0 := MM.out.bR.fr 0
        have fR1 := MM.out.bR.fr 1
        obtain ⟨F1, F2, F3, F4⟩ := MM.out.fin
        have F1 := Lib.hid F1
        have F2 := Lib.hid F2
        have F3 := Lib.hid F3
        have F4 := Lib.hid F4
        go_wp2
        refine bodyPost_ret (results_cell_row rfl _ _ w.heap.size 26 _ (0, 0) _ rfl F1.out t2 rfl (by kernel_rfl)) rfl ?_
        exact ⟨_, (L ++ [y]), _, rfl, trivial, HL2.out, F2.out, F3.out, F4.out⟩
    · have h1' : (x == 1) = false := by rw [beq_eq_false_iff_ne]; exact h1
      by_cases h2 : x = 2
      · subst h2
        go_wp2_with fail
        clear d0 d1 fO0 fO1
        go_loopw [26] (fun _ wr => ∃ (L2 : List Int) (v2 : Value), L2.length ≤ 300 ∧ Hid (Mk w g B w.heap.size gO C v2 L2 wr)) (fun _ wr => 201 - boxLen wr gO)
        case atStart => exact ⟨L, _, by omega, M4⟩
        case round =>
          clear M4 hl
          obtain ⟨L2, v2, hl2, M⟩ := hrel
          have o0 := M.out.own
          obtain ⟨va, vc, rfl⟩ := o0.shape
          clear o0
          have d1 := M.out.bO.c1
          by_cases hlt : L2.length ≤ 200
          · have hlt' : (L2.length : Int) ≤ 200 := by omega
            have B1 := M.out.boxLen
            have A := Lib.hid (M.out.alloc (.cells #[.int .i64 0] 2))
            go_wp2_with (at_builtin; refine wpList_append1 rfl _ _ rfl w.heap.size _ L2.length L2 rfl A.out.own _ _ 1 rfl (World.cell?_alloc_new _ _ _ _) ?c1 ?c2 ?_)
            case c1 => omega
            case c2 => exact A.out.gr.size
            intro v' w8 ho hg
            obtain ⟨va', vc', rfl⟩ := ho.shape
            have A2 := Lib.hid (A.out.app (r := 0) (by rw [List.map_append]; exact ho) hg)
            have F := Lib.hid (Mk2.store A.out A2.out)
            have B2 := F.out.boxLen
            have B1 := Lib.hid B1
            have B2 := Lib.hid B2
            have e0 := A2.out.bO.c1
            have e1 := A2.out.bO.fr 1
            clear ho hg
            go_wp2
            go_roundw
            case rel => exact ⟨L2 ++ [0], _, by simp; omega, F⟩
            case measure => rw [B1.out, B2.out]; omega
          · have hlt' : ¬ (L2.length : Int) ≤ 200 := by omega
            have MM := M
            have d0 := MM.out.bO.c0
            have d1 := MM.out.bO.c1
            have cR0 := MM.out.bR.c0
            have cR1 := MM.out.bR.c1
            have fR0 := MM.out.bR.fr 0
            have fR1 := MM.out.bR.fr 1
            obtain ⟨F1, F2, F3, F4⟩ := MM.out.fin
            have F1 := Lib.hid F1
            have F2 := Lib.hid F2
            have F3 := Lib.hid F3
            have F4 := Lib.hid F4
            go_wp2
            refine bodyPost_ret (results_cell_row rfl _ _ w.heap.size 26 _ (0, 0) _ rfl F1.out t2 rfl (by kernel_rfl)) rfl ?_
            exact ⟨_, L2, _, rfl, trivial, hl2, F2.out, F3.out, F4.out⟩
      · have h2' : (x == 2) = false := by rw [beq_eq_false_iff_ne]; exact h2
        by_cases h3 : x = 3
        · subst h3
          go_wp2_with fail
          clear d0 d1 fO0 fO1
          go_loopw [37] (fun _ wr => ∃ (L2 : List Int) (v2 : Value), L2.length ≤ 300 ∧ Hid (Mk w g B w.heap.size gO C v2 L2 wr)) (fun _ wr => 61 - boxLen wr gO)
          case atStart => exact ⟨L, _, by omega, M4⟩
          case round =>
            clear M4 hl
            obtain ⟨L2, v2, hl2, M⟩ := hrel
            have o0 := M.out.own
            obtain ⟨va, vc, rfl⟩ := o0.shape
            clear o0
            have d1 := M.out.bO.c1
            by_cases hlt : L2.length ≤ 60
            · have hlt' : (L2.length : Int) ≤ 60 := by omega
              have B1 := M.out.boxLen
              have A := Lib.hid (M.out.alloc (.cells #[.int .i64 0] 2))
              go_wp2_with (at_builtin; refine wpList_append1 rfl _ _ rfl w.heap.size _ L2.length L2 rfl A.out.own _ _ 1 rfl (World.cell?_alloc_new _ _ _ _) ?c1 ?c2 ?_)
              case c1 => omega
              case c2 => exact A.out.gr.size
              intro v' w8 ho hg
              obtain ⟨va', vc', rfl⟩ := ho.shape
              have A2 := Lib.hid (A.out.app (r := 0) (by rw [List.map_append]; exact ho) hg)
              have F := Lib.hid (Mk2.store A.out A2.out)
              have B2 := F.out.boxLen
              have B1 := Lib.hid B1
              have B2 := Lib.hid B2
              have e0 := A2.out.bO.c1
              have e1 := A2.out.bO.fr 1
              clear ho hg
              go_wp2
              go_roundw
              case rel => exact ⟨L2 ++ [0], _, by simp; omega, F⟩
              case measure => rw [B1.out, B2.out]; omega
            · have hlt' : ¬ (L2.length : Int) ≤ 60 := by omega
              have MM := M
              have d0 := MM.out.bO.c0
              have d1 := MM.out.bO.c1
              have cR0 := MM.out.bR.c0
              have cR1 := MM.out.bR.c1
              have fR0 := MM.out.bR.fr 0
              have fR1 := MM.out.bR.fr 1
              obtain ⟨F1, F2, F3, F4⟩ := MM.out.fin
              have F1 := Lib.hid F1
              have F2 := Lib.hid F2
              have F3 := Lib.hid F3
              have F4 := Lib.hid F4
              go_wp2
              refine bodyPost_ret (results_cell_row rfl _ _ w.heap.size 26 _ (0, 0) _ rfl F1.out t2 rfl (by kernel_rfl)) rfl ?_
              exact ⟨_, L2, _, rfl, trivial, hl2, F2.out, F3.out, F4.out⟩
        · have h3' : (x == 3) = false := by rw [beq_eq_false_iff_ne]; exact h3
          have MM := M4
          have d0 := MM.out.bO.c0
          have d1 := MM.out.bO.c1
          have cR0 := MM.out.bR.c0
          have cR1 := MM.out.bR.c1
          have fR0 := MM.out.bR.fr 0
          have fR1 := MM.out.bR.fr 1
          obtain ⟨F1, F2, F3, F4⟩ := MM.out.fin
          have F1 := Lib.hid F1
          have F2 := Lib.hid F2
          have F3 := Lib.hid F3
          have F4 := Lib.hid F4
          go_wp2
          refine bodyPost_ret (results_cell_row rfl _ _ w.heap.size 26 _ (0, 0) _ rfl F1.out t2 rfl (by kernel_rfl)) rfl ?_
          exact ⟨_, L, _, rfl, trivial, by omega, F2.out, F3.out, F4.out⟩
end Go.Proofs.YtdojblmffmefgaaDoor
