/-
  Joined: YTotS.
-/
import Derived.Test.YtnfhfilconcajaaZtTotalSquare41
section
namespace Go.Proofs.Ytnfhfilconcajaa.Pl
open Go.RowKit
set_option linter.unusedVariables false
set_option maxRecDepth 100000

set_option maxHeartbeats 1000000 in
theorem specTot_bad (k0 : Int) (a0 : Option Addr) (m q0 : Nat) (w : World) (IS : Hid (∀ wx, Below w.heap.size w wx → Calls Try.prog 49 #[.agg #[.int .i64 k0, .slice a0 m q0]] wx (SaysB false wx))) :
    Calls Try.prog 27 #[.agg #[.int .i64 k0, .slice a0 m q0]] w fun e w' => e = .returned (.tuple #[.slice none 0 0, .int .i64 1]) ∧ Below w.heap.size w w' := by
  obtain ⟨w1, hw1⟩ : ∃ w1, w1 = w.alloc (.cells #[.int .i64 k0, .slice a0 m q0] 27) := ⟨_, rfl⟩
  have B1 : Hid (Below w.heap.size w w1) := Lib.hid (by rw [hw1]; exact (Below.refl _ w).alloc (Nat.le_refl _) _)
  have X1 : Hid (Box w1 w.heap.size 27 (.int .i64 k0) (.slice a0 m q0)) := Lib.hid (by rw [hw1]; exact Box.new w _ _ _)
  have d0 := X1.out.c0
  have d1 := X1.out.c1
  go_enter Try.func27, Try.ntmps27
  go_upto_region 1 with fail
  rw [← hw1]
  clear hw1
  go_wp2_with fail
  refine (IS.out w1 B1.out).mono ?_
  rintro e w2 ⟨rfl, b2⟩
  have B2 := Lib.hid (B1.out.step1 b2)
  clear b2
  go_wp2_with fail
  go_ret2
  exact ⟨rfl, B2.out⟩
set_option maxHeartbeats 1000000 in
theorem implTot_bad (k0 : Int) (a0 : Option Addr) (m q0 : Nat) (w : World) (IS : Hid (∀ wx, Below w.heap.size w wx → Calls Try.prog 15 #[.agg #[.int .i64 k0, .slice a0 m q0]] wx (SaysB false wx))) :
    Calls Try.prog 28 #[.agg #[.int .i64 k0, .slice a0 m q0]] w fun e w' => e = .returned (.tuple #[.slice none 0 0, .int .i64 1]) ∧ Below w.heap.size w w' := by
  obtain ⟨w1, hw1⟩ : ∃ w1, w1 = w.alloc (.cells #[.int .i64 k0, .slice a0 m q0] 27) := ⟨_, rfl⟩
  have B1 : Hid (Below w.heap.size w w1) := Lib.hid (by rw [hw1]; exact (Below.refl _ w).alloc (Nat.le_refl _) _)
  have X1 : Hid (Box w1 w.heap.size 27 (.int .i64 k0) (.slice a0 m q0)) := Lib.hid (by rw [hw1]; exact Box.new w _ _ _)
  have d0 := X1.out.c0
  have d1 := X1.out.c1
  go_enter Try.func28, Try.ntmps28
  go_upto_region 1 with fail
  rw [← hw1]
  clear hw1
  go_wp2_with fail
  refine (IS.out w1 B1.out).mono ?_
  rintro e w2 ⟨rfl, b2⟩
  have B2 := Lib.hid (B1.out.step1 b2)
  clear b2
  go_wp2_with fail
  go_ret2
  exact ⟨rfl, B2.out⟩

theorem onePsrc (w : World) (c : Int) (v : Value) : ∀ jj u, [Value.int .i64 c, v][jj]? = some u → (w.alloc (.cells #[.int .i64 c, v] 27)).cell? ((⟨w.heap.size, 0, none⟩ : Addr).add jj) = some u := fun jj u hu => by
  have hb := Box.new w 27 (.int .i64 c) v
  match jj, hu with
  | 0, hu => simp at hu; subst hu; exact hb.c0
  | 1, hu => simp at hu; subst hu; exact hb.c1
  | jj + 2, hu => simp at hu

set_option maxHeartbeats 4000000 in
theorem specTot_ok (d : Nat) (k0 : Int) (a0 : Option Addr) (m q0 : Nat) (L : Nat → List (List Int)) (w : World) (hd : d ≤ 40) (IS : Hid (∀ wx, Below w.heap.size w wx → Calls Try.prog 49 #[.agg #[.int .i64 k0, .slice a0 m q0]] wx (SaysB true wx)))
    (DG : Hid (∀ wx, Below w.heap.size w wx → Calls Try.prog 56 #[.slice a0 m q0] wx fun e w' => e = .returned (.int .i64 (d : Int)) ∧ Below wx.heap.size wx w'))
    (TM : Hid (∀ j : Nat, j ≤ d → ∀ wx, Below w.heap.size w wx → Calls Try.prog 66 #[.slice a0 m q0, .int .i64 (j : Int)] wx (LPostY (L j) wx))) :
    Calls Try.prog 27 #[.agg #[.int .i64 k0, .slice a0 m q0]] w (TotRes (∀ j, j ≤ d → (d + j ≤ 40 ∧ (L j).length ≤ 2000)) k0 d L w) := by
  have t2 := Try.underlying27
  obtain ⟨w1, hw1⟩ : ∃ w1, w1 = w.alloc (.cells #[.int .i64 k0, .slice a0 m q0] 27) := ⟨_, rfl⟩
  have J1 : Hid (TotJ w k0 (.slice a0 m q0) k0 L 0 (.slice none 0 0) (fun _ => undef) (fun _ _ => undef) w1) := Lib.hid (by
    rw [hw1]
    exact ⟨(Below.refl _ w).alloc (Nat.le_refl _) _, Box.new w _ _ _, ⟨World.ownsRow_nil _ _ _ _, fun i hi => absurd hi (Nat.not_lt_zero _)⟩, ⟨fun i hi => absurd hi (Nat.not_lt_zero _), fun i j hi => absurd hi (Nat.not_lt_zero _)⟩⟩)
  have d0 := J1.out.box.c0
  have d1 := J1.out.box.c1
  have hwd : wrap64 (2 * (d : Int)) = 2 * (d : Int) := wrap_sm (by omega) (by omega)
  go_enter Try.func27, Try.ntmps27
  go_upto_region 1 with fail
  rw [← hw1]
  clear hw1
  go_wp2_with fail
  refine (IS.out w1 J1.out.bel).mono ?_
  rintro e w2 ⟨rfl, b2⟩
  have J2 := Lib.hid (J1.out.up b2)
  clear b2 J1 d0 d1
  have d0 := J2.out.box.c0
  have d1 := J2.out.box.c1
  go_wp2_with fail
  refine (DG.out w2 J2.out.bel).mono ?_
  rintro e w3 ⟨rfl, b3⟩
  have J3 : Hid (TotJ w k0 (.slice a0 m q0) k0 L 0 (.slice (some ⟨w3.heap.size, 0, none⟩) 0 0) (fun _ => undef) (fun _ _ => undef) (w3.alloc (.cells #[] 27))) := Lib.hid (by
    have k := (J2.out.up b3).up ((Below.refl _ w3).alloc (Nat.le_refl _) (.cells #[] 27))
    have hl := (J2.out.up b3).box.lt
    exact ⟨k.bel, k.box, ⟨World.ownsRow_made w3 #[] 0 (by omega) (Nat.zero_le _) (by simp), fun i hi => absurd hi (Nat.not_lt_zero _)⟩, k.sep⟩)
  clear b3 J2 d0 d1
  by_cases hov : 20 < d
  · have hov' : (40 : Int) < 2 * (d : Int) := by omega
    have NG : Hid (¬ ∀ j, j ≤ d → (d + j ≤ 40 ∧ (L j).length ≤ 2000)) := Lib.hid fun h => by have := (h d (Nat.le_refl _)).1; omega
    have B3 := Lib.hid J3.out.bel
    clear J3
    go_wp2_with fail
    go_ret2
    exact .inr ⟨NG.out, rfl, B3.out⟩
  · have hov' : ¬ (40 : Int) < 2 * (d : Int) := by omega
    go_wp2_with fail
    go_loopw [5, 6, 7, 8] (fun S c _ _ wr => ∃ (j : Nat) (US : Nat → Value) (VS : Nat → Nat → Value), j ≤ d + 1 ∧ c = .int .i64 j ∧ Hid (∀ i, i < j → (L i).length ≤ 2000) ∧ Hid (TotJ w k0 (.slice a0 m q0) k0 L j S US VS wr)) (fun _ c _ _ _ => 60 - (intOf c).toNat)
    case atStart => exact ⟨0, _, _, by omega, rfl, Lib.hid (fun i hi => absurd hi (Nat.not_lt_zero _)), J3⟩
    case round =>
      clear J3
      obtain ⟨j, US, VS, hj, rfl, hG, hJ⟩ := hrel
      by_cases hlt : j < d + 1
      · have hlt' : (j : Int) ≤ (d : Int) := by omega
        have TMj := Lib.hid (fun wx (hb : Below wr.heap.size wr wx) => TM.out j (by omega) wx (hJ.out.bel.step1 hb))
        have RB : Hid (Below wr.heap.size wr wr) := Lib.hid (Below.refl _ _)
        have LJ := Lib.hid (rfl : L j = L j)
        have KEEP : Hid (∀ wx, Below wr.heap.size wr wx → (wx.cell? ⟨w.heap.size, 0, none⟩ = some (.int .i64 k0) ∧ wx.cell? ⟨w.heap.size, 1, none⟩ = some (.slice a0 m q0) ∧ Below wr.heap.size wr wx)) :=
          Lib.hid (fun wx hb => ⟨(hJ.out.box.up hb).c0, (hJ.out.box.up hb).c1, hb⟩)
        have FT : Hid (∀ wx U US, FamL wx wr.heap.size U US (L j) → Sep (L j).length US → Calls Try.prog 57 #[.int .i64 k0, U] wx (FitRes wr.heap.size k0 (L j) wx)) := Lib.hid (fun wx U US f s => l08Fit_any k0 U US (L j) _ wx f s)
        go_upto_region 9 with fail
        go_cut [7, 8] (fun s7 s8 wx => MadeSq wr wr k0 (L j) s7 s8 wx)
        case first =>
          go_region_held3 (fun wx => wx.cell? ⟨w.heap.size, 0, none⟩ = some (.int .i64 k0) ∧ wx.cell? ⟨w.heap.size, 1, none⟩ = some (.slice a0 m q0) ∧ Below wr.heap.size wr wx)
            (first | exact KEEP.out _ (Below.refl _ _).drew | exact KEEP.out _ (by assumption) | (go_split_ands; exact KEEP.out _ (Below.step1 (by assumption) ((Below.refl _ _).alloc (Nat.le_refl _) _))) | exact KEEP.out _ (Below.setCell (Below.setCell zB zA.size _) zA.size _) | exact KEEP.out _ (Below.setCell (Below.setCell zB (Nat.le_refl _) _) (Nat.le_refl _) _))
            (first
              | (go_at_call 66; go_split_ands; refine (TMj.out _ (Below.step1 RB.out ?_)).mono ?_; assumption; rintro e wA ⟨uA, usA, rfl, fA, sA, bA⟩; have zA := Below.step1 (by assumption) bA; have gA : wr.heap.size ≤ wA.heap.size := zA.size; have pA := fun wx (hb : Below wA.heap.size wA wx) => (Fam.base (B' := wr.heap.size) fA (by first | exact Nat.le_refl _ | (refine Nat.le_trans (Nat.le_refl _) ?_; simp))).below hb; (try have bx := Box.up (w := (wr.alloc (.cells #[.int .i64 0, .slice none 0 0] 27)).drew) (g := wr.heap.size) (Box.new wr 27 (.int .i64 0) (.slice none 0 0)) bA); (try have gx : wr.heap.size ≤ wr.heap.size := Nat.le_refl _))
              | (go_at_call 57; refine (FT.out _ uA usA (pA _ ?_) sA).mono ?_; (first | exact Below.refl _ _ | exact (Below.refl _ _).alloc (Nat.le_refl _) _); rintro e wB ⟨vB, vsB, rfl, fB, sB, bB⟩; have qB : Below wA.heap.size wA wB := (by first | exact bB | exact Below.step1 ((Below.refl _ _).alloc (Nat.le_refl _) _) bB); have zB := Below.step1 zA qB; (try have bx3 := bx.up bB); (try have bx3 := Box.up (Box.new wA 27 (.int .i64 0) (.slice none 0 0)) bB); (try have y0 := bx3.c0); (try have y1 := bx3.c1); (try have y2 := bx3.fr 0); (try have y3 := bx3.fr 1); obtain ⟨vaB, vcB, rfl, _, _⟩ := Fam.head fB))
          all_goals
            go_wp2_with fail
            go_meet
            first
              | exact ⟨_, _, _, _, rfl, rfl, Lib.hid (OwnF.start zB.size fB sB), Lib.hid (Below.step1 zB ((Below.refl _ _).alloc (Nat.le_refl _) _))⟩
              | exact ⟨_, _, _, _, rfl, rfl, Lib.hid (OwnF.stored bx3 fB sB gA), Lib.hid (Below.setCell (Below.setCell zB zA.size _) zA.size _)⟩
              | exact ⟨_, _, _, _, rfl, rfl, Lib.hid (OwnF.stored bx3 fB sB gx), Lib.hid (Below.setCell (Below.setCell zB (Nat.le_refl _) _) (Nat.le_refl _) _)⟩
        case rest =>
          rename World => w9
          obtain ⟨g, va, vc, VK, rfl, rfl, O9, B9⟩ := hcut
          by_cases hgd : (L j).length ≤ 2000
          · have E1 : fitL (L j) = L j := if_pos hgd
            have E2 : fitC k0 (L j) = k0 := if_pos hgd
            have E3 : fitD (L j) = 0 := if_pos hgd
            rw [E1, E2] at O9
            rw [E3]
            have HG : Hid (∀ i, i < j + 1 → (L i).length ≤ 2000) := Lib.hid fun i hi => by
              by_cases e : i < j
              · exact hG.out i e
              · obtain rfl : i = j := by omega
                exact hgd
            have e0 := O9.out.box.c0
            have e1 := O9.out.box.c1
            have b7 : Below w9.heap.size w9 (w9.alloc (.cells #[.int .i64 k0, .slice va (L j).length vc] 27)) := (Below.refl _ _).alloc (Nat.le_refl _) _
            have OW := Lib.hid (own_below hJ.out.fam.out (B9.out.step1 b7))
            have SR := Lib.hid (onePsrc w9 k0 (.slice va (L j).length vc))
            have SZ : Hid (w.heap.size + 1 ≤ (w9.alloc (.cells #[.int .i64 k0, .slice va (L j).length vc] 27)).heap.size) := Lib.hid (by have := hJ.out.box.lt; have := B9.out.size; have := b7.size; omega)
            have PU := Lib.hid (fun S' w3 => TotJ.push (S' := S') (w3 := w3) hJ.out O9.out.fam O9.out.sep B9.out b7)
            clear E1 E2 E3 hgd hG hJ O9 B9 b7 TMj FT KEEP RB LJ
            generalize (L j).length = nl at *
            go_wp2_with (at_builtin; refine wpList_pols _ rfl _ _ rfl (w.heap.size + 1) j _ _ rfl OW.out ⟨w9.heap.size, 0, none⟩ 1 [.int .i64 k0, .slice va nl vc] rfl SR.out rfl (by simp [Value.oneCell']) (by omega) SZ.out ?_; intro v3 w3 ho3 hg3; have I3 := Lib.hid (PU.out v3 w3 ho3 hg3); clear ho3 hg3)
            go_roundw
            case rel => exact ⟨j + 1, _, _, by omega, by go_num, HG, I3⟩
            case measure => simp [intOf]; omega
          · have E3 : fitD (L j) = 3 := if_neg hgd
            rw [E3]
            have NG : Hid (¬ ∀ j, j ≤ d → (d + j ≤ 40 ∧ (L j).length ≤ 2000)) := Lib.hid fun h => hgd (h j (by omega)).2
            have B5 := Lib.hid (hJ.out.bel.step1 B9.out)
            clear E3 hgd hG hJ O9 B9 TMj FT KEEP RB LJ
            go_wp2_with fail
            go_ret2
            exact .inr ⟨NG.out, rfl, B5.out⟩
      · have hlt' : ¬ (j : Int) ≤ (d : Int) := by omega
        obtain rfl : j = d + 1 := by omega
        have F9 := Lib.hid (hJ.out.fam.base (Nat.le_succ _))
        have S9 := Lib.hid hJ.out.sep
        have B9 := Lib.hid hJ.out.bel
        have G9 : Hid (∀ j, j ≤ d → (d + j ≤ 40 ∧ (L j).length ≤ 2000)) := Lib.hid fun i hi => ⟨by omega, hG.out i (by omega)⟩
        clear hJ hG
        go_wp2_with fail
        go_ret2
        exact .inl ⟨G9.out, _, US, VS, rfl, F9.out, S9.out, B9.out⟩
end Go.Proofs.Ytnfhfilconcajaa.Pl
end
