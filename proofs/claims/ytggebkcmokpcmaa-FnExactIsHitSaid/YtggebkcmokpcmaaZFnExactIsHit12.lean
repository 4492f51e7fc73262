/-
  Joined: HKamB, HNoS.
-/
import Derived.Test.YtggebkcmokpcmaaZFnExactIsHit10
import Derived.Test.YtggebkcmokpcmaaZFnExactIsHit11
import Derived.Test.YtggebkcmokpcmaaZBHit14
section
namespace Go.Proofs.Ytggebkcmokpcmaa.Pl
open Go.RowKit
set_option linter.unusedVariables false
set_option maxRecDepth 100000

theorem _root_.Go.Proofs.Ytggebkcmokpcmaa.okPl.small {k : Int} {X : Nat → List Int} {m : Nat} (h : okPl k X m) (i : Nat) (hi : i < m) : (X i).length ≤ 4 ∧ ∀ z ∈ X i, 0 ≤ z ∧ z ≤ 40 := by
  obtain ⟨a, b, _⟩ := h.rows i hi
  refine ⟨by have := h.1; omega, fun z hz => ?_⟩
  obtain ⟨j, hj, rfl⟩ := List.getElem_of_mem hz
  have := (isX_iff.1 b).1 j hj
  unfold gOf at this
  rw [List.getElem?_eq_getElem hj] at this
  exact this
theorem _root_.Go.Proofs.Ytggebkcmokpcmaa.okPl.asc {k : Int} {X : Nat → List Int} {m : Nat} (h : okPl k X m) : Asc (rowsL X m) := asc_rows X m h.2.1.2.2
theorem rows_small {k : Int} {X : Nat → List Int} {m : Nat} (h : okPl k X m) (f : List Int → List Int) (hf : ∀ t, (f t).length = t.length) (L : List (List Int)) (hL : ∀ t ∈ L, t ∈ rowsL X m) : ∀ t ∈ L.map f, t.length = k.toNat := fun t ht => by
  obtain ⟨x, hx, rfl⟩ := List.mem_map.1 ht
  rw [hf]
  exact h.len x (hL x hx)

set_option maxHeartbeats 1000000 in
theorem KamekoUp_both (c0 : Int) (m : Nat) (X : Nat → List Int) :
    ∃ (C : Int) (L : List (List Int)) (cd : Int), L.length ≤ 4000 ∧ (∀ i, (rowsOf L i).length ≤ 20) ∧
      (∀ va VA Ba w, Fam w Ba va m VA X → Calls Try.prog 40 #[.agg #[.int .i64 c0, va]] w (ResY C L cd w)) ∧
      (∀ va w, RdSS w va m X → Calls Try.prog 41 #[.agg #[.int .i64 c0, va]] w (ResY C L cd w)) := by
  by_cases h0 : okPl c0 X m
  · obtain ⟨s0, i0⟩ := isP_yes c0 X m h0
    have hx := dgP_bnd h0
    have hk := h0.1
    by_cases hov : 40 < 2 * dgP X m + c0
    · have hm : 0 < m := by
        apply Nat.pos_of_ne_zero; intro e
        have : dgP X m = 0 := if_pos e
        omega
      refine ⟨0, [], 3, Nat.zero_le _, rows0, ?_, ?_⟩
      · intro va VA Ba w ha
        obtain ⟨b0, o0, v0, q0, rfl, e0, d0⟩ := headP h0 hm ha.rdss
        exact specKamUp_over (dgP X m) c0 b0 o0 v0 m q0 w hm hx hk hov e0 (by rw [show dgP X m = sumL (X 0) from if_neg (by omega)]; exact d0) (Lib.hid fun wx hb => s0 _ wx (ha.rdss.below hb))
      · intro va w ha
        obtain ⟨a0, q0, rfl⟩ := ha.head
        exact implKamUp_over (dgP X m) c0 a0 m q0 w hx hk hov (Lib.hid fun wx hb => i0 _ wx (ha.below hb)) (Lib.hid (degP_any h0 a0 q0 w ha))
    · refine ⟨c0, (rowsL X m).map upL, 0, by rw [List.length_map, rowsL_len]; have := h0.few; omega, rows4 (rows_small h0 upL upL_len _ fun t ht => ht) (by omega), ?_, ?_⟩
      · intro va VA Ba w ha
        obtain ⟨a0, q0, rfl⟩ := ha.rdss.head
        refine specKamUp_ok c0 a0 m q0 X w hk h0.few ha.rdss h0.small h0.asc ?_ (Lib.hid fun wx hb => s0 _ wx (ha.rdss.below hb))
        by_cases hm : m = 0
        · exact .inl hm
        · obtain ⟨b0, o0, v0, q0', e0, c0', d0⟩ := headP h0 (by omega) ha.rdss
          cases e0
          exact .inr ⟨by omega, b0, o0, v0, dgP X m, rfl, c0', by rw [show dgP X m = sumL (X 0) from if_neg hm]; exact d0, hx, by omega⟩
      · intro va w ha
        obtain ⟨a0, q0, rfl⟩ := ha.head
        exact implKamUp_ok (dgP X m) c0 a0 m q0 X w hx hk (by omega) h0.few ha h0.small (Lib.hid fun wx hb => i0 _ wx (ha.below hb)) (Lib.hid (degP_any h0 a0 q0 w ha))
  · obtain ⟨s0, i0⟩ := isP_no c0 X m h0
    refine ⟨0, [], 1, Nat.zero_le _, rows0, ?_, ?_⟩
    · intro va VA Ba w ha
      obtain ⟨a0, q0, rfl⟩ := ha.rdss.head
      exact specKamUp_bad c0 a0 m q0 w (Lib.hid fun wx hb => s0 _ wx (ha.rdss.below hb))
    · intro va w ha
      obtain ⟨a0, q0, rfl⟩ := ha.head
      exact implKamUp_bad c0 a0 m q0 w (Lib.hid fun wx hb => i0 _ wx (ha.below hb))

set_option maxHeartbeats 1000000 in
theorem KamekoDown_both (c0 : Int) (m : Nat) (X : Nat → List Int) :
    ∃ (C : Int) (L : List (List Int)) (cd : Int), L.length ≤ 4000 ∧ (∀ i, (rowsOf L i).length ≤ 20) ∧
      (∀ va VA Ba w, Fam w Ba va m VA X → Calls Try.prog 38 #[.agg #[.int .i64 c0, va]] w (ResY C L cd w)) ∧
      (∀ va w, RdSS w va m X → Calls Try.prog 39 #[.agg #[.int .i64 c0, va]] w (ResY C L cd w)) := by
  by_cases h0 : okPl c0 X m
  · obtain ⟨s0, i0⟩ := isP_yes c0 X m h0
    have hk := h0.1
    refine ⟨c0, dnS (rowsL X m), 0, by have := dnS_len (rowsL X m); rw [rowsL_len] at this; have := h0.few; omega, rows4 (rows_small h0 dnL dnL_len _ fun t ht => (List.mem_filter.1 ht).1) (by omega), ?_, ?_⟩
    · intro va VA Ba w ha
      obtain ⟨a0, q0, rfl⟩ := ha.rdss.head
      exact specKamDown_ok c0 a0 m q0 X w h0.few ha.rdss h0.small h0.asc (Lib.hid fun wx hb => s0 _ wx (ha.rdss.below hb))
    · intro va w ha
      obtain ⟨a0, q0, rfl⟩ := ha.head
      exact implKamDown_ok c0 a0 m q0 X w h0.few ha h0.small (Lib.hid fun wx hb => i0 _ wx (ha.below hb))
  · obtain ⟨s0, i0⟩ := isP_no c0 X m h0
    refine ⟨0, [], 1, Nat.zero_le _, rows0, ?_, ?_⟩
    · intro va VA Ba w ha
      obtain ⟨a0, q0, rfl⟩ := ha.rdss.head
      exact specKamDown_bad c0 a0 m q0 w (Lib.hid fun wx hb => s0 _ wx (ha.rdss.below hb))
    · intro va w ha
      obtain ⟨a0, q0, rfl⟩ := ha.head
      exact implKamDown_bad c0 a0 m q0 w (Lib.hid fun wx hb => i0 _ wx (ha.below hb))
end Go.Proofs.Ytggebkcmokpcmaa.Pl
end
section
namespace Go.Proofs.Ytggebkcmokpcmaa
open Go.RowKit Go.Proofs.Ytggebkcmokpcmaa.Pl
set_option linter.unusedVariables false
set_option maxRecDepth 100000

def Bx1 (w : World) (k0 : Int) (V : Value) (wx : World) : Prop := Below w.heap.size w wx ∧ Box wx w.heap.size 31 (.int .i64 k0) V
theorem Bx1.start (w : World) (k0 : Int) (V : Value) : Bx1 w k0 V (w.alloc (.cells #[.int .i64 k0, V] 31)) := ⟨(Below.refl _ _).alloc (Nat.le_refl _) _, Box.new w _ _ _⟩
theorem Bx1.up {w w1 w2 : World} {k0 : Int} {V : Value} (h : Bx1 w k0 V w1) (b : Below w1.heap.size w1 w2) : Bx1 w k0 V w2 := ⟨h.1.step1 b, h.2.up b⟩

set_option maxHeartbeats 1000000 in
theorem l09Poly_bad (k0 : Int) (a0 : Option Addr) (m q0 : Nat) (w : World) (IS : Hid (∀ wx, Below w.heap.size w wx → Calls Try.prog 67 #[.agg #[.int .i64 k0, .slice a0 m q0]] wx (SaysB false wx))) :
    Calls Try.prog 48 #[.agg #[.int .i64 k0, .slice a0 m q0]] w (SaysV (.int .i64 1) w) := by
  obtain ⟨w1, hw1⟩ : ∃ w1, w1 = (w.alloc (.cells #[.int .i64 k0, .slice a0 m q0] 31)) := ⟨_, rfl⟩
  have t2 := Try.underlying31
  have S1 : Hid (Bx1 w k0 (.slice a0 m q0) w1) := Lib.hid (by rw [hw1]; exact Bx1.start _ _ _)
  have d0 := S1.out.2.c0
  have d1 := S1.out.2.c1
  go_enter Try.func48, Try.ntmps48
  go_upto_region 1 with fail
  rw [← hw1]
  clear hw1
  go_wp2_with fail
  refine (IS.out w1 S1.out.1).mono ?_
  rintro e w2 ⟨rfl, b2⟩
  have S2 := Lib.hid (S1.out.up b2)
  clear b2 S1 d0 d1
  go_wp2_with fail
  go_ret
  exact ⟨rfl, S2.out.1⟩

set_option maxHeartbeats 1000000 in
theorem l09Poly_zero (k0 : Int) (a0 : Option Addr) (q0 : Nat) (w : World) (IS : Hid (∀ wx, Below w.heap.size w wx → Calls Try.prog 67 #[.agg #[.int .i64 k0, .slice a0 0 q0]] wx (SaysB true wx))) :
    Calls Try.prog 48 #[.agg #[.int .i64 k0, .slice a0 0 q0]] w (SaysV (.int .i64 0) w) := by
  obtain ⟨w1, hw1⟩ : ∃ w1, w1 = (w.alloc (.cells #[.int .i64 k0, .slice a0 0 q0] 31)) := ⟨_, rfl⟩
  have t2 := Try.underlying31
  have S1 : Hid (Bx1 w k0 (.slice a0 0 q0) w1) := Lib.hid (by rw [hw1]; exact Bx1.start _ _ _)
  have d0 := S1.out.2.c0
  have d1 := S1.out.2.c1
  go_enter Try.func48, Try.ntmps48
  go_upto_region 1 with fail
  rw [← hw1]
  clear hw1
  go_wp2_with fail
  refine (IS.out w1 S1.out.1).mono ?_
  rintro e w2 ⟨rfl, b2⟩
  have S2 := Lib.hid (S1.out.up b2)
  clear b2 S1 d0 d1
  have d0 := S2.out.2.c0
  have d1 := S2.out.2.c1
  go_upto_region 3 with fail
  go_cut [2, 7] (fun s2 s7 wx => s2 = .int .i64 0 ∧ s7 = .bool false ∧ Hid (Bx1 w k0 (.slice a0 0 q0) wx))
  case first =>
    go_quiet (fail)
    go_wp2_with fail
    go_meet
    exact ⟨rfl, rfl, Lib.hid (S2.out.up (below_drewN (Below.refl _ _) _))⟩
  case rest =>
    obtain ⟨rfl, rfl, S3⟩ := hcut
    clear d0 d1 S2
    go_wp2_with fail
    go_ret
    exact ⟨rfl, S3.out.1⟩

set_option maxHeartbeats 1000000 in
theorem l09Poly_some (f d : Nat) (k0 : Int) (b0 o0 : Nat) (v0 : Value) (m q0 : Nat) (w : World) (hm : 0 < m) (hf : f < 4) (hd : d ≤ 40) (hk : k0 = ((f + 1 : Nat) : Int)) (c0 : w.cell? ⟨b0, o0, none⟩ = some v0) (D0 : DegIs w v0 (d : Int))
    (IS : Hid (∀ wx, Below w.heap.size w wx → Calls Try.prog 67 #[.agg #[.int .i64 k0, .slice (some ⟨b0, o0, none⟩) m q0]] wx (SaysB true wx))) :
    Calls Try.prog 48 #[.agg #[.int .i64 k0, .slice (some ⟨b0, o0, none⟩) m q0]] w (SaysV (.int .i64 (if cn f d ≤ 100 then 0 else 3)) w) := by
  obtain ⟨w1, hw1⟩ : ∃ w1, w1 = (w.alloc (.cells #[.int .i64 k0, .slice (some ⟨b0, o0, none⟩) m q0] 31)) := ⟨_, rfl⟩
  have t2 := Try.underlying31
  have S1 : Hid (Bx1 w k0 (.slice (some ⟨b0, o0, none⟩) m q0) w1) := Lib.hid (by rw [hw1]; exact Bx1.start _ _ _)
  have C0 := Lib.hid c0
  have HD := Lib.hid D0
  have CNT : Hid (∀ w : World, Calls Try.prog 46 #[.int .i64 k0, .int .i64 (d : Int)] w fun e w' => e = .returned (.int .i64 (cn f d : Int)) ∧ ∃ q, w' = w.drewN q) := Lib.hid (fun w => by
    rw [hk]
    refine (l09Count_any f d hf hd w).mono ?_
    rintro e w' ⟨rfl, rfl⟩
    exact ⟨rfl, 0, rfl⟩)
  clear c0 D0 hk
  have d0 := S1.out.2.c0
  have d1 := S1.out.2.c1
  have hm2 : (0 : Int) < (m : Int) := by omega
  have hm1 : decide (0 < m) = true := decide_eq_true hm
  generalize cn f d = c at *
  obtain ⟨r, hr⟩ : ∃ r, decide ((100 : Int) < (c : Int)) = r := ⟨_, rfl⟩
  obtain ⟨cc, hcc⟩ : ∃ cc : Int, (if c ≤ 100 then 0 else 3) = cc := ⟨_, rfl⟩
  rw [hcc]
  have HCC := Lib.hid hcc
  clear hcc
  go_enter Try.func48, Try.ntmps48
  go_upto_region 1 with fail
  rw [← hw1]
  clear hw1
  go_wp2_with fail
  refine (IS.out w1 S1.out.1).mono ?_
  rintro e w2 ⟨rfl, b2⟩
  have S2 := Lib.hid (S1.out.up b2)
  clear b2 S1 d0 d1
  have d0 := S2.out.2.c0
  have d1 := S2.out.2.c1
  have DG0 := Lib.hid (fun q : Nat => l08Degree_some b0 o0 m q0 v0 (d : Int) (w2.drewN q) hm (((S2.out.1.cell (p := ⟨b0, o0, none⟩) (World.block_lt_of_cell? w _ C0.out)).trans C0.out)) (Lib.hid ((HD.out.below S2.out.1).drewN q)))
  clear C0 HD
  go_upto_region 3 with fail
  go_cut [2, 7] (fun s2 s7 wx => s2 = .int .i64 0 ∧ s7 = .bool r ∧ Hid (Bx1 w k0 (.slice (some ⟨b0, o0, none⟩) m q0) wx))
  case first =>
    go_quiet (first | (go_at_call 69; exact Calls.quiet_of (DG0.out _)) | (go_at_call 46; exact Calls.quiet_of (CNT.out _)))
    go_wp2_with fail
    go_meet
    exact ⟨rfl, by simp, Lib.hid (S2.out.up (below_drewN (Below.refl _ _) _))⟩
  case rest =>
    obtain ⟨rfl, rfl, S3⟩ := hcut
    clear d0 d1 S2 DG0
    by_cases hc : c ≤ 100
    · obtain rfl : false = r := by rw [← hr]; exact (decide_eq_false (by omega)).symm
      have e9 := HCC.out
      rw [if_pos hc] at e9
      subst e9
      go_wp2_with fail
      go_ret
      exact ⟨rfl, S3.out.1⟩
    · obtain rfl : true = r := by rw [← hr]; exact (decide_eq_true (by omega)).symm
      have e9 := HCC.out
      rw [if_neg hc] at e9
      subst e9
      go_wp2_with fail
      go_ret
      exact ⟨rfl, S3.out.1⟩

set_option maxHeartbeats 1000000 in
theorem l09Normal_zero (k0 : Int) (a0 : Option Addr) (q0 : Nat) (w : World) :
    Calls Try.prog 49 #[.agg #[.int .i64 k0, .slice a0 0 q0]] w fun e w' => ∃ V VS, e = .returned V ∧ FamL w' 0 V VS [] ∧ Below w.heap.size w w' := by
  have t2 := Try.underlying31
  have S1 := Lib.hid (Bx1.start w k0 (.slice a0 0 q0))
  have d0 := S1.out.2.c0
  have d1 := S1.out.2.c1
  go_enter Try.func49, Try.ntmps49
  go_wp2_with fail
  go_ret
  exact ⟨_, fun _ => undef, rfl, famNil _ _, S1.out.1⟩

set_option maxHeartbeats 2000000 in
theorem l09Normal_some (f d : Nat) (k0 : Int) (b0 o0 : Nat) (v0 : Value) (m q0 : Nat) (VA : Nat → Value) (L : List (List Int)) (w : World) (hm : 0 < m) (hml : Hid (m = L.length)) (hf : f < 4) (hd : d ≤ 40) (hcn : cn f d ≤ 100) (hk : k0 = ((f + 1 : Nat) : Int)) (c0 : w.cell? ⟨b0, o0, none⟩ = some v0) (D0 : DegIs w v0 (d : Int))
    (hF : FamL w 0 (.slice (some ⟨b0, o0, none⟩) m q0) VA L) (hO : OkT (TmP f d) L) :
    Calls Try.prog 49 #[.agg #[.int .i64 k0, .slice (some ⟨b0, o0, none⟩) m q0]] w fun e w' => ∃ V VS, e = .returned V ∧ FamL w' 0 V VS (remR (hitR f d) L) ∧ Below w.heap.size w w' := by
  have t2 := Try.underlying31
  have S1 := Lib.hid (Bx1.start w k0 (.slice (some ⟨b0, o0, none⟩) m q0))
  have C0 := Lib.hid c0
  have HD := Lib.hid D0
  have RW := Lib.hid (fun w => l09Rows_any f d k0 hf (by omega) hd hcn w)
  have ROK := Lib.hid (hitTo_ok hf hd hcn 6)
  have ROW := Lib.hid (fun V zs w (h1 : FamR w V zs) (h2 : rzR zs = hitR f d) (h3 : FamL w 0 (.slice (some ⟨b0, o0, none⟩) m q0) VA L) => l09Row_any (TmP f d) V _ zs L VA w (SmP_tm hf hcn) h1 h3 (by rw [h2]; exact ROK.out.1) hO (by
    have h4 : zs.length = (hitR f d).length := by rw [← rzR_len, h2]
    have := ROK.out.2
    unfold hitR at h4
    omega))
  have HF := Lib.hid hF
  clear c0 D0 hF hO hk
  have d0 := S1.out.2.c0
  have d1 := S1.out.2.c1
  have hm2 : ((m : Int) == 0) = false := by rw [beq_eq_false_iff_ne]; omega
  go_enter Try.func49, Try.ntmps49
  go_upto_region 3 with fail
  generalize (w.alloc (.cells #[.int .i64 k0, .slice (some ⟨b0, o0, none⟩) m q0] 31)) = w1 at *
  clear t2
  have KEEP : Hid (∀ wx, Below w1.heap.size w1 wx → (wx.cell? ⟨w.heap.size, 0, none⟩ = some (.int .i64 k0) ∧ wx.cell? ⟨w.heap.size, 1, none⟩ = some (.slice (some ⟨b0, o0, none⟩) m q0) ∧ Below w1.heap.size w1 wx)) :=
    Lib.hid (fun wx hb => ⟨(S1.out.2.up hb).c0, (S1.out.2.up hb).c1, hb⟩)
  have DG : Hid (∀ wx, Below w1.heap.size w1 wx → Calls Try.prog 69 #[.slice (some ⟨b0, o0, none⟩) m q0] wx fun e w' => e = .returned (.int .i64 (d : Int)) ∧ Below wx.heap.size wx w') := Lib.hid (fun wx hb => by
    have hb2 := S1.out.1.step1 hb
    refine (l08Degree_some b0 o0 m q0 v0 (d : Int) wx hm ((hb2.cell (p := ⟨b0, o0, none⟩) (World.block_lt_of_cell? w _ C0.out)).trans C0.out) (Lib.hid (HD.out.below hb2))).mono ?_
    rintro e w' ⟨rfl, q, rfl⟩
    exact ⟨rfl, below_drewN (Below.refl _ _) q⟩)
  have HF1 : Hid (∀ wx, Below w1.heap.size w1 wx → FamL wx 0 (.slice (some ⟨b0, o0, none⟩) m q0) VA L) := Lib.hid (fun wx hb => HF.out.below (S1.out.1.step1 hb))
  clear HF HD C0
  go_region_held3 (fun wx => wx.cell? ⟨w.heap.size, 0, none⟩ = some (.int .i64 k0) ∧ wx.cell? ⟨w.heap.size, 1, none⟩ = some (.slice (some ⟨b0, o0, none⟩) m q0) ∧ Below w1.heap.size w1 wx)
    (first | exact KEEP.out _ (Below.refl _ _).drew | exact KEEP.out _ (by assumption))
    (first
      | (go_at_call 69; refine (DG.out _ (Below.refl _ _).drew).mono ?_; rintro e w3 ⟨rfl, b3⟩; have z3 := belD1 b3)
      | (go_at_call 43; refine (RW.out _).mono ?_; rintro e w4 ⟨V4, zs4, rfl, f4, e4, b4⟩; have z4 := z3.step1 b4)
      | (go_at_call 70; refine (ROW.out V4 zs4 _ f4 e4 (HF1.out _ z4)).mono ?_; rintro e w5 ⟨V5, VS5, rfl, f5, b5⟩; have z5 := z4.step1 b5))
  all_goals
    go_wp2_with fail
    go_ret
    exact ⟨V5, VS5, rfl, e4 ▸ f5, S1.out.1.step1 z5⟩
end Go.Proofs.Ytggebkcmokpcmaa
end
