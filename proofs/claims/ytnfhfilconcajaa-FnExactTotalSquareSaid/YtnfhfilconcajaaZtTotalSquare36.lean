/-
  Joined: YSqQ, YSqY.
-/
import Derived.Test.YtnfhfilconcajaaZtTotalSquare34
import Derived.Test.YtnfhfilconcajaaZtTotalSquare35
import Derived.Test.YtnfhfilconcajaaZtTotalSquare25
import Derived.Test.YtnfhfilconcajaaZtTotalSquare31
section
namespace Go.Proofs.Ytnfhfilconcajaa
open Go.RowKit Go.Maps
set_option linter.unusedVariables false
set_option maxRecDepth 100000

set_option maxHeartbeats 4000000 in
theorem squareY_any (va : Value) (xs : List (List Int)) (d i : Nat) (w : World) (ha : RdY w va (xs.map pwK)) (hx : ∀ x ∈ xs, Mono4 d x) (hdi : d + i ≤ 40) (hl : xs.length ≤ 100000) :
    Calls Try.prog 67 #[va, .int .i64 (i : Int)] w (MonsRes (oddY (sqAll xs i)) w) := by
  obtain ⟨aa, ca, rfl, hma, hca⟩ := ha
  rw [List.length_map] at hma hca
  rw [List.length_map]
  have HCA := Lib.hid hca
  have HX := Lib.hid hx
  have HPQ := Lib.hid hdi
  have ADD : Hid (∀ x, Mono4 d x → ∀ (g : Nat) (T : List (List Int)) (wx : World), SumT wx g (d + i) T → Calls Try.prog 93 #[.pointer (some ⟨g, 0, none⟩), .agg (pwK x), .int .i64 0, .int .i64 (i : Int)] wx (AddsT g (d + i) (T ++ sqL x i) wx)) := Lib.hid (fun x h4 g T wx hs => by
    have hn : ∀ z ∈ x, 0 ≤ z := by
      obtain ⟨a, b, c, f, rfl, _⟩ := h4
      intro z hz
      simp at hz
      rcases hz with h | h | h | h <;> omega
    have := addSquare_any g (d + i) hdi x hn [] i d T wx (by rw [List.nil_append]; exact h4) rfl hs
    rw [show (sqL x i).map (([] : List Int) ++ ·) = sqL x i by simp, List.nil_append] at this
    exact this)
  obtain ⟨w1, hw1⟩ : ∃ w1, w1 = w.alloc (.cells Try.zeroCells96 96) := ⟨_, rfl⟩
  have J0 : Hid (TmJ w (d + i) (sqAll (xs.take 0) i) w1) := Lib.hid (by rw [hw1]; exact ⟨(Below.refl _ w).alloc (Nat.le_refl _) _, SumT.new w _⟩)
  clear hca hx hdi
  go_enter Try.func67, Try.ntmps67
  go_wp2_with fail
  rw [← hw1]
  clear hw1
  go_loopw [7, 10] (fun _ c wr => ∃ k : Nat, k ≤ xs.length ∧ c = .int .i64 k ∧ Hid (TmJ w (d + i) (sqAll (xs.take k) i) wr)) (fun _ c _ => xs.length - (intOf c).toNat)
  case atStart => exact ⟨0, by omega, rfl, J0⟩
  case round =>
    clear J0
    obtain ⟨k, hi2, rfl, hJ⟩ := hrel
    by_cases hlt : k < xs.length
    · have hlt' : (k : Int) < (xs.length : Int) := by omega
      obtain ⟨b, off, rfl, hbl, hrg⟩ := HCA.out.resolve_left (by omega)
      obtain ⟨x, hx⟩ : ∃ x, x = xs[k] := ⟨_, rfl⟩
      have hxm : x ∈ xs := by rw [hx]; exact List.getElem_mem hlt
      have hrk := hrg k hlt
      rw [List.getElem?_map, List.getElem?_eq_getElem hlt, ← hx] at hrk
      have hrk2 : w.rangeAt b (off + k * 4) (pwK x).toList := hrk
      have HRW : Hid (wr.rangeAt b (off + k * 4) (pwK x).toList) := Lib.hid fun q u hq => (hJ.out.bel.cell (p := ⟨b, off + k * 4 + q, none⟩) hbl).trans (hrk2 q u hq)
      have OKX := Lib.hid (HX.out x hxm)
      have SX : Hid ((pwK x).size = 4) := Lib.hid (by rw [pwK_size, OKX.out.len])
      have ONX : Hid ((pwK x).all (·.oneCell') = true) := Lib.hid (pwK_one x)
      have NX : Hid ((wr.alloc (.cells (pwK x) 98)).rangeAt wr.heap.size 0 (pwK x).toList) := Lib.hid (PwAt.new wr x).range
      have TK : Hid (sqAll (xs.take (k + 1)) i = sqAll (xs.take k) i ++ sqL x i) := Lib.hid (by rw [← sqAll_snoc, hx, List.take_add_one, List.getElem?_eq_getElem hlt]; rfl)
      have B1 : Hid (Below wr.heap.size wr (wr.alloc (.cells (pwK x) 98))) := Lib.hid ((Below.refl _ _).alloc (Nat.le_refl _) _)
      generalize sqAll (xs.take k) i = Z at *
      have AD := Lib.hid (ADD.out x OKX.out w.heap.size Z (wr.alloc (.cells (pwK x) 98)) (hJ.out.sum.up B1.out))
      clear hrg hrk hrk2 hxm hx
      go_wp2_with (first | (refine ldKY rfl _ rfl b (off + k * 4) rfl (pwK x) HRW.out SX.out ?_) | (refine stKY wr rfl _ _ rfl rfl (pwK x) rfl SX.out ONX.out ?_) | (refine ldKY rfl _ rfl wr.heap.size 0 rfl (pwK x) NX.out SX.out ?_))
      refine AD.out.mono ?_
      rintro e w4 ⟨rfl, hs, hg⟩
      have I9 : Hid (TmJ w (d + i) (sqAll (xs.take (k + 1)) i) w4) := Lib.hid (by rw [TK.out]; exact ⟨(hJ.out.bel.step1 B1.out).grown hg (hJ.out.bel.step1 B1.out).size (fun q hq => by cases hq; exact Nat.le_refl _), hs⟩)
      clear hs hg hJ AD HRW NX
      go_wp2_with fail
      go_roundw
      case rel => exact ⟨k + 1, by omega, by go_num, I9⟩
      case measure => simp [intOf]; omega
    · obtain rfl : k = xs.length := by omega
      rw [List.take_length] at hJ
      have MO := Lib.hid (monsT_any _ _ _ wr hJ.out.sum HPQ.out)
      go_wp2_with fail
      refine MO.out.mono ?_
      rintro e w9 ⟨u, rfl, o9, b9⟩
      have O9 := Lib.hid (own_base o9 hJ.out.bel.size)
      have B9 := Lib.hid (hJ.out.bel.step1 b9)
      clear o9 b9 MO
      go_wp2_with fail
      go_ret
      exact ⟨u, rfl, O9.out, B9.out⟩
end Go.Proofs.Ytnfhfilconcajaa
end
section
namespace Go.Proofs.Ytnfhfilconcajaa.Pl
open Go.RowKit
set_option linter.unusedVariables false
set_option maxRecDepth 100000


set_option maxHeartbeats 1000000 in
theorem implSq_bad (k0 : Int) (a0 : Option Addr) (m q0 : Nat) (i : Int) (w : World) (IS : Hid (∀ wx, Below w.heap.size w wx → Calls Try.prog 15 #[.agg #[.int .i64 k0, .slice a0 m q0]] wx (SaysB false wx))) :
    Calls Try.prog 26 #[.agg #[.int .i64 k0, .slice a0 m q0], .int .i64 i] w (ResY 0 [] 1 w) := by
  have t2 := Try.underlying27
  obtain ⟨w1, hw1⟩ : ∃ w1, w1 = ((w.alloc (.cells #[.int .i64 k0, .slice a0 m q0] 27)).alloc (.cells #[.int .i64 0, .slice none 0 0] 27)) := ⟨_, rfl⟩
  have S1 : Hid (Bx2Q w k0 (.slice a0 m q0) w1) := Lib.hid (by rw [hw1]; exact Bx2Q.start _ _ _)
  have d0 := S1.out.boxA.c0
  have d1 := S1.out.boxA.c1
  go_enter Try.func26, Try.ntmps26
  go_upto_region 1 with fail
  rw [← hw1]
  clear hw1
  go_wp2_with fail
  refine (IS.out w1 S1.out.bel).mono ?_
  rintro e w2 ⟨rfl, b2⟩
  have S2 := Lib.hid (S1.out.up b2)
  clear b2 S1 d0 d1
  have r0 := S2.out.boxR.c0
  have r1 := S2.out.boxR.c1
  have f0 := S2.out.boxR.fr 0
  have f1 := S2.out.boxR.fr 1
  go_wp2_with fail
  refine bodyPost_ret (results_box2_tmp rfl _ _ (w.heap.size + 1) _ _ _ rfl ((S2.out.boxR.set0 _).set1 _) t2 (by kernel_rfl)) rfl ?_
  exact ⟨_, fun _ => undef, rfl, famNil _ _, sepNil, (S2.out.bel.setCell (p := ⟨w.heap.size + 1, 0, none⟩) (by simp) _).setCell (p := ⟨w.heap.size + 1, 1, none⟩) (by simp) _⟩

set_option maxHeartbeats 1000000 in
theorem implSq_low (k0 : Int) (a0 : Option Addr) (m q0 : Nat) (i : Int) (w : World) (hi : i < 0) (IS : Hid (∀ wx, Below w.heap.size w wx → Calls Try.prog 15 #[.agg #[.int .i64 k0, .slice a0 m q0]] wx (SaysB true wx))) :
    Calls Try.prog 26 #[.agg #[.int .i64 k0, .slice a0 m q0], .int .i64 i] w (ResY 0 [] 2 w) := by
  have t2 := Try.underlying27
  obtain ⟨w1, hw1⟩ : ∃ w1, w1 = ((w.alloc (.cells #[.int .i64 k0, .slice a0 m q0] 27)).alloc (.cells #[.int .i64 0, .slice none 0 0] 27)) := ⟨_, rfl⟩
  have S1 : Hid (Bx2Q w k0 (.slice a0 m q0) w1) := Lib.hid (by rw [hw1]; exact Bx2Q.start _ _ _)
  have d0 := S1.out.boxA.c0
  have d1 := S1.out.boxA.c1
  go_enter Try.func26, Try.ntmps26
  go_upto_region 1 with fail
  rw [← hw1]
  clear hw1
  go_wp2_with fail
  refine (IS.out w1 S1.out.bel).mono ?_
  rintro e w2 ⟨rfl, b2⟩
  have S2 := Lib.hid (S1.out.up b2)
  clear b2 S1 d0 d1
  have r0 := S2.out.boxR.c0
  have r1 := S2.out.boxR.c1
  have f0 := S2.out.boxR.fr 0
  have f1 := S2.out.boxR.fr 1
  go_wp2_with fail
  refine bodyPost_ret (results_box2_tmp rfl _ _ (w.heap.size + 1) _ _ _ rfl ((S2.out.boxR.set0 _).set1 _) t2 (by kernel_rfl)) rfl ?_
  exact ⟨_, fun _ => undef, rfl, famNil _ _, sepNil, (S2.out.bel.setCell (p := ⟨w.heap.size + 1, 0, none⟩) (by simp) _).setCell (p := ⟨w.heap.size + 1, 1, none⟩) (by simp) _⟩

set_option maxHeartbeats 1000000 in
theorem implSq_high (k0 : Int) (a0 : Option Addr) (m q0 : Nat) (i : Int) (w : World) (hi0 : ¬ i < 0) (hi : 40 < i) (IS : Hid (∀ wx, Below w.heap.size w wx → Calls Try.prog 15 #[.agg #[.int .i64 k0, .slice a0 m q0]] wx (SaysB true wx))) :
    Calls Try.prog 26 #[.agg #[.int .i64 k0, .slice a0 m q0], .int .i64 i] w (ResY 0 [] 2 w) := by
  have t2 := Try.underlying27
  obtain ⟨w1, hw1⟩ : ∃ w1, w1 = ((w.alloc (.cells #[.int .i64 k0, .slice a0 m q0] 27)).alloc (.cells #[.int .i64 0, .slice none 0 0] 27)) := ⟨_, rfl⟩
  have S1 : Hid (Bx2Q w k0 (.slice a0 m q0) w1) := Lib.hid (by rw [hw1]; exact Bx2Q.start _ _ _)
  have d0 := S1.out.boxA.c0
  have d1 := S1.out.boxA.c1
  go_enter Try.func26, Try.ntmps26
  go_upto_region 1 with fail
  rw [← hw1]
  clear hw1
  go_wp2_with fail
  refine (IS.out w1 S1.out.bel).mono ?_
  rintro e w2 ⟨rfl, b2⟩
  have S2 := Lib.hid (S1.out.up b2)
  clear b2 S1 d0 d1
  have r0 := S2.out.boxR.c0
  have r1 := S2.out.boxR.c1
  have f0 := S2.out.boxR.fr 0
  have f1 := S2.out.boxR.fr 1
  go_wp2_with fail
  refine bodyPost_ret (results_box2_tmp rfl _ _ (w.heap.size + 1) _ _ _ rfl ((S2.out.boxR.set0 _).set1 _) t2 (by kernel_rfl)) rfl ?_
  exact ⟨_, fun _ => undef, rfl, famNil _ _, sepNil, (S2.out.bel.setCell (p := ⟨w.heap.size + 1, 0, none⟩) (by simp) _).setCell (p := ⟨w.heap.size + 1, 1, none⟩) (by simp) _⟩

set_option maxHeartbeats 1000000 in
theorem implSq_over (x : Int) (k0 : Int) (a0 : Option Addr) (m q0 : Nat) (i : Int) (w : World) (hx : 0 ≤ x ∧ x ≤ 40) (hi : 0 ≤ i ∧ i ≤ 40) (hxi : 40 < x + i) (IS : Hid (∀ wx, Below w.heap.size w wx → Calls Try.prog 15 #[.agg #[.int .i64 k0, .slice a0 m q0]] wx (SaysB true wx))) (DX : Hid (DegPM w k0 a0 m q0 x)) :
    Calls Try.prog 26 #[.agg #[.int .i64 k0, .slice a0 m q0], .int .i64 i] w (ResY 0 [] 3 w) := by
  have hi0 : ¬ i < 0 := by omega
  have hi1 : ¬ 40 < i := by omega
  have hw : wrap64 (x + i) = x + i := wrap_sm (by omega) (by omega)
  have hov : decide (40 < x + i) = true := decide_eq_true (by omega)
  clear hx hi
  have t2 := Try.underlying27
  obtain ⟨w1, hw1⟩ : ∃ w1, w1 = ((w.alloc (.cells #[.int .i64 k0, .slice a0 m q0] 27)).alloc (.cells #[.int .i64 0, .slice none 0 0] 27)) := ⟨_, rfl⟩
  have S1 : Hid (Bx2Q w k0 (.slice a0 m q0) w1) := Lib.hid (by rw [hw1]; exact Bx2Q.start _ _ _)
  have d0 := S1.out.boxA.c0
  have d1 := S1.out.boxA.c1
  go_enter Try.func26, Try.ntmps26
  go_upto_region 1 with fail
  rw [← hw1]
  clear hw1
  go_wp2_with fail
  refine (IS.out w1 S1.out.bel).mono ?_
  rintro e w2 ⟨rfl, b2⟩
  have S2 := Lib.hid (S1.out.up b2)
  clear b2 S1 d0 d1
  have d0 := S2.out.boxA.c0
  have d1 := S2.out.boxA.c1
  go_wp2_with fail
  refine (DX.out w2 S2.out.bel).mono ?_
  rintro e w3 ⟨rfl, b3⟩
  have S3 := Lib.hid (S2.out.up b3)
  clear b3 S2 d0 d1
  have r0 := S3.out.boxR.c0
  have r1 := S3.out.boxR.c1
  have f0 := S3.out.boxR.fr 0
  have f1 := S3.out.boxR.fr 1
  go_wp2_with fail
  refine bodyPost_ret (results_box2_tmp rfl _ _ (w.heap.size + 1) _ _ _ rfl ((S3.out.boxR.set0 _).set1 _) t2 (by kernel_rfl)) rfl ?_
  exact ⟨_, fun _ => undef, rfl, famNil _ _, sepNil, (S3.out.bel.setCell (p := ⟨w.heap.size + 1, 0, none⟩) (by simp) _).setCell (p := ⟨w.heap.size + 1, 1, none⟩) (by simp) _⟩

/-- What ends the call with a polynomial. -/
theorem okEndQ {w w3 wD : World} {k0 : Int} {V0 : Value} {C : Int} {M : List (List Int)} {va : Option Addr} {vc : Nat} {VS : Nat → Value} (h : Bx2Q w k0 V0 w3) (b : Below w3.heap.size w3 wD) (f : FamL wD w.heap.size (.slice va M.length vc) VS M) (s : Sep M.length VS) (cd : Int) :
    Box ((wD.setCell ⟨w.heap.size + 1, 0, none⟩ (.int .i64 C)).setCell ⟨w.heap.size + 1, 1, none⟩ (.slice va M.length vc)) (w.heap.size + 1) 27 (.int .i64 C) (.slice va M.length vc) ∧
    ResY C M cd w (.returned (.tuple #[.agg #[.int .i64 C, .slice va M.length vc], .int .i64 cd])) ((wD.setCell ⟨w.heap.size + 1, 0, none⟩ (.int .i64 C)).setCell ⟨w.heap.size + 1, 1, none⟩ (.slice va M.length vc)) := by
  have S9 := h.up b
  have FIN := OwnF.stored (w0 := w) (c := C) S9.boxR f s (by omega)
  exact ⟨FIN.box, _, VS, rfl, FIN.fam, FIN.sep, (S9.bel.setCell (p := ⟨w.heap.size + 1, 0, none⟩) (by simp) _).setCell (p := ⟨w.heap.size + 1, 1, none⟩) (by simp) _⟩

set_option maxHeartbeats 4000000 in
theorem implSq_ok (x : Int) (k : Nat) (k0 : Int) (a0 : Option Addr) (m q0 : Nat) (i : Int) (w : World) (Z : List (List Int)) (A : List (List Int)) (hk : k0 = (k : Int)) (hk4 : 1 ≤ k ∧ k ≤ 4) (hx : 0 ≤ x ∧ x ≤ 40) (hi : 0 ≤ i ∧ i ≤ 40) (hxi : x + i ≤ 40) (IS : Hid (∀ wx, Below w.heap.size w wx → Calls Try.prog 15 #[.agg #[.int .i64 k0, .slice a0 m q0]] wx (SaysB true wx))) (DX : Hid (DegPM w k0 a0 m q0 x))
    (PF : Hid (∀ wx, Below w.heap.size w wx → Calls Try.prog 61 #[.agg #[.int .i64 k0, .slice a0 m q0]] wx fun e w' => ∃ u, e = .returned u ∧ RdY w' u (A.map pwK) ∧ Below wx.heap.size wx w'))
    (TM : Hid (∀ wx va, RdY wx va (A.map pwK) → Calls Try.prog 67 #[va, .int .i64 i] wx (MonsRes Z wx))) (Z4 : Hid (∀ z ∈ Z, z.length = 4)) :
    Calls Try.prog 26 #[.agg #[.int .i64 k0, .slice a0 m q0], .int .i64 i] w (ResY (fitC k0 (Z.map (List.take k))) (fitL (Z.map (List.take k))) (fitD (Z.map (List.take k))) w) := by
  have UN : Hid (∀ wx u, RdY wx u (Z.map pwK) → Calls Try.prog 62 #[u, .int .i64 k0] wx (ResY (fitC k0 (Z.map (List.take k))) (fitL (Z.map (List.take k))) (fitD (Z.map (List.take k))) wx)) := Lib.hid (fun wx u hu => by rw [hk]; exact unpackedM_any u k Z wx hu hk4 Z4.out)
  clear hk hk4
  have hi0 : ¬ i < 0 := by omega
  have hi1 : ¬ 40 < i := by omega
  have hw : wrap64 (x + i) = x + i := wrap_sm (by omega) (by omega)
  have hov : decide (40 < x + i) = false := decide_eq_false (by omega)
  clear hx hi hxi
  have t2 := Try.underlying27
  obtain ⟨w1, hw1⟩ : ∃ w1, w1 = ((w.alloc (.cells #[.int .i64 k0, .slice a0 m q0] 27)).alloc (.cells #[.int .i64 0, .slice none 0 0] 27)) := ⟨_, rfl⟩
  have S1 : Hid (Bx2Q w k0 (.slice a0 m q0) w1) := Lib.hid (by rw [hw1]; exact Bx2Q.start _ _ _)
  have d0 := S1.out.boxA.c0
  have d1 := S1.out.boxA.c1
  go_enter Try.func26, Try.ntmps26
  go_upto_region 1 with fail
  rw [← hw1]
  clear hw1
  go_wp2_with fail
  refine (IS.out w1 S1.out.bel).mono ?_
  rintro e w2 ⟨rfl, b2⟩
  have S2 := Lib.hid (S1.out.up b2)
  clear b2 S1 d0 d1
  have d0 := S2.out.boxA.c0
  have d1 := S2.out.boxA.c1
  go_wp2_with fail
  refine (DX.out w2 S2.out.bel).mono ?_
  rintro e w3 ⟨rfl, b3⟩
  have S3 := Lib.hid (S2.out.up b3)
  clear b3 S2 d0 d1

  generalize fitL (Z.map (List.take k)) = M at *
  generalize fitC k0 (Z.map (List.take k)) = C at *
  generalize fitD (Z.map (List.take k)) = cd at *
  have KEEP : Hid (∀ wx, w3.grownBy wx (some (w.heap.size + 1)) → (wx.cell? ⟨w.heap.size, 0, none⟩ = some (.int .i64 k0) ∧ wx.cell? ⟨w.heap.size, 1, none⟩ = some (.slice a0 m q0) ∧ w3.grownBy wx (some (w.heap.size + 1)))) :=
    Lib.hid (fun wx hb => ⟨(S3.out.boxA.gb hb (by omega)).c0, (S3.out.boxA.gb hb (by omega)).c1, hb⟩)
  have z0 : Below w3.heap.size w3 w3.drew := (Below.refl _ _).drew
  have gR := S3.out.boxR.lt
  have gb0 : w3.grownBy w3.drew (some (w.heap.size + 1)) := gb_below z0 _
  have OE := Lib.hid (fun wD va vc VS b f s => okEndQ (wD := wD) (C := C) (M := M) (va := va) (vc := vc) (VS := VS) S3.out b f s cd)
  have GE := S3.out.bel.size
  go_wp2_with fail
  go_region_held3 (fun wx => wx.cell? ⟨w.heap.size, 0, none⟩ = some (.int .i64 k0) ∧ wx.cell? ⟨w.heap.size, 1, none⟩ = some (.slice a0 m q0) ∧ w3.grownBy wx (some (w.heap.size + 1)))
    (first | exact KEEP.out _ gb0 | exact KEEP.out _ (by assumption) | exact KEEP.out _ (gb_set (gb_below z9 _) gR 0 _) | exact KEEP.out _ (gb_set (gb_set (gb_below z9 _) gR 0 _) gR 1 _))
    (first
      | (go_at_call 61; refine (PF.out _ (S3.out.bel.step1 z0)).mono ?_; rintro e w6 ⟨u6, rfl, r6, b6⟩; have gb6 := gb_below (z0.step1 b6) (some (w.heap.size + 1)); have z6 := z0.step1 b6)
      | (go_at_call 67; refine (TM.out _ u6 r6).mono ?_; rintro e w8 ⟨u8, rfl, o8, b8⟩; have gb8 := gb_below (z6.step1 b8) (some (w.heap.size + 1)); have z8 := z6.step1 b8; have r8 := rdY_of_own o8 Z4.out)
      | (go_at_call 62; refine (UN.out _ u8 r8).mono ?_; rintro e w9 ⟨v9, vs9, rfl, f9, s9, b9⟩; have gb9 := gb_below (z8.step1 b9) (some (w.heap.size + 1)); have z9 := z8.step1 b9; have p9 := Fam.base (B' := w.heap.size) f9 (Nat.le_trans GE z8.size); have y0 := (S3.out.boxR.up z9).c0; have y1 := (S3.out.boxR.up z9).c1; have y2 := (S3.out.boxR.up z9).fr 0; have y3 := (S3.out.boxR.up z9).fr 1; obtain ⟨va9, vc9, rfl, _, _⟩ := Fam.head p9))
  have FIN := Lib.hid (OE.out w9 va9 vc9 vs9 z9 p9 s9)
  clear z0 z6 z8 z9 r6 r8 b6 b8 b9 o8 f9 p9 s9 y0 y1 y2 y3 KEEP S3 OE
  go_wp2_with fail
  refine bodyPost_ret (results_box2_tmp rfl _ _ (w.heap.size + 1) _ _ _ rfl FIN.out.1 t2 (by kernel_rfl)) rfl ?_
  exact FIN.out.2
end Go.Proofs.Ytnfhfilconcajaa.Pl
end
