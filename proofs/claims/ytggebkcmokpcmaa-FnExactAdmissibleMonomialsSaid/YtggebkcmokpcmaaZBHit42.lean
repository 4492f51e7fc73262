/-
  Joined: HKamI, NBase, NIs, NIsI, NBin.
-/
import Derived.Test.YtggebkcmokpcmaaZBHit41
import Derived.Test.YtggebkcmokpcmaaZBHit23
import Derived.WalkMore
import Derived.Deep.LoopGhost
import Derived.Test.YtggebkcmokpcmaaZBHit05
import Derived.Test.YtggebkcmokpcmaaZBHit30
import Derived.Test.YtggebkcmokpcmaaZBHit09
import Derived.Deep.RegionHeld3
import Derived.Test.YtggebkcmokpcmaaZBHit14
import Derived.Test.YtggebkcmokpcmaaZBHit18
section
namespace Go.Proofs.Ytggebkcmokpcmaa.Pl
open Go.RowKit
set_option linter.unusedVariables false
set_option maxRecDepth 100000

/-- What the program's outer loops keep: the boxes, the polynomial that grows (its box is g). -/
structure KmI (w0 : World) (g : Nat) (k0 : Int) (V0 S : Value) (US : Nat → Value) (L : List (List Int)) (w : World) : Prop where
  bx : Bx2Q w0 k0 V0 w
  lo : w0.heap.size + 2 ≤ g
  ge : g + 1 ≤ w.heap.size
  bD : Box w g 31 (.int .i64 k0) S
  fam : FamL w (g + 1) S US L
  sep : Sep L.length US
theorem KmI.up {w0 w w' : World} {g : Nat} {k0 : Int} {V0 S : Value} {US : Nat → Value} {L : List (List Int)} (h : KmI w0 g k0 V0 S US L w) (b : Below w.heap.size w w') : KmI w0 g k0 V0 S US L w' := ⟨h.bx.up b, h.lo, Nat.le_trans h.ge b.size, h.bD.up b, h.fam.below b, h.sep⟩
theorem KmI.push {w wr w5 w8 : World} {g : Nat} {k0 : Int} {V0 S v V8 : Value} {L : List (List Int)} {US : Nat → Value} {x : List Int} (h : KmI w g k0 V0 S US L wr) (b5 : Below wr.heap.size wr w5)
    (hv : w5.ownsRow wr.heap.size 2 1 v x.length (x.map (Value.int .i64))) (o : Obj) (ho : w8.ownsRow (g + 1) 42 1 V8 (L.length + 1) ((List.range L.length).map US ++ [v])) (hg : (w5.alloc o).grownBy w8 S.ownBlock) :
    Box w8 g 31 (.int .i64 k0) S ∧ KmI w g k0 V0 V8 (ext US L.length v) (L ++ [x]) (w8.setCell ⟨g, 1, none⟩ V8) := by
  have hge := h.ge
  have hlo := h.lo
  obtain ⟨f8, s8, b8⟩ := fam_put h.fam h.sep (by omega) hv rfl b5 o ho hg
  have bD8 : Box w8 g 31 (.int .i64 k0) S := h.bD.below b8 (by omega)
  have hne : ∀ q, g + 1 ≤ q → (w8.setCell ⟨g, 1, none⟩ V8).heap[q]? = w8.heap[q]? := fun q hq => heap_setCell_other _ _ _ _ (by simp; omega)
  have hs8 := b8.size
  have A8 : Box w8 w.heap.size 31 (.int .i64 k0) V0 := h.bx.boxA.below b8 (by omega)
  have R8 : Box w8 (w.heap.size + 1) 31 (.int .i64 0) (.slice none 0 0) := h.bx.boxR.below b8 (by omega)
  refine ⟨bD8, ⟨⟨?_, A8.other _ _ (by simp; omega), R8.other _ _ (by simp; omega)⟩, hlo, by rw [World.size_setCell]; omega, bD8.set1 V8, ⟨?_, ?_⟩, s8⟩⟩
  · exact (h.bx.bel.trans (b8.mono (by omega))).setCell (p := ⟨g, 1, none⟩) (by simp; omega) V8
  · exact own_sameblock f8.out fun q hq => hne q (f8.out.lt q hq).1
  · exact fun i hi => own_sameblock (f8.inn i hi) fun q hq => hne q ((f8.inn i hi).lt q hq).1

set_option maxHeartbeats 1000000 in
theorem implKamUp_bad (k0 : Int) (a0 : Option Addr) (m q0 : Nat) (w : World) (IS : Hid (∀ wx, Below w.heap.size w wx → Calls Try.prog 57 #[.agg #[.int .i64 k0, .slice a0 m q0]] wx (SaysB false wx))) :
    Calls Try.prog 41 #[.agg #[.int .i64 k0, .slice a0 m q0]] w (ResY 0 [] 1 w) := by
  have t2 := Try.underlying31
  obtain ⟨w1, hw1⟩ : ∃ w1, w1 = ((w.alloc (.cells #[.int .i64 k0, .slice a0 m q0] 31)).alloc (.cells #[.int .i64 0, .slice none 0 0] 31)) := ⟨_, rfl⟩
  have S1 : Hid (Bx2Q w k0 (.slice a0 m q0) w1) := Lib.hid (by rw [hw1]; exact Bx2Q.start _ _ _)
  have d0 := S1.out.boxA.c0
  have d1 := S1.out.boxA.c1
  go_enter Try.func41, Try.ntmps41
  go_upto_region 1 with fail
  rw [← hw1]
  clear hw1
  go_wp2_with fail
  refine (IS.out w1 S1.out.bel).mono ?_
  rintro e w2 ⟨rfl, b2⟩
  have S2 := Lib.hid (S1.out.up b2)
  clear b2 S1 d0 d1
  have r0 := S2.out.boxR.c0
  have r1 := S2.out.boxR.c1
  have f0 := S2.out.boxR.fr 0
  have f1 := S2.out.boxR.fr 1
  go_wp2_with fail
  refine bodyPost_ret (results_box2_tmp rfl _ _ (w.heap.size + 1) _ _ _ rfl ((S2.out.boxR.set0 _).set1 _) t2 (by kernel_rfl)) rfl ?_
  exact ⟨_, fun _ => undef, rfl, famNil _ _, sepNil, (S2.out.bel.setCell (p := ⟨w.heap.size + 1, 0, none⟩) (by simp) _).setCell (p := ⟨w.heap.size + 1, 1, none⟩) (by simp) _⟩

set_option maxHeartbeats 1000000 in
theorem implKamDown_bad (k0 : Int) (a0 : Option Addr) (m q0 : Nat) (w : World) (IS : Hid (∀ wx, Below w.heap.size w wx → Calls Try.prog 57 #[.agg #[.int .i64 k0, .slice a0 m q0]] wx (SaysB false wx))) :
    Calls Try.prog 39 #[.agg #[.int .i64 k0, .slice a0 m q0]] w (ResY 0 [] 1 w) := by
  have t2 := Try.underlying31
  obtain ⟨w1, hw1⟩ : ∃ w1, w1 = ((w.alloc (.cells #[.int .i64 k0, .slice a0 m q0] 31)).alloc (.cells #[.int .i64 0, .slice none 0 0] 31)) := ⟨_, rfl⟩
  have S1 : Hid (Bx2Q w k0 (.slice a0 m q0) w1) := Lib.hid (by rw [hw1]; exact Bx2Q.start _ _ _)
  have d0 := S1.out.boxA.c0
  have d1 := S1.out.boxA.c1
  go_enter Try.func39, Try.ntmps39
  go_upto_region 1 with fail
  rw [← hw1]
  clear hw1
  go_wp2_with fail
  go_step3
  go_wp2_with fail
  refine (IS.out w1 S1.out.bel).mono ?_
  rintro e w2 ⟨rfl, b2⟩
  have S2 := Lib.hid (S1.out.up b2)
  clear b2 S1 d0 d1
  have r0 := S2.out.boxR.c0
  have r1 := S2.out.boxR.c1
  have f0 := S2.out.boxR.fr 0
  have f1 := S2.out.boxR.fr 1
  go_wp2_with fail
  try rw [Exit.noGoto_ret]
  refine bodyPost_ret (results_box2_tmp rfl _ _ (w.heap.size + 1) _ _ _ rfl ((S2.out.boxR.set0 _).set1 _) t2 (by kernel_rfl)) rfl ?_
  exact ⟨_, fun _ => undef, rfl, famNil _ _, sepNil, (S2.out.bel.setCell (p := ⟨w.heap.size + 1, 0, none⟩) (by simp) _).setCell (p := ⟨w.heap.size + 1, 1, none⟩) (by simp) _⟩

set_option maxHeartbeats 1000000 in
theorem implKamUp_over (x : Int) (k0 : Int) (a0 : Option Addr) (m q0 : Nat) (w : World) (hx : 0 ≤ x ∧ x ≤ 40) (hk : 1 ≤ k0 ∧ k0 ≤ 4) (hov : 40 < 2 * x + k0) (IS : Hid (∀ wx, Below w.heap.size w wx → Calls Try.prog 57 #[.agg #[.int .i64 k0, .slice a0 m q0]] wx (SaysB true wx))) (DX : Hid (DegPM w k0 a0 m q0 x)) :
    Calls Try.prog 41 #[.agg #[.int .i64 k0, .slice a0 m q0]] w (ResY 0 [] 3 w) := by
  have hw1' : wrap64 (2 * x) = 2 * x := wrap_sm (by omega) (by omega)
  have hw2' : wrap64 (2 * x + k0) = 2 * x + k0 := wrap_sm (by omega) (by omega)
  have hw3' : IntKind.i64.wrap (2 * x) = 2 * x := by rw [IntKind.wrap_i64]; omega
  have hw4' : IntKind.i64.wrap (2 * x + k0) = 2 * x + k0 := by rw [IntKind.wrap_i64]; omega
  have hov2 : decide (40 < 2 * x + k0) = true := decide_eq_true hov
  clear hx hk
  have t2 := Try.underlying31
  obtain ⟨w1, hw1⟩ : ∃ w1, w1 = ((w.alloc (.cells #[.int .i64 k0, .slice a0 m q0] 31)).alloc (.cells #[.int .i64 0, .slice none 0 0] 31)) := ⟨_, rfl⟩
  have S1 : Hid (Bx2Q w k0 (.slice a0 m q0) w1) := Lib.hid (by rw [hw1]; exact Bx2Q.start _ _ _)
  have d0 := S1.out.boxA.c0
  have d1 := S1.out.boxA.c1
  go_enter Try.func41, Try.ntmps41
  go_upto_region 1 with fail
  rw [← hw1]
  clear hw1
  go_wp2_with fail
  refine (IS.out w1 S1.out.bel).mono ?_
  rintro e w2 ⟨rfl, b2⟩
  have S2 := Lib.hid (S1.out.up b2)
  clear b2 S1 d0 d1
  have KEEP : Hid (∀ wx, Below w2.heap.size w2 wx → (wx.cell? ⟨w.heap.size, 0, none⟩ = some (.int .i64 k0) ∧ wx.cell? ⟨w.heap.size, 1, none⟩ = some (.slice a0 m q0) ∧ Below w2.heap.size w2 wx)) :=
    Lib.hid (fun wx hb => ⟨(S2.out.boxA.up hb).c0, (S2.out.boxA.up hb).c1, hb⟩)
  have D2 : Hid (∀ wx, Below w2.heap.size w2 wx → Calls Try.prog 58 #[.agg #[.int .i64 k0, .slice a0 m q0]] wx fun e w' => e = .returned (.int .i64 x) ∧ Below wx.heap.size wx w') := Lib.hid (fun wx hb => DX.out wx (S2.out.bel.step1 hb))
  go_wp2_with fail
  go_region_held3 (fun wx => wx.cell? ⟨w.heap.size, 0, none⟩ = some (.int .i64 k0) ∧ wx.cell? ⟨w.heap.size, 1, none⟩ = some (.slice a0 m q0) ∧ Below w2.heap.size w2 wx)
    (first | exact KEEP.out _ (Below.refl _ _).drew | exact KEEP.out _ (by assumption))
    (first | (go_at_call 58; refine (D2.out _ (Below.refl _ _).drew).mono ?_; rintro e w3 ⟨rfl, b3⟩; have z3 := belD1 b3))
  have S3 := Lib.hid (S2.out.up z3)
  clear z3 b3 KEEP D2 S2
  have r0 := S3.out.boxR.c0
  have r1 := S3.out.boxR.c1
  have f0 := S3.out.boxR.fr 0
  have f1 := S3.out.boxR.fr 1
  go_wp2_with fail
  refine bodyPost_ret (results_box2_tmp rfl _ _ (w.heap.size + 1) _ _ _ rfl ((S3.out.boxR.set0 _).set1 _) t2 (by kernel_rfl)) rfl ?_
  exact ⟨_, fun _ => undef, rfl, famNil _ _, sepNil, (S3.out.bel.setCell (p := ⟨w.heap.size + 1, 0, none⟩) (by simp) _).setCell (p := ⟨w.heap.size + 1, 1, none⟩) (by simp) _⟩

theorem cpy_of (f : Int → Int) (xs : List Int) : cpy (fun j => f (xs[j]?.getD 0)) xs.length xs.length = xs.map f := by
  unfold cpy
  apply List.ext_getElem
  · simp
  · intro i h1 h2
    simp at h1
    simp [h1]

/-- The third box. -/
theorem bx3_start {w wx : World} {k0 : Int} {V0 : Value} (h : Bx2Q w k0 V0 wx) : KmI w wx.heap.size k0 V0 (.slice none 0 0) (fun _ => undef) [] (wx.alloc (.cells #[.int .i64 k0, .slice none 0 0] 31)) :=
  ⟨h.up ((Below.refl _ _).alloc (Nat.le_refl _) _), h.boxR.lt, by rw [World.size_alloc]; omega, Box.new _ _ _ _, famNil _ _, sepNil⟩
end Go.Proofs.Ytggebkcmokpcmaa.Pl
end
section
namespace Go.Proofs.Ytggebkcmokpcmaa
open Go.RowKit
set_option linter.unusedVariables false
set_option maxRecDepth 100000

end Go.Proofs.Ytggebkcmokpcmaa
end
section
namespace Go.Proofs.Ytggebkcmokpcmaa
open Go.RowKit
set_option linter.unusedVariables false
set_option maxRecDepth 100000

/-- The degree of an exponent list. -/
def dgL (xs : List Int) : Int := dgr (gOf xs) xs.length
def isE (xs : List Int) : Prop := okExp (gOf xs) xs.length
/-- An exponent list of a degree of at most 40. -/
def goodE (xs : List Int) : Prop := isE xs ∧ dgL xs ≤ 40
def stepM (X : Nat → List Int) (i : Nat) : Prop := goodE (X i) ∧ dgL (X i) = dgL (X 0)
/-- An element. -/
def okMl (X : Nat → List Int) (m : Nat) : Prop := okTerms X m ∧ ∀ i, i < m → stepM X i

/-- v reads as an exponent list of the degree x. -/
def DegE (w : World) (v : Value) (x : Int) : Prop := ∃ n G, RdI w v n G ∧ okExp G n ∧ dgr G n = x
theorem DegE.below {w w' : World} {v : Value} {x : Int} (h : DegE w v x) (k : Below w.heap.size w w') : DegE w' v x := by
  obtain ⟨n, G, h1, h2, h3⟩ := h
  exact ⟨n, G, h1.below k, h2, h3⟩
theorem DegE.drewN {w : World} {v : Value} {x : Int} (h : DegE w v x) (q : Nat) : DegE (w.drewN q) v x := h
theorem degE_list {w : World} {v : Value} {xs : List Int} (h : RdI w v xs.length (fun j => xs[j]?.getD 0)) (hw : isE xs) : DegE w v (dgL xs) :=
  ⟨_, _, h, hw, rfl⟩

theorem dgV_small {x : Int} (h : x ≤ 40) : dgV x = x := by unfold dgV; rw [if_neg (by omega)]
theorem dgC_small {x : Int} (h : x ≤ 40) : dgC x = 0 := by unfold dgC; rw [if_neg (by omega)]

end Go.Proofs.Ytggebkcmokpcmaa
end
section
namespace Go.Proofs.Ytggebkcmokpcmaa
open Go.RowKit
set_option linter.unusedVariables false
set_option maxRecDepth 100000

theorem isE_short {xs : List Int} (h : isE xs) : xs.length ≤ 20 := by have := h.1; omega

end Go.Proofs.Ytggebkcmokpcmaa
end
section
namespace Go.Proofs.Ytggebkcmokpcmaa.Ml
open Go.RowKit
set_option linter.unusedVariables false
set_option maxRecDepth 100000

theorem lexCmp_zero : ∀ xs ys : List Int, lexCmp xs ys = 0 ↔ xs = ys
  | [], [] => by simp [lexCmp]
  | [], _ :: _ => by simp [lexCmp]
  | _ :: _, [] => by simp [lexCmp]
  | a :: l, b :: l' => by
    unfold lexCmp
    by_cases h : a = b
    · rw [if_pos h, lexCmp_zero l l']
      subst h
      simp
    · rw [if_neg h]
      constructor
      · intro e; split at e <;> omega
      · intro e; exact absurd (List.cons.inj e).1 h

/-- The list ys is one of the first m. -/
def hasR (X : Nat → List Int) (m : Nat) (ys : List Int) : Prop := ∃ i, i < m ∧ X i = ys
noncomputable def hasB (X : Nat → List Int) (m : Nat) (ys : List Int) : Bool := @decide (hasR X m ys) (Classical.propDecidable _)
theorem hasB_true {X : Nat → List Int} {m : Nat} {ys : List Int} : hasB X m ys = true ↔ hasR X m ys := @decide_eq_true_iff _ (Classical.propDecidable _)
theorem hasB_false {X : Nat → List Int} {m : Nat} {ys : List Int} (h : ¬ hasR X m ys) : hasB X m ys = false := by
  cases e : hasB X m ys with
  | false => rfl
  | true => exact absurd (hasB_true.1 e) h

theorem found_at {X : Nat → List Int} {m lo : Nat} {ys : List Int} (hasc : ∀ j, j < m → ∀ i, i < j → lexLt (X i) (X j) = true) (h1 : ∀ t, t < lo → lexCmp (X t) ys < 0) (h2 : ∀ t, lo ≤ t → t < m → 0 ≤ lexCmp (X t) ys) (hlo : lo < m) :
    hasB X m ys = decide (lexCmp (X lo) ys = 0) := by
  by_cases h : lexCmp (X lo) ys = 0
  · rw [decide_eq_true h]
    exact hasB_true.2 ⟨lo, hlo, (lexCmp_zero _ _).1 h⟩
  · rw [decide_eq_false h]
    refine hasB_false ?_
    rintro ⟨i, hi, rfl⟩
    rcases Nat.lt_trichotomy i lo with k | k | k
    · have := h1 i k
      rw [(lexCmp_zero _ _).2 rfl] at this
      omega
    · subst k
      exact h ((lexCmp_zero _ _).2 rfl)
    · have h3 := (lexCmp_lt _ _).2 (hasc i hi lo k)
      have h4 := h2 lo (Nat.le_refl _) hlo
      omega
theorem found_none {X : Nat → List Int} {m : Nat} {ys : List Int} (h1 : ∀ t, t < m → lexCmp (X t) ys < 0) : hasB X m ys = false := by
  refine hasB_false ?_
  rintro ⟨i, hi, rfl⟩
  have := h1 i hi
  rw [(lexCmp_zero _ _).2 rfl] at this
  omega

/-- Where the search ends. -/
def BinPost (X : Nat → List Int) (m : Nat) (ys : List Int) (w : World) (e : Ending) (w' : World) : Prop := ∃ i : Nat, e = .returned (.tuple #[.int .i64 i, .bool (hasB X m ys)]) ∧ w = w'

/-- Where a list stands. -/
def PlacePost (X : Nat → List Int) (m : Nat) (ys : List Int) (w : World) (e : Ending) (w' : World) : Prop := ∃ i : Int, e = .returned (.int .i64 i) ∧ -1 ≤ i ∧ (decide (0 ≤ i) = hasB X m ys) ∧ ∃ q, w' = w.drewN q

theorem l01Place_any (V : Value) (m : Nat) (X : Nat → List Int) (t : Value) (ys : List Int) (w : World) (h : RdSS w V m X) (ht : RdL w t ys) (hm : m ≤ 2000) :
    Calls Try.prog 92 #[V, t] w (PlacePost X m ys w) := by
  obtain ⟨⟨a, cap, rfl⟩, hsm, VS, hc, hr⟩ := h
  have SM := Lib.hid (fun i (hi : i < m) (q : Nat) => l01Same_any (VS i) t (X i) ys (w.drewN q) (hr i hi) ht)
  clear hr ht hsm
  by_cases h0 : m = 0
  · subst h0
    have N := Lib.hid (found_none (X := X) (m := 0) (ys := ys) (fun t ht => absurd ht (Nat.not_lt_zero _)))
    clear hc
    go_enter Try.func92, Try.ntmps92
    go_wp2
    refine wp_loop_rounds 1 ?_
    rw [rounds_succ]
    go_wp2
    go_ret
    exact ⟨-1, rfl, by omega, by rw [N.out]; rfl, 0, rfl⟩
  · obtain ⟨b, off, ⟨cap', e⟩, hc'⟩ := hc.resolve_left h0
    cases e
    have HC := Lib.hid hc'
    clear hc hc' h0
    go_enter Try.func92, Try.ntmps92
    go_wp2
    go_loopw [5] (fun c wr => ∃ k q : Nat, k ≤ m ∧ c = .int .i64 k ∧ Hid (∀ i, i < k → X i ≠ ys) ∧ Hid (wr = w.drewN q)) (fun c _ => m - (intOf c).toNat)
    case atStart => exact ⟨0, 0, by omega, rfl, Lib.hid (fun i hi => absurd hi (Nat.not_lt_zero _)), Lib.hid rfl⟩
    case round =>
      obtain ⟨k, q, hk, rfl, HN, hw⟩ := hrel
      by_cases hlt : k < m
      · have hlt' : (k : Int) < (m : Int) := by omega
        have c1 : wr.cell? ⟨b, off + k, none⟩ = some (VS k) := by rw [hw.out]; exact HC.out k hlt
        have S1 := Lib.hid (SM.out k hlt q)
        rw [← hw.out] at S1
        generalize VS k = v at c1 S1
        by_cases he : X k = ys
        · rw [decide_eq_true he] at S1
          have HY := Lib.hid (hasB_true.2 ⟨k, hlt, he⟩)
          clear he
          go_wp2_with fail
          refine S1.out.mono ?_
          rintro e w2 ⟨rfl, q2, rfl⟩
          go_wp2_with fail
          go_ret
          exact ⟨k, rfl, by omega, by rw [HY.out, decide_eq_true (by omega)], q + q2, by rw [hw.out]; exact World.drewN_drewN ..⟩
        · rw [decide_eq_false he] at S1
          have HN2 : Hid (∀ i, i < k + 1 → X i ≠ ys) := Lib.hid (fun i hi => by
            by_cases e : i = k
            · rw [e]; exact he
            · exact HN.out i (by omega))
          clear he
          go_wp2_with fail
          refine S1.out.mono ?_
          rintro e w2 ⟨rfl, q2, rfl⟩
          go_wp2_with fail
          go_roundw
          case rel => exact ⟨k + 1, q + q2, by omega, by go_num, HN2, Lib.hid (by rw [hw.out]; exact World.drewN_drewN ..)⟩
          case measure => simp [intOf]; omega
      · obtain rfl : k = m := by omega
        have N : Hid (hasB X k ys = false) := Lib.hid (hasB_false (fun ⟨i, hi, e⟩ => HN.out i hi e))
        go_wp2_with fail
        go_ret
        exact ⟨-1, rfl, by omega, by rw [N.out]; rfl, q, hw.out⟩
end Go.Proofs.Ytggebkcmokpcmaa.Ml
end
