/-
  Joined: PPow.
-/
import Derived.Test.YtfgkpkdoemnnmaaZBMil37
import Derived.Test.YtfgkpkdoemnnmaaZBMil07
import Derived.Test.YtfgkpkdoemnnmaaZBMil36
section
namespace Go.Proofs.Ytfgkpkdoemnnmaa.Ml
open Go.RowKit
set_option linter.unusedVariables false
set_option maxRecDepth 100000

/-- The terms of the product of k copies. -/
noncomputable def powT (X : Nat → List Int) (m : Nat) : Nat → List (List Int)
  | 0 => [[]]
  | j + 1 => prodT (rowsOf (powT X m j)) X (powT X m j).length m
theorem good_nil : goodE [] ∧ dgL [] = 0 := by
  refine ⟨⟨⟨by simp, .inl rfl, fun i hi => absurd hi (Nat.not_lt_zero _)⟩, ?_⟩, rfl⟩
  show (0 : Int) ≤ 40
  omega
/-- What the j-th power is. -/
structure PowOk (X : Nat → List Int) (m j : Nat) : Prop where
  el : okMl (rowsOf (powT X m j)) (powT X m j).length
  deg : 0 < m → 0 < (powT X m j).length → dgL (rowsOf (powT X m j) 0) = (j : Int) * dgL (X 0)
theorem pow_zero (X : Nat → List Int) (m : Nat) : PowOk X m 0 := by
  refine ⟨okMl_of (L := [[]]) (List.pairwise_singleton _ _) 0 fun x hx => by rw [List.mem_singleton.1 hx]; exact good_nil, fun _ _ => ?_⟩
  show dgL [] = _
  rw [good_nil.2]
  simp
theorem pow_fac {X : Nat → List Int} {m j : Nat} (hX : okMl X m) (h : PowOk X m j) (hd : 0 < m → ((j : Int) + 1) * dgL (X 0) ≤ 40) : Fac (rowsOf (powT X m j)) X (powT X m j).length m :=
  ⟨h.el, hX, fun a b => by
    have h1 := hd b
    rw [h.deg b a]
    rw [Int.add_mul, Int.one_mul] at h1
    exact h1⟩
theorem pow_succ {X : Nat → List Int} {m j : Nat} (hX : okMl X m) (h : PowOk X m j) (hd : 0 < m → ((j : Int) + 1) * dgL (X 0) ≤ 40) : PowOk X m (j + 1) := by
  have hF := pow_fac hX h hd
  refine ⟨hF.el, fun hm h0 => ?_⟩
  have h1 := hF.deg h0
  show dgL (rowsOf (prodT _ _ _ _) 0) = _
  rw [h1]
  by_cases c : 0 < (powT X m j).length
  · rw [h.deg hm c]
    have : ((j + 1 : Nat) : Int) = (j : Int) + 1 := by omega
    rw [this, Int.add_mul, Int.one_mul]
  · exfalso
    have e : (powT X m j).length = 0 := by omega
    have hz : prodT (rowsOf (powT X m j)) X (powT X m j).length m = [] := by
      rw [e]
      rfl
    change 0 < (prodT (rowsOf (powT X m j)) X (powT X m j).length m).length at h0
    rw [hz] at h0
    simp at h0
theorem pow_le {d : Int} (hd : 0 ≤ d) {j k : Nat} (h : j < k) (hk : (k : Int) * d ≤ 40) : ((j : Int) + 1) * d ≤ 40 := by
  have : ((j : Int) + 1) * d ≤ (k : Int) * d := Int.mul_le_mul_of_nonneg_right (by omega) hd
  omega
/-- All powers up to the k-th one. -/
theorem pow_all {X : Nat → List Int} {m k : Nat} (hX : okMl X m) (hk : 0 < m → (k : Int) * dgL (X 0) ≤ 40) : ∀ j, j ≤ k → PowOk X m j
  | 0, _ => pow_zero X m
  | j + 1, hj => pow_succ hX (pow_all hX hk j (by omega)) fun hm => pow_le (okMl_deg hX hm).1 (by omega) (hk hm)
theorem pow_ok {X : Nat → List Int} {m j : Nat} (h : PowOk X m j) : ∀ x ∈ powT X m j, x.length ≤ 5 ∧ ∀ z ∈ x, 0 ≤ z ∧ z ≤ 10000000 := fun x hx => by
  obtain ⟨i, hi, rfl⟩ := List.mem_iff_getElem.1 hx
  have := h.el.2 i hi
  have e : rowsOf (powT X m j) i = (powT X m j)[i] := by unfold rowsOf; rw [List.getElem?_eq_getElem hi]; rfl
  rw [stepM, e] at this
  refine ⟨good_len this.1, fun z hz => ?_⟩
  have := good_small this.1 z hz
  omega

/-- The struct, the result's variable, and the list under way. -/
structure PwI (w : World) (va : Value) (S : Value) (VS : Nat → Value) (L : List (List Int)) (W : World) : Prop where
  bel : Below w.heap.size w W
  bA : Box1 W w.heap.size 26 va
  bR : Box1 W (w.heap.size + 1) 26 (.slice none 0 0)
  fam : FamL W (w.heap.size + 2) S VS L
  sep : Sep L.length VS
/-- The two boxes alone. -/
structure Duo (w : World) (va : Value) (W : World) : Prop where
  bel : Below w.heap.size w W
  bA : Box1 W w.heap.size 26 va
  bR : Box1 W (w.heap.size + 1) 26 (.slice none 0 0)
theorem Duo.up {w : World} {va : Value} {W W' : World} (h : Duo w va W) (k : Below W.heap.size W W') : Duo w va W' := ⟨h.bel.step1 k, h.bA.up k, h.bR.up k⟩
theorem Duo.size {w : World} {va : Value} {W : World} (h : Duo w va W) : w.heap.size + 2 ≤ W.heap.size := by have := h.bR.lt; omega
theorem Duo.start (w : World) (va : Value) : Duo w va ((w.alloc (.cells #[va] 26)).alloc (.cells #[.slice none 0 0] 26)) := by
  refine ⟨((Below.refl w.heap.size w).alloc (Nat.le_refl _) _).alloc (by simp) _, (Box1.new w _ _).alloc _, ?_⟩
  have := Box1.new (w.alloc (.cells #[va] 26)) 26 (.slice none 0 0)
  simpa using this
theorem fin2 {w w5 : World} {g : Nat} {V x : Value} {VS : Nat → Value} {L : List (List Int)} (hF : FamL w5 g V VS L) (hBe : Below w.heap.size w w5) (h1 : w.heap.size + 1 < g) (BR : Box1 w5 (w.heap.size + 1) 26 x) :
    Box1 (w5.setCell ⟨w.heap.size + 1, 0, none⟩ V) (w.heap.size + 1) 26 V ∧ FamL (w5.setCell ⟨w.heap.size + 1, 0, none⟩ V) w.heap.size V VS L ∧ Below w.heap.size w (w5.setCell ⟨w.heap.size + 1, 0, none⟩ V) :=
  ⟨BR.set V, (Fam.same hF fun q hq hlt => heap_setCell_other _ _ _ _ (by simp; omega)).base (by omega), hBe.setCell (p := ⟨w.heap.size + 1, 0, none⟩) (by simp) V⟩

theorem specPow_bad (a : Option Addr) (m cap : Nat) (k : Int) (w : World) (A : IsS false a m cap w) : Calls Try.prog 22 #[.agg #[.slice a m cap], .int .i64 k] w (ResS [] 1 w) := by
  have t2 := Try.underlying26
  obtain ⟨w1, hw1⟩ : ∃ w1, w1 = ((w.alloc (.cells #[.slice a m cap] 26)).alloc (.cells #[.slice none 0 0] 26)) := ⟨_, rfl⟩
  have D1 : Hid (Duo w (.slice a m cap) w1) := Lib.hid (by rw [hw1]; exact Duo.start _ _)
  go_enter Try.func22, Try.ntmps22
  go_wp2_with fail
  rw [← hw1]
  clear hw1
  have d0 := D1.out.bA.c
  go_wp2_with fail
  refine (A.out w1 D1.out.bel).mono ?_
  rintro e w2 ⟨rfl, b2⟩
  have D2 := Lib.hid (D1.out.up b2)
  clear b2 D1 d0
  have dR := D2.out.bR.c
  have fR := D2.out.bR.fr 0
  have hsz := D2.out.size
  go_wp2_with fail
  have FIN := fin2 (w := w) (famNil _ (w.heap.size + 2)) D2.out.bel (by omega) D2.out.bR
  refine bodyPost_ret (results_box1_tmp rfl _ _ (w.heap.size + 1) _ _ rfl (by first | exact FIN.1 | exact D2.out.bR) t2 (by kernel_rfl)) rfl ?_
  first
    | exact ⟨_, _, rfl, FIN.2.1, sepNil, FIN.2.2⟩
    | exact ⟨_, _, rfl, famNil _ _, sepNil, D2.out.bel⟩

theorem implPow_bad (a : Option Addr) (m cap : Nat) (k : Int) (w : World) (A : IsI false a m cap w) : Calls Try.prog 23 #[.agg #[.slice a m cap], .int .i64 k] w (ResS [] 1 w) := by
  have t2 := Try.underlying26
  obtain ⟨w1, hw1⟩ : ∃ w1, w1 = ((w.alloc (.cells #[.slice a m cap] 26)).alloc (.cells #[.slice none 0 0] 26)) := ⟨_, rfl⟩
  have D1 : Hid (Duo w (.slice a m cap) w1) := Lib.hid (by rw [hw1]; exact Duo.start _ _)
  go_enter Try.func23, Try.ntmps23
  go_wp2_with fail
  rw [← hw1]
  clear hw1
  have d0 := D1.out.bA.c
  go_wp2_with fail
  refine (A.out w1 D1.out.bel).mono ?_
  rintro e w2 ⟨rfl, b2⟩
  have D2 := Lib.hid (D1.out.up b2)
  clear b2 D1 d0
  have dR := D2.out.bR.c
  have fR := D2.out.bR.fr 0
  have hsz := D2.out.size
  go_wp2_with fail
  have FIN := fin2 (w := w) (famNil _ (w.heap.size + 2)) D2.out.bel (by omega) D2.out.bR
  refine bodyPost_ret (results_box1_tmp rfl _ _ (w.heap.size + 1) _ _ rfl (by first | exact FIN.1 | exact D2.out.bR) t2 (by kernel_rfl)) rfl ?_
  first
    | exact ⟨_, _, rfl, FIN.2.1, sepNil, FIN.2.2⟩
    | exact ⟨_, _, rfl, famNil _ _, sepNil, D2.out.bel⟩

theorem specPow_range (a : Option Addr) (m cap : Nat) (k : Int) (w : World) (A : IsS true a m cap w) (hk : k < 0 ∨ 40 < k) : Calls Try.prog 22 #[.agg #[.slice a m cap], .int .i64 k] w (ResS [] 2 w) := by
  have t2 := Try.underlying26
  obtain ⟨w1, hw1⟩ : ∃ w1, w1 = ((w.alloc (.cells #[.slice a m cap] 26)).alloc (.cells #[.slice none 0 0] 26)) := ⟨_, rfl⟩
  have D1 : Hid (Duo w (.slice a m cap) w1) := Lib.hid (by rw [hw1]; exact Duo.start _ _)
  have I1 := Lib.hid (fun wx => l01In_no k 0 40 wx hk)
  clear hk
  go_enter Try.func22, Try.ntmps22
  go_wp2_with fail
  rw [← hw1]
  clear hw1
  have d0 := D1.out.bA.c
  go_wp2_with fail
  refine (A.out w1 D1.out.bel).mono ?_
  rintro e w2 ⟨rfl, b2⟩
  have D2 := Lib.hid (D1.out.up b2)
  clear b2 D1 d0
  go_wp2_with fail
  refine (I1.out _).mono ?_
  rintro e w3 ⟨rfl, rfl⟩
  have dR := D2.out.bR.c
  have fR := D2.out.bR.fr 0
  have hsz := D2.out.size
  go_wp2_with fail
  have FIN := fin2 (w := w) (famNil _ (w.heap.size + 2)) D2.out.bel (by omega) D2.out.bR
  refine bodyPost_ret (results_box1_tmp rfl _ _ (w.heap.size + 1) _ _ rfl (by first | exact FIN.1 | exact D2.out.bR) t2 (by kernel_rfl)) rfl ?_
  first
    | exact ⟨_, _, rfl, FIN.2.1, sepNil, FIN.2.2⟩
    | exact ⟨_, _, rfl, famNil _ _, sepNil, D2.out.bel⟩

theorem implPow_range (a : Option Addr) (m cap : Nat) (k : Int) (w : World) (A : IsI true a m cap w) (hk : k < 0 ∨ 40 < k) : Calls Try.prog 23 #[.agg #[.slice a m cap], .int .i64 k] w (ResS [] 2 w) := by
  have hcase : k < 0 ∨ (0 ≤ k ∧ 40 < k) := by omega
  clear hk
  have t2 := Try.underlying26
  obtain ⟨w1, hw1⟩ : ∃ w1, w1 = ((w.alloc (.cells #[.slice a m cap] 26)).alloc (.cells #[.slice none 0 0] 26)) := ⟨_, rfl⟩
  have D1 : Hid (Duo w (.slice a m cap) w1) := Lib.hid (by rw [hw1]; exact Duo.start _ _)
  rcases hcase with h1 | ⟨h1, h2⟩
  all_goals
    go_enter Try.func23, Try.ntmps23
    go_wp2_with fail
    rw [← hw1]
    clear hw1
    have d0 := D1.out.bA.c
    go_wp2_with fail
    refine (A.out w1 D1.out.bel).mono ?_
    rintro e w2 ⟨rfl, b2⟩
    have D2 := Lib.hid (D1.out.up b2)
    clear b2 D1 d0
    have dR := D2.out.bR.c
    have fR := D2.out.bR.fr 0
    have hsz := D2.out.size
    go_wp2_with fail
    have FIN := fin2 (w := w) (famNil _ (w.heap.size + 2)) D2.out.bel (by omega) D2.out.bR
    refine bodyPost_ret (results_box1_tmp rfl _ _ (w.heap.size + 1) _ _ rfl (by first | exact FIN.1 | exact D2.out.bR) t2 (by kernel_rfl)) rfl ?_
    first
      | exact ⟨_, _, rfl, FIN.2.1, sepNil, FIN.2.2⟩
      | exact ⟨_, _, rfl, famNil _ _, sepNil, D2.out.bel⟩

theorem specPow_limit (b o m cap : Nat) (v : Value) (x : Int) (k : Nat) (w : World) (A : IsS true (some ⟨b, o, none⟩) m cap w) (hm : 0 < m) (hk : k ≤ 40) (hc : w.cell? ⟨b, o, none⟩ = some v) (hd : DegE w v x) (hx : 0 ≤ x ∧ x ≤ 40) (hbig : 40 < (k : Int) * x) :
    Calls Try.prog 22 #[.agg #[.slice (some ⟨b, o, none⟩) m cap], .int .i64 k] w (ResS [] 3 w) := by
  have t2 := Try.underlying26
  obtain ⟨w1, hw1⟩ : ∃ w1, w1 = ((w.alloc (.cells #[.slice (some ⟨b, o, none⟩) m cap] 26)).alloc (.cells #[.slice none 0 0] 26)) := ⟨_, rfl⟩
  have D1 : Hid (Duo w (.slice (some ⟨b, o, none⟩) m cap) w1) := Lib.hid (by rw [hw1]; exact Duo.start _ _)
  have I1 := Lib.hid (fun wx => l01In_yes (k : Int) 0 40 wx (by omega) (by omega))
  have hmd : decide (0 < m) = true := decide_eq_true hm
  have hm' : (0 : Int) < (m : Int) := by omega
  have HC := Lib.hid hc
  have HD := Lib.hid hd
  have hp0 : (k : Int) * x ≤ 40 * 40 := Int.mul_le_mul (by omega) hx.2 hx.1 (by omega)
  obtain ⟨P, hP⟩ : ∃ P, (k : Int) * x = P := ⟨_, rfl⟩
  rw [hP] at hbig hp0
  have hw : wrap64 ((k : Int) * x) = P := by rw [hP]; unfold wrap64; omega
  have HW := Lib.hid hw
  clear hc hd hm hw hP
  go_enter Try.func22, Try.ntmps22
  go_wp2_with fail
  rw [← hw1]
  clear hw1
  have d0 := D1.out.bA.c
  go_wp2_with fail
  refine (A.out w1 D1.out.bel).mono ?_
  rintro e w2 ⟨rfl, b2⟩
  have D2 := Lib.hid (D1.out.up b2)
  clear b2 D1 d0
  go_wp2_with fail
  refine (I1.out _).mono ?_
  rintro e w3 ⟨rfl, rfl⟩
  have d0 := D2.out.bA.c
  have c2 : w2.cell? ⟨b, o, none⟩ = some v := (D2.out.bel.cell (p := ⟨b, o, none⟩) (World.block_lt_of_cell? w _ HC.out)).trans HC.out
  have E2 := Lib.hid (HD.out.below D2.out.bel)
  go_wp2_with fail
  refine (l01Degree_is E2 0).mono ?_
  rintro e w3' ⟨rfl, qq, hw3⟩
  obtain ⟨w3, rfl⟩ : ∃ w3, w3 = w3' := ⟨_, rfl⟩
  have D3 : Hid (Duo w (.slice (some ⟨b, o, none⟩) m cap) w3) := Lib.hid (by rw [hw3]; exact D2.out.up (below_drewN (below_drewN (Below.refl _ _) 0) qq))
  have hw := HW.out
  clear hw3 d0 c2 D2
  have dR := D3.out.bR.c
  have fR := D3.out.bR.fr 0
  have hsz := D3.out.size
  go_wp2_with fail
  have FIN := fin2 (w := w) (famNil _ (w.heap.size + 2)) D3.out.bel (by omega) D3.out.bR
  refine bodyPost_ret (results_box1_tmp rfl _ _ (w.heap.size + 1) _ _ rfl (by first | exact FIN.1 | exact D3.out.bR) t2 (by kernel_rfl)) rfl ?_
  first
    | exact ⟨_, _, rfl, FIN.2.1, sepNil, FIN.2.2⟩
    | exact ⟨_, _, rfl, famNil _ _, sepNil, D3.out.bel⟩

theorem one_famP {w3 : World} {B : Nat} {v : Value} {x : List Int} (h : w3.ownsRow B 2 1 v x.length (x.map (Value.int .i64))) (hB : B ≤ w3.heap.size) : FamL (w3.alloc (.cells #[v] 35)) B (.slice (some ⟨w3.heap.size, 0, none⟩) 1 1) (fun _ => v) [x] := by
  refine ⟨⟨rfl, .inr ⟨w3.heap.size, 1, #[v], rfl, hB, heap_alloc_new w3 _, Nat.le_refl _, by unfold maxLen; omega, rfl, by simp [List.range_succ]⟩⟩, fun i hi => ?_⟩
  obtain rfl : i = 0 := by simp at hi; exact hi
  exact h.alloc _

/-- The state of the program when it begins to multiply. -/
theorem pw_start {w W : World} {va : Value} (D : Duo w va W) : PwI w va (.slice (some ⟨W.heap.size + 1, 0, none⟩) 1 1) (fun _ => .slice (some ⟨W.heap.size, 0, none⟩) 0 0) [[]] ((W.alloc (.cells #[] 2)).alloc (.cells #[.slice (some ⟨W.heap.size, 0, none⟩) 0 0] 35)) := by
  have b1 : Below W.heap.size W (W.alloc (.cells #[] 2)) := (Below.refl _ W).alloc (Nat.le_refl _) _
  have b2 : Below W.heap.size W ((W.alloc (.cells #[] 2)).alloc (.cells #[.slice (some ⟨W.heap.size, 0, none⟩) 0 0] 35)) := b1.alloc b1.size _
  have h0 : (W.alloc (.cells #[] 2)).ownsRow W.heap.size 2 1 (.slice (some ⟨W.heap.size, 0, none⟩) 0 0) ([] : List Int).length (([] : List Int).map (Value.int .i64)) := World.ownsRow_made W #[] 0 (Nat.le_refl _) (Nat.zero_le _) (by simp)
  have D2 := D.up b2
  have F := one_famP (B := w.heap.size + 2) (x := []) (own_base h0 D.size) (by have := D.size; simp; omega)
  rw [World.size_alloc] at F
  exact ⟨D2.bel, D2.bA, D2.bR, F, fun i j hi hj hij => by simp at hi hj; omega⟩

set_option maxHeartbeats 2000000 in
theorem specPow_ok0 (a : Option Addr) (cap : Nat) (k : Nat) (X : Nat → List Int) (VA : Nat → Value) (Ba : Nat) (w : World) (A : IsS true a 0 cap w) (hk : k ≤ 40) (hF : Fam w Ba (.slice a 0 cap) 0 VA X) (hX : okMl X 0) :
    Calls Try.prog 22 #[.agg #[.slice a 0 cap], .int .i64 k] w (ResS (powT X 0 k) 0 w) := by
  have t2 := Try.underlying26
  obtain ⟨w1, hw1⟩ : ∃ w1, w1 = ((w.alloc (.cells #[.slice a 0 cap] 26)).alloc (.cells #[.slice none 0 0] 26)) := ⟨_, rfl⟩
  have D1 : Hid (Duo w (.slice a 0 cap) w1) := Lib.hid (by rw [hw1]; exact Duo.start _ _)
  have I1 := Lib.hid (fun wx => l01In_yes (k : Int) 0 40 wx (by omega) (by omega))
  have HA := Lib.hid hF
  have HX := Lib.hid hX
  have HK : Hid (0 < 0 → (k : Int) * dgL (X 0) ≤ 40) := Lib.hid (fun h => absurd h (Nat.lt_irrefl _))
  have hz0 : decide ((0 : Int) < 0) = false := rfl
  clear hF hX
  go_enter Try.func22, Try.ntmps22
  go_wp2_with fail
  rw [← hw1]
  clear hw1
  have d0 := D1.out.bA.c
  go_wp2_with fail
  refine (A.out w1 D1.out.bel).mono ?_
  rintro e w2 ⟨rfl, b2⟩
  have D2 := Lib.hid (D1.out.up b2)
  clear b2 D1 d0
  go_wp2_with fail
  refine (I1.out _).mono ?_
  rintro e w3 ⟨rfl, rfl⟩
  have D9 := D2
  clear D2
  have P0 := Lib.hid (pw_start D9.out)
  have d0 := D9.out.bA.c
  go_wp2_with fail
  clear d0
  go_loopw [1, 6] (fun kv S wr => ∃ (j : Nat) (VS : Nat → Value), j ≤ k ∧ kv = .int .i64 ((k : Int) - j) ∧ Hid (PwI w (.slice a 0 cap) S VS (powT X 0 j) wr)) (fun kv _ _ => (intOf kv).toNat)
  case atStart => exact ⟨0, _, Nat.zero_le _, by simp, P0⟩
  case round =>
    clear P0
    obtain ⟨j, VS, hj, rfl, hI⟩ := hrel
    obtain ⟨sa, sc, rfl, _, _⟩ := hI.out.fam.head
    by_cases hlt : j < k
    · have hlt' : (0 : Int) < (k : Int) - (j : Int) := by omega
      have PK := pow_all HX.out HK.out j hj
      have FC := pow_fac HX.out PK (fun hm => pow_le (okMl_deg HX.out hm).1 hlt (HK.out hm))
      have ST := Lib.hid (specTimes FC _ _ VS VA _ _ wr hI.out.fam (HA.out.below hI.out.bel))
      have c1 := hI.out.bA.c
      have ENX : Hid (powT X 0 (j + 1) = prodT (rowsOf (powT X 0 j)) X (powT X 0 j).length 0) := Lib.hid rfl
      clear PK FC
      go_wp2_with fail
      refine ST.out.mono ?_
      rintro e w5 ⟨V5, VS5, rfl, hF5, hS5, b5⟩
      have hsz : w.heap.size + 2 ≤ wr.heap.size := by have := hI.out.bR.lt; omega
      have P5 : Hid (PwI w (.slice a 0 cap) V5 VS5 (powT X 0 (j + 1)) w5) := Lib.hid ⟨hI.out.bel.step1 b5, hI.out.bA.up b5, hI.out.bR.up b5, by rw [ENX.out]; exact Fam.base hF5 hsz, by rw [ENX.out]; exact hS5⟩
      clear hF5 hS5 b5 hI c1 ST
      have hwj : wrap64 ((k : Int) - (j : Int) - 1) = (k : Int) - ((j + 1 : Nat) : Int) := by unfold wrap64; omega
      go_wp2_with fail
      go_roundw
      case rel => exact ⟨j + 1, VS5, by omega, by first | rfl | (congr 1; omega), P5⟩
      case measure => simp [intOf]; omega
    · obtain rfl : j = k := by omega
      have hlt' : ¬ (0 : Int) < (j : Int) - (j : Int) := by omega
      have dR := hI.out.bR.c
      have fR := hI.out.bR.fr 0
      have hI2 := Lib.hid hI.out
      clear hI
      go_wp2_with fail
      have FIN := fin2 (w := w) hI2.out.fam hI2.out.bel (by omega) hI2.out.bR
      refine bodyPost_ret (results_box1_tmp rfl _ _ (w.heap.size + 1) _ _ rfl FIN.1 t2 (by kernel_rfl)) rfl ?_
      exact ⟨_, _, rfl, FIN.2.1, hI2.out.sep, FIN.2.2⟩

set_option maxHeartbeats 2000000 in
theorem specPow_ok1 (b o m cap : Nat) (v : Value) (k : Nat) (X : Nat → List Int) (VA : Nat → Value) (Ba : Nat) (w : World) (A : IsS true (some ⟨b, o, none⟩) m cap w) (hm : 0 < m) (hk : k ≤ 40) (hF : Fam w Ba (.slice (some ⟨b, o, none⟩) m cap) m VA X) (hX : okMl X m) (hc : w.cell? ⟨b, o, none⟩ = some v) (hd : DegE w v (dgL (X 0))) (hle : (k : Int) * dgL (X 0) ≤ 40) :
    Calls Try.prog 22 #[.agg #[.slice (some ⟨b, o, none⟩) m cap], .int .i64 k] w (ResS (powT X m k) 0 w) := by
  have t2 := Try.underlying26
  obtain ⟨w1, hw1⟩ : ∃ w1, w1 = ((w.alloc (.cells #[.slice (some ⟨b, o, none⟩) m cap] 26)).alloc (.cells #[.slice none 0 0] 26)) := ⟨_, rfl⟩
  have D1 : Hid (Duo w (.slice (some ⟨b, o, none⟩) m cap) w1) := Lib.hid (by rw [hw1]; exact Duo.start _ _)
  have I1 := Lib.hid (fun wx => l01In_yes (k : Int) 0 40 wx (by omega) (by omega))
  have HA := Lib.hid hF
  have HX := Lib.hid hX
  have HK : Hid (0 < m → (k : Int) * dgL (X 0) ≤ 40) := Lib.hid (fun _ => hle)
  have hmd : decide (0 < m) = true := decide_eq_true hm
  have hm' : (0 : Int) < (m : Int) := by omega
  have HC := Lib.hid hc
  have HD := Lib.hid hd
  have hx := okMl_deg hX hm
  have hp0 : 0 ≤ (k : Int) * dgL (X 0) := Int.mul_nonneg (by omega) hx.1
  obtain ⟨x, hxx⟩ : ∃ x, dgL (X 0) = x := ⟨_, rfl⟩
  rw [hxx] at hle hp0 HD
  obtain ⟨P, hP⟩ : ∃ P, (k : Int) * x = P := ⟨_, rfl⟩
  rw [hP] at hle hp0
  have hw : wrap64 ((k : Int) * x) = P := by rw [hP]; unfold wrap64; omega
  have HW := Lib.hid hw
  clear hc hd hm hw hP hF hX hx hxx
  go_enter Try.func22, Try.ntmps22
  go_wp2_with fail
  rw [← hw1]
  clear hw1
  have d0 := D1.out.bA.c
  go_wp2_with fail
  refine (A.out w1 D1.out.bel).mono ?_
  rintro e w2 ⟨rfl, b2⟩
  have D2 := Lib.hid (D1.out.up b2)
  clear b2 D1 d0
  go_wp2_with fail
  refine (I1.out _).mono ?_
  rintro e w3 ⟨rfl, rfl⟩
  have d0 := D2.out.bA.c
  have c2 : w2.cell? ⟨b, o, none⟩ = some v := (D2.out.bel.cell (p := ⟨b, o, none⟩) (World.block_lt_of_cell? w _ HC.out)).trans HC.out
  have E2 := Lib.hid (HD.out.below D2.out.bel)
  go_wp2_with fail
  refine (l01Degree_is E2 0).mono ?_
  rintro e w3' ⟨rfl, qq, hw3⟩
  obtain ⟨w3, rfl⟩ : ∃ w3, w3 = w3' := ⟨_, rfl⟩
  have D9 : Hid (Duo w (.slice (some ⟨b, o, none⟩) m cap) w3) := Lib.hid (by rw [hw3]; exact D2.out.up (below_drewN (below_drewN (Below.refl _ _) 0) qq))
  have hw := HW.out
  clear hw3 d0 c2 D2
  have P0 := Lib.hid (pw_start D9.out)
  have d0 := D9.out.bA.c
  go_wp2_with fail
  clear d0 hw
  go_loopw [1, 6] (fun kv S wr => ∃ (j : Nat) (VS : Nat → Value), j ≤ k ∧ kv = .int .i64 ((k : Int) - j) ∧ Hid (PwI w (.slice (some ⟨b, o, none⟩) m cap) S VS (powT X m j) wr)) (fun kv _ _ => (intOf kv).toNat)
  case atStart => exact ⟨0, _, Nat.zero_le _, by simp, P0⟩
  case round =>
    clear P0
    obtain ⟨j, VS, hj, rfl, hI⟩ := hrel
    obtain ⟨sa, sc, rfl, _, _⟩ := hI.out.fam.head
    by_cases hlt : j < k
    · have hlt' : (0 : Int) < (k : Int) - (j : Int) := by omega
      have PK := pow_all HX.out HK.out j hj
      have FC := pow_fac HX.out PK (fun hm => pow_le (okMl_deg HX.out hm).1 hlt (HK.out hm))
      have ST := Lib.hid (specTimes FC _ _ VS VA _ _ wr hI.out.fam (HA.out.below hI.out.bel))
      have c1 := hI.out.bA.c
      have ENX : Hid (powT X m (j + 1) = prodT (rowsOf (powT X m j)) X (powT X m j).length m) := Lib.hid rfl
      clear PK FC
      go_wp2_with fail
      refine ST.out.mono ?_
      rintro e w5 ⟨V5, VS5, rfl, hF5, hS5, b5⟩
      have hsz : w.heap.size + 2 ≤ wr.heap.size := by have := hI.out.bR.lt; omega
      have P5 : Hid (PwI w (.slice (some ⟨b, o, none⟩) m cap) V5 VS5 (powT X m (j + 1)) w5) := Lib.hid ⟨hI.out.bel.step1 b5, hI.out.bA.up b5, hI.out.bR.up b5, by rw [ENX.out]; exact Fam.base hF5 hsz, by rw [ENX.out]; exact hS5⟩
      clear hF5 hS5 b5 hI c1 ST
      have hwj : wrap64 ((k : Int) - (j : Int) - 1) = (k : Int) - ((j + 1 : Nat) : Int) := by unfold wrap64; omega
      go_wp2_with fail
      go_roundw
      case rel => exact ⟨j + 1, VS5, by omega, by first | rfl | (congr 1; omega), P5⟩
      case measure => simp [intOf]; omega
    · obtain rfl : j = k := by omega
      have hlt' : ¬ (0 : Int) < (j : Int) - (j : Int) := by omega
      have dR := hI.out.bR.c
      have fR := hI.out.bR.fr 0
      have hI2 := Lib.hid hI.out
      clear hI
      go_wp2_with fail
      have FIN := fin2 (w := w) hI2.out.fam hI2.out.bel (by omega) hI2.out.bR
      refine bodyPost_ret (results_box1_tmp rfl _ _ (w.heap.size + 1) _ _ rfl FIN.1 t2 (by kernel_rfl)) rfl ?_
      exact ⟨_, _, rfl, FIN.2.1, hI2.out.sep, FIN.2.2⟩

theorem implPow_limit (a : Option Addr) (m cap : Nat) (x : Int) (k : Nat) (w : World) (A : IsI true a m cap w) (D : DegI x a m cap w) (hk : k ≤ 40) (hbig : 40 < (k : Int) * x) (hp0 : (k : Int) * x ≤ 1600) :
    Calls Try.prog 23 #[.agg #[.slice a m cap], .int .i64 (k : Int)] w (ResS [] 3 w) := by
  have t2 := Try.underlying26
  obtain ⟨w1, hw1⟩ : ∃ w1, w1 = ((w.alloc (.cells #[.slice a m cap] 26)).alloc (.cells #[.slice none 0 0] 26)) := ⟨_, rfl⟩
  have D1 : Hid (Duo w (.slice a m cap) w1) := Lib.hid (by rw [hw1]; exact Duo.start _ _)
  have h1 : ¬ (k : Int) < 0 := by omega
  have h2 : decide ((40 : Int) < (k : Int)) = false := decide_eq_false (by omega)
  have h2' : ¬ (40 : Int) < (k : Int) := by omega
  obtain ⟨P, hP⟩ : ∃ P, (k : Int) * x = P := ⟨_, rfl⟩
  rw [hP] at hbig hp0
  have hw : wrap64 ((k : Int) * x) = P := by rw [hP]; unfold wrap64; omega
  have HW := Lib.hid hw
  have HK := Lib.hid hk
  clear hw hP hk
  go_enter Try.func23, Try.ntmps23
  go_wp2_with fail
  rw [← hw1]
  clear hw1
  have d0 := D1.out.bA.c
  go_wp2_with fail
  refine (A.out w1 D1.out.bel).mono ?_
  rintro e w2 ⟨rfl, b2⟩
  have D2 := Lib.hid (D1.out.up b2)
  clear b2 D1 d0
  have d0 := D2.out.bA.c
  go_wp2_with fail
  refine (D.out w2 D2.out.bel).mono ?_
  rintro e w3 ⟨rfl, b3⟩
  have D3 := Lib.hid (D2.out.up b3)
  have hw := HW.out
  clear b3 D2 d0
  have dR := D3.out.bR.c
  have fR := D3.out.bR.fr 0
  have hsz := D3.out.size
  go_wp2_with fail
  have FIN := fin2 (w := w) (famNil _ (w.heap.size + 2)) D3.out.bel (by omega) D3.out.bR
  refine bodyPost_ret (results_box1_tmp rfl _ _ (w.heap.size + 1) _ _ rfl (by first | exact FIN.1 | exact D3.out.bR) t2 (by kernel_rfl)) rfl ?_
  first
    | exact ⟨_, _, rfl, FIN.2.1, sepNil, FIN.2.2⟩
    | exact ⟨_, _, rfl, famNil _ _, sepNil, D3.out.bel⟩

/-- The struct, the result's variable, the box of the power, and the power. -/
structure PwJ (w : World) (p : Nat) (va S : Value) (VS : Nat → Value) (L : List (List Int)) (W : World) : Prop where
  duo : Duo w va W
  hp : w.heap.size + 2 ≤ p
  bP : Box1 W p 26 S
  fam : FamL W (w.heap.size + 2) S VS L
  sep : Sep L.length VS
/-- The state of the program when it begins to multiply. -/
theorem pj_start {w W : World} {va : Value} (D : Duo w va W) : PwJ w (W.heap.size + 1 + 1) va (.slice (some ⟨W.heap.size + 1, 0, none⟩) 1 1) (fun _ => .slice (some ⟨W.heap.size, 0, none⟩) 0 0) [[]] (((W.alloc (.cells #[] 2)).alloc (.cells #[.slice (some ⟨W.heap.size, 0, none⟩) 0 0] 35)).alloc (.cells #[.slice (some ⟨W.heap.size + 1, 0, none⟩) 1 1] 26)) := by
  have P := pw_start D
  have bx : Below ((W.alloc (.cells #[] 2)).alloc (.cells #[.slice (some ⟨W.heap.size, 0, none⟩) 0 0] 35)).heap.size ((W.alloc (.cells #[] 2)).alloc (.cells #[.slice (some ⟨W.heap.size, 0, none⟩) 0 0] 35)) (((W.alloc (.cells #[] 2)).alloc (.cells #[.slice (some ⟨W.heap.size, 0, none⟩) 0 0] 35)).alloc (.cells #[.slice (some ⟨W.heap.size + 1, 0, none⟩) 1 1] 26)) := (Below.refl _ _).alloc (Nat.le_refl _) _
  have B := Box1.new ((W.alloc (.cells #[] 2)).alloc (.cells #[.slice (some ⟨W.heap.size, 0, none⟩) 0 0] 35)) 26 (.slice (some ⟨W.heap.size + 1, 0, none⟩) 1 1)
  rw [World.size_alloc, World.size_alloc] at B
  exact ⟨⟨P.bel.step1 bx, P.bA.up bx, P.bR.up bx⟩, by have := D.size; omega, B, Fam.below P.fam bx, P.sep⟩
theorem PwJ.next {w w5 wr : World} {p : Nat} {va S V : Value} {VS U : Nat → Value} {L M : List (List Int)} (h : PwJ w p va S VS L wr) (b : Below wr.heap.size wr w5) (f : FamL w5 wr.heap.size V U M) (s : Sep M.length U) : PwJ w p va V U M (w5.setCell ⟨p, 0, none⟩ V) := by
  have hlt := h.bP.lt
  have hp := h.hp
  have D5 := h.duo.up b
  refine ⟨⟨D5.bel.setCell (p := ⟨p, 0, none⟩) (by simp; omega) V, (heap_setCell_other _ _ _ _ (by simp; omega)).trans D5.bA, (heap_setCell_other _ _ _ _ (by simp; omega)).trans D5.bR⟩, hp, (h.bP.up b).set V, ?_, s⟩
  exact (Fam.same f fun q hq hlt => heap_setCell_other _ _ _ _ (by simp; omega)).base (by omega)
set_option maxHeartbeats 2000000 in
theorem implPow_ok (a : Option Addr) (m cap : Nat) (x : Int) (k : Nat) (X : Nat → List Int) (w : World) (A : IsI true a m cap w) (D : DegI x a m cap w) (hk : k ≤ 40) (h0 : 0 ≤ (k : Int) * x) (h4 : (k : Int) * x ≤ 40)
    (T : Hid (∀ j, j < k → ∀ wx S VS, Below w.heap.size w wx → FamL wx (w.heap.size + 2) S VS (powT X m j) → Calls Try.prog 50 #[.agg #[S], .agg #[.slice a m cap]] wx (ResT (powT X m (j + 1)) wx))) :
    Calls Try.prog 23 #[.agg #[.slice a m cap], .int .i64 (k : Int)] w (ResS (powT X m k) 0 w) := by
  have t2 := Try.underlying26
  obtain ⟨w1, hw1⟩ : ∃ w1, w1 = ((w.alloc (.cells #[.slice a m cap] 26)).alloc (.cells #[.slice none 0 0] 26)) := ⟨_, rfl⟩
  have D1 : Hid (Duo w (.slice a m cap) w1) := Lib.hid (by rw [hw1]; exact Duo.start _ _)
  have h1 : ¬ (k : Int) < 0 := by omega
  have h2 : decide ((40 : Int) < (k : Int)) = false := decide_eq_false (by omega)
  have h2' : ¬ (40 : Int) < (k : Int) := by omega
  obtain ⟨P, hP⟩ : ∃ P, (k : Int) * x = P := ⟨_, rfl⟩
  rw [hP] at h0 h4
  have hw : wrap64 ((k : Int) * x) = P := by rw [hP]; unfold wrap64; omega
  have HW := Lib.hid hw
  have HK := Lib.hid hk
  clear hw hP hk
  go_enter Try.func23, Try.ntmps23
  go_wp2_with fail
  rw [← hw1]
  clear hw1
  have d0 := D1.out.bA.c
  go_wp2_with fail
  refine (A.out w1 D1.out.bel).mono ?_
  rintro e w2 ⟨rfl, b2⟩
  have D2 := Lib.hid (D1.out.up b2)
  clear b2 D1 d0
  have d0 := D2.out.bA.c
  go_wp2_with fail
  refine (D.out w2 D2.out.bel).mono ?_
  rintro e w3 ⟨rfl, b3⟩
  have D3 := Lib.hid (D2.out.up b3)
  have hw := HW.out
  clear b3 D2 d0
  have hP40 : ¬ 40 < P := by omega
  have P0 := Lib.hid (pj_start D3.out)
  clear h0 h4
  go_wp2_with fail
  clear hP40 hw
  go_loopw [28] (fun kv wr => ∃ (j : Nat) (S : Value) (VS : Nat → Value), j ≤ k ∧ kv = .int .i64 (j : Int) ∧ Hid (PwJ w (w3.heap.size + 1 + 1) (.slice a m cap) S VS (powT X m j) wr)) (fun kv _ => k - (intOf kv).toNat)
  case atStart => exact ⟨0, _, _, Nat.zero_le _, rfl, P0⟩
  case round =>
    clear P0 D3
    obtain ⟨j, S, VS, hj, rfl, hI⟩ := hrel
    obtain ⟨sa, sc, rfl, _, _⟩ := hI.out.fam.head
    by_cases hlt : j < k
    · have hlt' : (j : Int) < (k : Int) := by omega
      have ST := Lib.hid (T.out j hlt wr _ VS hI.out.duo.bel hI.out.fam)
      have d0 := hI.out.bP.c
      have d1 := hI.out.duo.bA.c
      go_wp2_with fail
      refine ST.out.mono ?_
      rintro e w5 ⟨V5, VS5, rfl, f5, s5, b5⟩
      obtain ⟨av, cv, rfl, _, _⟩ := f5.head
      have P5 := Lib.hid (hI.out.next b5 f5 s5)
      have d5 := (hI.out.bP.up b5).c
      have e5 := (hI.out.bP.up b5).fr 0
      clear f5 s5 b5 hI ST d0 d1
      have hwj : wrap64 ((j : Int) + 1) = ((j + 1 : Nat) : Int) := by have := HK.out; unfold wrap64; omega
      go_wp2_with fail
      go_roundw
      case rel => exact ⟨j + 1, _, VS5, by omega, by first | rfl | (congr 1; omega), P5⟩
      case measure => simp [intOf]; omega
    · obtain rfl : j = k := by omega
      have hlt' : ¬ (j : Int) < (j : Int) := by omega
      have d0 := hI.out.bP.c
      have dR := hI.out.duo.bR.c
      have fR := hI.out.duo.bR.fr 0
      have hI2 := Lib.hid hI.out
      clear hI
      go_wp2_with fail
      have FIN := fin2 (w := w) hI2.out.fam hI2.out.duo.bel (by omega) hI2.out.duo.bR
      refine bodyPost_ret (results_box1_tmp rfl _ _ (w.heap.size + 1) _ _ rfl FIN.1 t2 (by kernel_rfl)) rfl ?_
      exact ⟨_, _, rfl, FIN.2.1, hI2.out.sep, FIN.2.2⟩

theorem PowerOfMilnor_both (k : Int) (m : Nat) (X : Nat → List Int) :
    ∃ (L : List (List Int)) (cd : Int), L.length ≤ 15000 ∧ (∀ i, (rowsOf L i).length ≤ 20) ∧
      (∀ va VA Ba w, Fam w Ba va m VA X → Calls Try.prog 22 #[.agg #[va], .int .i64 k] w (ResS L cd w)) ∧
      (∀ va w, RdSS w va m X → Calls Try.prog 23 #[.agg #[va], .int .i64 k] w (ResS L cd w)) := by
  by_cases hX : okMl X m
  · have IS : ∀ a cap w, RdSS w (.slice a m cap) m X → IsS true a m cap w := fun a cap w h => Lib.hid fun wx hx => (isM_yes X m hX).1 _ wx (h.below hx)
    have II : ∀ a cap w, RdSS w (.slice a m cap) m X → IsI true a m cap w := fun a cap w h => Lib.hid fun wx hx => (isM_yes X m hX).2 _ wx (h.below hx)
    by_cases hk : k < 0 ∨ 40 < k
    · refine ⟨[], 2, Nat.zero_le _, fun i => Nat.zero_le _, fun va VA Ba w h => ?_, fun va w h => ?_⟩
      · obtain ⟨a, cap, rfl⟩ := h.rdss.head
        exact specPow_range a m cap k w (IS a cap w h.rdss) hk
      · obtain ⟨a, cap, rfl⟩ := h.head
        exact implPow_range a m cap k w (II a cap w h) hk
    · obtain ⟨j, rfl⟩ : ∃ j : Nat, k = (j : Int) := ⟨k.toNat, by omega⟩
      have hj : j ≤ 40 := by omega
      have go : (0 < m → (j : Int) * dgL (X 0) ≤ 40) → ∀ a cap w, RdSS w (.slice a m cap) m X → Hid (∀ i, i < j → ∀ wx S VS, Below w.heap.size w wx → FamL wx (w.heap.size + 2) S VS (powT X m i) → Calls Try.prog 50 #[.agg #[S], .agg #[.slice a m cap]] wx (ResT (powT X m (i + 1)) wx)) := fun hle a cap w h => Lib.hid fun i hi wx S VS hb hf =>
        implTimes (pow_fac hX (pow_all hX hle i (by omega)) fun hm => pow_le (okMl_deg hX hm).1 hi (hle hm)) _ _ wx (Fam.rdss hf) (h.below hb)
      have fin : (0 < m → (j : Int) * dgL (X 0) ≤ 40) → (powT X m j).length ≤ 15000 ∧ ∀ i, (rowsOf (powT X m j) i).length ≤ 20 := fun hle => by
        have := pow_all hX hle j (Nat.le_refl _)
        refine ⟨by have := okMl_few this.el; omega, rows_short (pow_ok this)⟩
      by_cases hm : 0 < m
      · have hx := okMl_deg hX hm
        have hp : (j : Int) * dgL (X 0) ≤ 40 * 40 := Int.mul_le_mul (by omega) hx.2 hx.1 (by omega)
        have hp0 : 0 ≤ (j : Int) * dgL (X 0) := Int.mul_nonneg (by omega) hx.1
        have HD : ∀ va w, RdSS w va m X → ∃ b o v cap, va = .slice (some ⟨b, o, none⟩) m cap ∧ w.cell? ⟨b, o, none⟩ = some v ∧ DegE w v (dgL (X 0)) := fun va w h => headD hX hm h
        have ID : ∀ b o v cap w, w.cell? ⟨b, o, none⟩ = some v → DegE w v (dgL (X 0)) → DegI (dgL (X 0)) (some ⟨b, o, none⟩) m cap w := fun b o v cap w hc hd => Lib.hid fun wx hb =>
          degreeM_any _ m cap _ wx (fun h => by omega) hx.2 (fun _ => ⟨b, o, v, rfl, (hb.cell (p := ⟨b, o, none⟩) (World.block_lt_of_cell? w _ hc)).trans hc, hd.below hb⟩)
        by_cases hbig : 40 < (j : Int) * dgL (X 0)
        · refine ⟨[], 3, Nat.zero_le _, fun i => Nat.zero_le _, fun va VA Ba w h => ?_, fun va w h => ?_⟩
          · obtain ⟨b, o, v, cap, rfl, hc, hd⟩ := HD va w h.rdss
            exact specPow_limit b o m cap v _ j w (IS _ _ w h.rdss) hm hj hc hd hx hbig
          · obtain ⟨b, o, v, cap, rfl, hc, hd⟩ := HD va w h
            exact implPow_limit _ m cap _ j w (II _ _ w h) (ID b o v cap w hc hd) hj hbig (by omega)
        · have hle : 0 < m → (j : Int) * dgL (X 0) ≤ 40 := fun _ => by omega
          refine ⟨powT X m j, 0, (fin hle).1, (fin hle).2, fun va VA Ba w h => ?_, fun va w h => ?_⟩
          · obtain ⟨b, o, v, cap, rfl, hc, hd⟩ := HD va w h.rdss
            exact specPow_ok1 b o m cap v j X VA Ba w (IS _ _ w h.rdss) hm hj h hX hc hd (by omega)
          · obtain ⟨b, o, v, cap, rfl, hc, hd⟩ := HD va w h
            exact implPow_ok _ m cap _ j X w (II _ _ w h) (ID b o v cap w hc hd) hj hp0 (by omega) (go hle _ _ w h)
      · obtain rfl : m = 0 := by omega
        have hle : 0 < 0 → (j : Int) * dgL (X 0) ≤ 40 := fun h => absurd h (Nat.lt_irrefl _)
        refine ⟨powT X 0 j, 0, (fin hle).1, (fin hle).2, fun va VA Ba w h => ?_, fun va w h => ?_⟩
        · obtain ⟨a, cap, rfl⟩ := h.rdss.head
          exact specPow_ok0 a cap j X VA Ba w (IS _ _ w h.rdss) hj h hX
        · obtain ⟨a, cap, rfl⟩ := h.head
          exact implPow_ok a 0 cap 0 j X w (II _ _ w h) (Lib.hid fun wx hb => degreeM_any a 0 cap 0 wx (fun _ => rfl) (by omega) (fun h => absurd h (Nat.lt_irrefl _))) hj (by simp) (by simp) (go hle _ _ w h)
  · refine ⟨[], 1, Nat.zero_le _, fun i => Nat.zero_le _, fun va VA Ba w h => ?_, fun va w h => ?_⟩
    · obtain ⟨a, cap, rfl⟩ := h.rdss.head
      exact specPow_bad a m cap k w (Lib.hid fun wx hx => (isM_no X m hX).1 _ wx (h.rdss.below hx))
    · obtain ⟨a, cap, rfl⟩ := h.head
      exact implPow_bad a m cap k w (Lib.hid fun wx hx => (isM_no X m hX).2 _ wx (h.below hx))
end Go.Proofs.Ytfgkpkdoemnnmaa.Ml
end
