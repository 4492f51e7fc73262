/-
  Joined: RAdem, LFnExactAdemRelation, PFnExactAdemRelation.
-/
import Derived.Test.YtgalfhdeldjmpaaZAdemRelation34
import Derived.Test.YtgalfhdeldjmpaaZAdemRelation29
import Derived.Test.YtgalfhdeldjmpaaZAdemRelation19
import Derived.Test.YtgalfhdeldjmpaaZAdemRelation32
import Derived.Test.YtgalfhdeldjmpaaRows
import Derived.WalkKit
import Derived.ProofKit
import Derived.OpenShut
import Derived.ShutString
import Derived.ChangeOld
import Derived.Below
section
namespace Go.Proofs.Ytgalfhdeldjmpaa
open Go.RowKit Go.Maps
set_option linter.unusedVariables false
set_option maxRecDepth 100000

/-- What occurs an odd number of times, in order. -/
def normL : List (List Int) → List (List Int)
  | [] => []
  | x :: r => mrg [x] (normL r)
theorem normL_spec : ∀ T : List (List Int), Asc (normL T) ∧ ∀ z, z ∈ normL T ↔ par T z
  | [] => ⟨List.Pairwise.nil, fun z => by simp [normL, par]⟩
  | x :: r => by
    obtain ⟨h1, h2⟩ := normL_spec r
    obtain ⟨h3, h4⟩ := mrg_spec [x] (normL r) (List.pairwise_singleton _ _) h1
    refine ⟨h3, fun z => ?_⟩
    show z ∈ mrg [x] (normL r) ↔ (x = z ∧ ¬ par r z) ∨ (x ≠ z ∧ par r z)
    rw [h4, h2, List.mem_singleton, eq_comm]
theorem normL_eq {T zs : List (List Int)} (h : Asc zs) (m : ∀ z, z ∈ zs ↔ par T z) : zs = normL T :=
  asc_ext _ _ h (normL_spec T).1 fun z => (m z).trans ((normL_spec T).2 z).symm
/-- Words of one degree are few, and short. -/
theorem normL_few {T : List (List Int)} {d : Int} (h0 : 0 ≤ d ∧ d ≤ 40) (hT : ∀ y ∈ T, isAdm y ∧ y.sum = d) : (normL T).length ≤ 100 ∧ ∀ i, (rowsOf (normL T) i).length ≤ 20 := by
  obtain ⟨h1, h2⟩ := normL_spec T
  obtain ⟨h3, h4⟩ := few_of h1.nodup h2 h0.1 h0.2 hT
  refine ⟨h3, fun i => ?_⟩
  unfold rowsOf
  by_cases hi : i < (normL T).length
  · rw [List.getElem?_eq_getElem hi]
    have := h4 _ (List.getElem_mem hi)
    have := isAdm_len this.1 (by rw [this.2]; exact h0.2)
    simp only [Option.getD_some]
    omega
  · rw [List.getElem?_eq_none (by omega)]
    exact Nat.zero_le _

theorem ab_LW {a b : Int} (ha : 1 ≤ a) (hb : 1 ≤ b) (hs : a + b ≤ 40) : LW [a, b] := by
  refine ⟨fun x hx => ?_, by simp; omega⟩
  simp only [List.mem_cons, List.not_mem_nil, or_false] at hx
  rcases hx with rfl | rfl <;> assumption
/-- A literal list of two. -/
theorem rd_two (w : World) (a b : Int) : RdI (w.alloc (.cells #[.int .i64 a, .int .i64 b] 2)) (.slice (some ⟨w.heap.size, 0, none⟩) 2 2) [a, b].length (fun j => [a, b][j]?.getD 0) := by
  refine ⟨_, 2, rfl, by unfold maxLen; simp, .inr ⟨w.heap.size, 0, rfl, fun i hi => ?_⟩⟩
  have hh := heap_alloc_new w (.cells #[.int .i64 a, .int .i64 b] 2)
  rw [World.cell?, hh]
  have hi2 : i < 2 := hi
  rcases i with _ | _ | i
  · rfl
  · rfl
  · omega
/-- The result's box is written, the result is there. -/
theorem resS_done {w w1 : World} {U : Value} {US : Nat → Value} {L : List (List Int)} {x : Value} {B : Nat} (f : FamL w1 B U US L) (s : Sep L.length US) (hB : w.heap.size ≤ B) (b : Below w.heap.size w w1) (hx : Box1 w1 w.heap.size 24 x) :
    FamL (w1.setCell ⟨w.heap.size, 0, none⟩ U) w.heap.size U US L ∧ Below w.heap.size w (w1.setCell ⟨w.heap.size, 0, none⟩ U) ∧ Box1 (w1.setCell ⟨w.heap.size, 0, none⟩ U) w.heap.size 24 U :=
  ⟨FamL.off_box (Fam.base f hB) (OneOff.set _ _ _) hx, b.setCell (p := ⟨w.heap.size, 0, none⟩) (Nat.le_refl _) U, hx.set U⟩

theorem specAdem_ok (a b : Int) (w : World) (ha : 1 ≤ a) (hb : 1 ≤ b) (hs : a + b ≤ 40) :
    Calls Try.prog 7 #[.int .i64 a, .int .i64 b] w (ResS (normL (formF [a, b])) 0 w) := by
  have t2 := Try.underlying24
  have ha2 : a ≤ 40 := by omega
  have hb2 : b ≤ 40 := by omega
  have hw : IntKind.i64.wrap (a + b) = a + b := by rw [IntKind.wrap_i64]; omega
  have hs2 : ¬ 40 < a + b := by omega
  have LF := l03Form_any _ [a, b] _ (rd_two (w.alloc (.cells #[.slice none 0 0] 24)) a b) (ab_LW ha hb hs)
  rw [World.size_alloc] at LF
  have BX : Hid (Box1 ((w.alloc (.cells #[.slice none 0 0] 24)).alloc (.cells #[.int .i64 a, .int .i64 b] 2)) w.heap.size 24 (.slice none 0 0)) := Lib.hid ((Box1.new _ _ _).alloc _)
  have B2 : Hid (Below w.heap.size w ((w.alloc (.cells #[.slice none 0 0] 24)).alloc (.cells #[.int .i64 a, .int .i64 b] 2))) := Lib.hid (((Below.refl _ w).alloc (Nat.le_refl _) _).alloc (by simp) _)
  have LF := Lib.hid LF
  clear hs
  go_enter Try.func7, Try.ntmps7
  go_wp2_with (go_at_call 20; refine (l01In_yes _ _ _ _ (by assumption) (by assumption)).mono ?_; rintro e w' ⟨rfl, rfl⟩)
  refine LF.out.mono ?_
  rintro e w1 ⟨U, US, zs, rfl, hL⟩
  obtain rfl := normL_eq hL.asc hL.mem
  obtain ⟨ua, uc, rfl, _, _⟩ := hL.fam.head
  have b2 := B2.out
  have bx1 := BX.out.up hL.bel
  have D := Lib.hid (resS_done hL.fam hL.sep b2.size (b2.trans (hL.bel.mono b2.size)) bx1)
  have HS := Lib.hid hL.sep
  have c1 := bx1.c
  have f1 := bx1.fr 0
  clear hL bx1 b2 BX B2 LF
  go_wp2_with fail
  refine bodyPost_ret (results_box1_tmp rfl _ _ w.heap.size _ _ rfl D.out.2.2 t2 (by kernel_rfl)) rfl ?_
  exact ⟨_, US, rfl, D.out.1, HS.out, D.out.2.1⟩

/-- The program's word of two letters. -/
theorem rdss_two (w : World) (a b : Int) : RdSS ((w.alloc (.cells #[.int .i64 a, .int .i64 b] 2)).alloc (.cells #[.slice (some ⟨w.heap.size, 0, none⟩) 2 2] 41)) (.slice (some ⟨w.heap.size + 1, 0, none⟩) 1 1) 1 (fun _ => [a, b]) := by
  refine ⟨⟨_, _, rfl⟩, by unfold maxLen; simp, fun _ => .slice (some ⟨w.heap.size, 0, none⟩) 2 2, .inr ⟨_, 0, ⟨1, rfl⟩, fun i hi => ?_⟩, fun i hi => (rd_two w a b).below ((Below.refl _ _).alloc (Nat.le_refl _) _)⟩
  obtain rfl : i = 0 := by omega
  have hh := heap_alloc_new (w.alloc (.cells #[.int .i64 a, .int .i64 b] 2)) (.cells #[.slice (some ⟨w.heap.size, 0, none⟩) 2 2] 41)
  rw [World.size_alloc] at hh
  rw [World.cell?, hh]
  rfl
theorem implAdem_ok (a b : Int) (w : World) (ha : 1 ≤ a) (hb : 1 ≤ b) (hs : a + b ≤ 40) :
    Calls Try.prog 8 #[.int .i64 a, .int .i64 b] w (ResS (normL (formF [a, b])) 0 w) := by
  have t2 := Try.underlying24
  have ha1 : ¬ a < 1 := by omega
  have hb1 : ¬ b < 1 := by omega
  have ha2 : ¬ 40 < a := by omega
  have hb2 : ¬ 40 < b := by omega
  have hw : IntKind.i64.wrap (a + b) = a + b := by rw [IntKind.wrap_i64]; omega
  have hs2 : ¬ 40 < a + b := by omega
  have BX : Hid (Box1 (w.alloc (.cells #[.slice none 0 0] 24)) w.heap.size 24 (.slice none 0 0)) := Lib.hid (Box1.new _ _ _)
  have B1 : Hid (Below w.heap.size w (w.alloc (.cells #[.slice none 0 0] 24))) := Lib.hid ((Below.refl _ w).alloc (Nat.le_refl _) _)
  have NR := Lib.hid (newReducer_any (w.alloc (.cells #[.slice none 0 0] 24)))
  have HLW := Lib.hid (ab_LW ha hb hs)
  have HAB := Lib.hid (show 0 ≤ a + b ∧ a + b ≤ 40 from ⟨by omega, hs⟩)
  clear hs
  go_enter Try.func8, Try.ntmps8
  go_wp2_with fail
  refine NR.out.mono ?_
  rintro e w1 ⟨R, K, gk, gp, rfl, i1, b1, hk, hp⟩
  have hz : w.heap.size ≤ w1.heap.size := by have := b1.size; simp at this; omega
  have k2 : Below w1.heap.size w1 ((w1.alloc (.cells #[.int .i64 a, .int .i64 b] 2)).alloc (.cells #[.slice (some ⟨w1.heap.size, 0, none⟩) 2 2] 41)) := ((Below.refl _ w1).alloc (Nat.le_refl _) _).alloc (by simp) _
  have RD := Lib.hid (reduced_any R K gk gp _ 1 (fun _ => [a, b]) _ (i1.below k2) (rdss_two w1 a b) (by omega) (fun i hi => HLW.out) (a + b) HAB.out (fun i hi => by simp))
  have BX1 := Lib.hid ((BX.out.up b1).up k2)
  have B2 := Lib.hid (((B1.out.trans (b1.mono (by simp)))).trans (k2.mono hz))
  have HK : Hid (w.heap.size + 1 ≤ gk ∧ w.heap.size + 1 ≤ gp) := Lib.hid ⟨by simpa using hk, by simpa using hp⟩
  clear i1 b1 k2 hz hk hp NR BX B1
  go_wp2_with fail
  refine RD.out.mono ?_
  rintro e w3 ⟨V, VS, zs, rfl, f3, s3, a3, m3, _, kp3⟩
  rw [show (rowsL (fun _ => [a, b]) 1).flatMap formF = formF [a, b] from List.append_nil _] at m3
  obtain rfl := normL_eq a3 m3
  obtain ⟨va, vc, rfl, _, _⟩ := f3.head
  have b2 := B2.out
  have hk := HK.out
  have bx3 : Box1 w3 w.heap.size 24 (.slice none 0 0) := (kp3.block _ BX1.out.lt (by omega) (by omega)).trans BX1.out
  have D := Lib.hid (resS_done f3 s3 b2.size (b2.trans (kp3.below (by omega) (by omega) b2.size)) bx3)
  have HS := Lib.hid s3
  have c1 := bx3.c
  have f1 := bx3.fr 0
  clear f3 s3 a3 m3 kp3 bx3 b2 hk RD BX1 B2 HK
  go_wp2_with fail
  refine bodyPost_ret (results_box1_tmp rfl _ _ w.heap.size _ _ rfl D.out.2.2 t2 (by kernel_rfl)) rfl ?_
  exact ⟨_, VS, rfl, D.out.1, HS.out, D.out.2.1⟩

theorem resS_nil (w : World) (cd : Int) : ResS [] cd w (.returned (.tuple #[.agg #[.slice none 0 0], .int .i64 cd])) (w.alloc (.cells #[.slice none 0 0] 24)) :=
  ⟨_, fun _ => undef, rfl, ⟨World.ownsRow_nil _ _ _ _, fun i hi => absurd hi (Nat.not_lt_zero _)⟩, fun i j hi => absurd hi (Nat.not_lt_zero _), (Below.refl _ w).alloc (Nat.le_refl _) _⟩
theorem specAdem_r1 (a b : Int) (w : World) (h : a < 1 ∨ 40 < a) : Calls Try.prog 7 #[.int .i64 a, .int .i64 b] w (ResS [] 2 w) := by
  have t2 := Try.underlying24
  have BX : Hid (Box1 (w.alloc (.cells #[.slice none 0 0] 24)) w.heap.size 24 (.slice none 0 0)) := Lib.hid (Box1.new _ _ _)
  go_enter Try.func7, Try.ntmps7
  go_wp2_with (go_at_call 20; refine (l01In_no _ _ _ _ h).mono ?_; rintro e w' ⟨rfl, rfl⟩)
  refine bodyPost_ret (results_box1_tmp rfl _ _ w.heap.size _ _ rfl BX.out t2 (by kernel_rfl)) rfl ?_
  exact resS_nil w _
theorem specAdem_r2 (a b : Int) (w : World) (h0 : 1 ≤ a) (h1 : a ≤ 40) (h : b < 1 ∨ 40 < b) : Calls Try.prog 7 #[.int .i64 a, .int .i64 b] w (ResS [] 2 w) := by
  have t2 := Try.underlying24
  have BX : Hid (Box1 (w.alloc (.cells #[.slice none 0 0] 24)) w.heap.size 24 (.slice none 0 0)) := Lib.hid (Box1.new _ _ _)
  go_enter Try.func7, Try.ntmps7
  go_wp2_with fail
  refine (l01In_yes a 1 40 _ h0 h1).mono ?_
  rintro e w' ⟨rfl, rfl⟩
  go_wp2_with fail
  refine (l01In_no b 1 40 _ h).mono ?_
  rintro e w' ⟨rfl, rfl⟩
  go_wp2_with fail
  refine bodyPost_ret (results_box1_tmp rfl _ _ w.heap.size _ _ rfl BX.out t2 (by kernel_rfl)) rfl ?_
  exact resS_nil w _
theorem specAdem_l (a b : Int) (w : World) (h0 : 1 ≤ a) (h1 : a ≤ 40) (h2 : 1 ≤ b) (h3 : b ≤ 40) (h : 40 < a + b) : Calls Try.prog 7 #[.int .i64 a, .int .i64 b] w (ResS [] 3 w) := by
  have t2 := Try.underlying24
  have BX : Hid (Box1 (w.alloc (.cells #[.slice none 0 0] 24)) w.heap.size 24 (.slice none 0 0)) := Lib.hid (Box1.new _ _ _)
  have hw : IntKind.i64.wrap (a + b) = a + b := by rw [IntKind.wrap_i64]; omega
  go_enter Try.func7, Try.ntmps7
  go_wp2_with (go_at_call 20; refine (l01In_yes _ _ _ _ (by assumption) (by assumption)).mono ?_; rintro e w' ⟨rfl, rfl⟩)
  refine bodyPost_ret (results_box1_tmp rfl _ _ w.heap.size _ _ rfl BX.out t2 (by kernel_rfl)) rfl ?_
  exact resS_nil w _
theorem implAdem_r (a b : Int) (w : World) (h : (a < 1 ∨ b < 1) ∨ 40 < a ∨ 40 < b) : Calls Try.prog 8 #[.int .i64 a, .int .i64 b] w (ResS [] 2 w) := by
  have t2 := Try.underlying24
  have BX : Hid (Box1 (w.alloc (.cells #[.slice none 0 0] 24)) w.heap.size 24 (.slice none 0 0)) := Lib.hid (Box1.new _ _ _)
  by_cases k1 : a < 1
  · clear h
    go_enter Try.func8, Try.ntmps8
    go_wp2_with fail
    refine bodyPost_ret (results_box1_tmp rfl _ _ w.heap.size _ _ rfl BX.out t2 (by kernel_rfl)) rfl ?_
    exact resS_nil w _
  · by_cases k2 : b < 1
    · clear h
      go_enter Try.func8, Try.ntmps8
      go_wp2_with fail
      refine bodyPost_ret (results_box1_tmp rfl _ _ w.heap.size _ _ rfl BX.out t2 (by kernel_rfl)) rfl ?_
      exact resS_nil w _
    · by_cases k3 : 40 < a
      · clear h
        go_enter Try.func8, Try.ntmps8
        go_wp2_with fail
        refine bodyPost_ret (results_box1_tmp rfl _ _ w.heap.size _ _ rfl BX.out t2 (by kernel_rfl)) rfl ?_
        exact resS_nil w _
      · have k4 : 40 < b := by omega
        clear h
        go_enter Try.func8, Try.ntmps8
        go_wp2_with fail
        refine bodyPost_ret (results_box1_tmp rfl _ _ w.heap.size _ _ rfl BX.out t2 (by kernel_rfl)) rfl ?_
        exact resS_nil w _
theorem implAdem_l (a b : Int) (w : World) (h0 : 1 ≤ a) (h1 : a ≤ 40) (h2 : 1 ≤ b) (h3 : b ≤ 40) (h : 40 < a + b) : Calls Try.prog 8 #[.int .i64 a, .int .i64 b] w (ResS [] 3 w) := by
  have t2 := Try.underlying24
  have BX : Hid (Box1 (w.alloc (.cells #[.slice none 0 0] 24)) w.heap.size 24 (.slice none 0 0)) := Lib.hid (Box1.new _ _ _)
  have hw : IntKind.i64.wrap (a + b) = a + b := by rw [IntKind.wrap_i64]; omega
  have k1 : ¬ a < 1 := by omega
  have k2 : ¬ b < 1 := by omega
  have k3 : ¬ 40 < a := by omega
  have k4 : ¬ 40 < b := by omega
  go_enter Try.func8, Try.ntmps8
  go_wp2_with fail
  refine bodyPost_ret (results_box1_tmp rfl _ _ w.heap.size _ _ rfl BX.out t2 (by kernel_rfl)) rfl ?_
  exact resS_nil w _
theorem AdemRelation_both (a b : Int) : ∃ (L : List (List Int)) (cd : Int), L.length ≤ 2000 ∧ (∀ i, (rowsOf L i).length ≤ 20) ∧
    (∀ w, Calls Try.prog 7 #[.int .i64 a, .int .i64 b] w (ResS L cd w)) ∧ (∀ w, Calls Try.prog 8 #[.int .i64 a, .int .i64 b] w (ResS L cd w)) := by
  have hnil : ∀ i, (rowsOf [] i).length ≤ 20 := fun i => Nat.zero_le _
  by_cases ha : a < 1 ∨ 40 < a
  · exact ⟨[], 2, by simp, hnil, fun w => specAdem_r1 a b w ha, fun w => implAdem_r a b w (by omega)⟩
  · by_cases hb : b < 1 ∨ 40 < b
    · exact ⟨[], 2, by simp, hnil, fun w => specAdem_r2 a b w (by omega) (by omega) hb, fun w => implAdem_r a b w (by omega)⟩
    · by_cases hs : 40 < a + b
      · exact ⟨[], 3, by simp, hnil, fun w => specAdem_l a b w (by omega) (by omega) (by omega) (by omega) hs, fun w => implAdem_l a b w (by omega) (by omega) (by omega) (by omega) hs⟩
      · have hF := formF_ok [a, b] (ab_LW (by omega) (by omega) (by omega))
        obtain ⟨h1, h2⟩ := normL_few (T := formF [a, b]) (d := a + b) ⟨by omega, by omega⟩ fun y hy => ⟨(hF y hy).1, by rw [(hF y hy).2]; simp⟩
        exact ⟨_, 0, by omega, h2, fun w => specAdem_ok a b w (by omega) (by omega) (by omega), fun w => implAdem_ok a b w (by omega) (by omega) (by omega)⟩
end Go.Proofs.Ytgalfhdeldjmpaa
end
section
namespace Go.Proofs.Ytgalfhdeldjmpaa
open Go.RowKit
set_option linter.unusedVariables false
set_option maxRecDepth 100000

set_option maxHeartbeats 2000000 in
theorem walk_FnExactAdemRelation (a0 a1 : Int) (w : World) (w0 : (Lit.int .i64 a0).wf = true) (w1 : (Lit.int .i64 a1).wf = true) :
    Calls Try.prog 3 #[.int .i64 a0, .int .i64 a1] w fun e w' => e = .returned (.bool true) ∧ Below w.heap.size w w' := by
  clear w0 w1
  have t1 := Try.underlying30
  have t2 := Try.underlying24
  obtain ⟨L, cd, hL, hL20, SP, IM⟩ := AdemRelation_both a0 a1
  have OL : Hid (off 1 (fun i => (rowsOf L i).length) L.length ≤ 1152921504606846976) := Lib.hid (by rw [off_any]; have := tot_bound (rowsOf L) 20 L.length hL20; omega)
  have OL0 : ¬ off 1 (fun i => (rowsOf L i).length) L.length < 0 := by rw [off_any]; omega
  have SP := Lib.hid SP
  have IM := Lib.hid IM
  obtain ⟨kl, hkl⟩ : ∃ kl, off 1 (fun i => (rowsOf L i).length) L.length = kl := ⟨_, rfl⟩
  rw [hkl] at OL0
  have HKL := Lib.hid hkl
  clear hkl hL hL20
  go_enter Try.func3, Try.ntmps3
  go_wp2_with fail
  refine (SP.out w).mono ?_
  rintro e w1 ⟨v1, vs1, rfl, f1, s1, b1⟩
  obtain ⟨va1, vc1, rfl, _, _⟩ := f1.head
  have P2 : Hid (OwnF w w1.heap.size (.slice va1 L.length vc1) L.length vs1 (rowsOf L) (w1.alloc (.cells #[.slice va1 L.length vc1] 24))) := Lib.hid (OwnF.start b1.size f1 s1)
  have B2 := Lib.hid (b1.alloc b1.size (.cells #[.slice va1 L.length vc1] 24))
  clear f1 s1 b1
  go_wp2_with fail
  generalize w1.heap.size = g1 at *
  generalize w1.alloc (.cells #[.slice va1 L.length vc1] 24) = w2 at *
  refine (IM.out w2).mono ?_
  rintro e w3 ⟨v3, vs3, rfl, f3, s3, b3⟩
  obtain ⟨va3, vc3, rfl, _, _⟩ := f3.head
  have N13 := Lib.hid (fam_apart P2.out.fam f3)
  have B3 := Lib.hid (B2.out.step1 b3)
  have P4 := Lib.hid ((P2.out.up b3).alloc (.cells #[.slice va3 L.length vc3] 24))
  have V4 : Hid (OwnF w w3.heap.size (.slice va3 L.length vc3) L.length vs3 (rowsOf L) (w3.alloc (.cells #[.slice va3 L.length vc3] 24))) := Lib.hid (OwnF.start B3.out.size (f3.base B2.out.size) s3)
  have B4 := Lib.hid (B3.out.alloc B3.out.size (.cells #[.slice va3 L.length vc3] 24))
  clear f3 s3 b3 P2 B2 B3
  have d0 := P4.out.box.c
  have e0 := V4.out.box.c
  go_wp2_with fail
  generalize w3.heap.size = g3 at *
  generalize w3.alloc (.cells #[.slice va3 L.length vc3] 24) = w4 at *
  refine (eqSquares_same _ _ L.length _ _ _ _ (rowsOf L) w4 V4.out.fam P4.out.fam).mono ?_
  rintro e w5 ⟨rfl, b5⟩
  have P5 := Lib.hid (P4.out.up b5)
  have V5 := Lib.hid (V4.out.up b5)
  have B5 := Lib.hid (B4.out.step1 b5)
  clear b5 P4 V4 B4 d0 e0
  have e0 := V5.out.box.c
  go_wp2_with fail
  refine (markSquares_from 1 (by omega) _ L.length w.heap.size vs3 (rowsOf L) w5 V5.out.fam V5.out.sep B5.out.size OL.out).mono ?_
  rintro e w6 ⟨rfl, m6, k6, r6⟩
  have P6 := Lib.hid (P5.out.rest V5.out r6 N13.out)
  have V6 := Lib.hid (V5.out.box.restK (B' := 0) (by decide) V5.out.fam r6)
  have W6 := Lib.hid m6
  have B6 := Lib.hid (B5.out.trans k6)
  rw [HKL.out]
  clear P5 V5 B5 m6 k6 r6 e0
  have e0 := V6.out.c
  go_wp2_with fail
  refine (heldSquares_own _ L.length w.heap.size vs3 (rowsOf L) w6 W6.out OL.out).mono ?_
  rintro e w7 ⟨rfl, b7⟩
  have P7 := Lib.hid (P6.out.up b7)
  have V7 := Lib.hid (V6.out.up b7)
  have W7 := Lib.hid (W6.out.below b7)
  have B7 := Lib.hid (B6.out.step1 b7)
  rw [HKL.out]
  clear P6 V6 W6 B6 b7 e0
  go_wp2_with fail
  refine (IM.out w7).mono ?_
  rintro e w8 ⟨v8, vs8, rfl, f8, s8, b8⟩
  obtain ⟨va8, vc8, rfl, _, _⟩ := f8.head
  have B8 := Lib.hid (B7.out.step1 b8)
  have P9 := Lib.hid ((P7.out.up b8).alloc (.cells #[.slice va8 L.length vc8] 24))
  have V9 := Lib.hid ((V7.out.up b8).alloc (.cells #[.slice va8 L.length vc8] 24))
  have W9 := Lib.hid ((W7.out.below b8).below ((Below.refl w8.heap.size w8).alloc (Nat.le_refl _) (.cells #[.slice va8 L.length vc8] 24)))
  have Q9 : Hid (OwnF w w8.heap.size (.slice va8 L.length vc8) L.length vs8 (rowsOf L) (w8.alloc (.cells #[.slice va8 L.length vc8] 24))) := Lib.hid (OwnF.start B8.out.size (f8.base B7.out.size) s8)
  have B9 := Lib.hid (B8.out.alloc B8.out.size (.cells #[.slice va8 L.length vc8] 24))
  clear f8 s8 b8 P7 V7 W7 B7 B8
  have d0 := P9.out.box.c
  have e0 := Q9.out.box.c
  go_wp2_with fail
  generalize w8.heap.size = g8 at *
  generalize w8.alloc (.cells #[.slice va8 L.length vc8] 24) = w9 at *
  refine (eqSquares_same _ _ L.length _ _ _ _ (rowsOf L) w9 Q9.out.fam P9.out.fam).mono ?_
  rintro e w10 ⟨rfl, b10⟩
  have V10 := Lib.hid (V9.out.up b10)
  have W10 := Lib.hid (W9.out.below b10)
  have B10 := Lib.hid (B9.out.step1 b10)
  clear b10 P9 Q9 V9 W9 B9 d0 e0
  have e0 := V10.out.c
  go_wp2_with fail
  refine (heldSquares_own _ L.length w.heap.size vs3 (rowsOf L) w10 W10.out OL.out).mono ?_
  rintro e w11 ⟨rfl, b11⟩
  have B11 := Lib.hid (B10.out.step1 b11)
  rw [HKL.out]
  go_wp2_with fail
  go_ret
  exact ⟨rfl, B11.out⟩
end Go.Proofs.Ytgalfhdeldjmpaa
end
section
namespace Go.Proofs.Ytgalfhdeldjmpaa.fnExactAdemRelation
open Go.ChangeShapes Go.WideShapes Go.ChangeAt Go.RowKit
open Go.ChangeMaps (open_string shut_string)
set_option maxRecDepth 100000
set_option linter.unusedVariables false

theorem own : ownKnob Try.prog.godebug = none := by kernel_rfl
theorem laidOut : laidOutB Try.prog = true := by kernel_rfl

set_option maxRecDepth 100000 in
theorem lifted (os : Os) (started : os.Started) (H : Type) (enc : TypeId × Value → H) :
    ReturnsInHanded {} Try.checked os 3 .any (Rows.fnExactAdemRelationSpec.pre6 enc Try.prog Try.f3 Rows.fnExactAdemRelationRow.domain false) (Rows.fnExactAdemRelationSpec.post enc Try.prog Try.f3 false true false false) := by
  refine returnsInHanded_of_change (C := Try.checked) own started (by kernel_rfl) Try.func3
    (ChangeSpec.witness6 (enc := enc) (C := Try.checked) false ⟨#[], #[.int .i64 0, .int .i64 0], []⟩ 8 (by kernel_rfl) (by kernel_rfl) (by kernel_rfl) (by kernel_rfl)) ?_
  intro W base args ds gs before hval0 hW hcnd _
  have hval : ∀ (j : Nat) t v, Try.f3.params[j]? = some t → args[j]? = some v → Value.okWide Try.prog W .any base t v := hval0
  have hW' := hW
  obtain ⟨p, q, hA0, hV, rfl, hfz, hnd⟩ := hW
  have hA : DataW.TrodAll enc Try.prog W 0 (fun _ => true) true Try.f3.params.toList args.toList ds p := hA0
  rw [Try.params3] at hA hval
  obtain ⟨v0, vs0, d0, ds0, p0, q0, hargs, rfl, rfl, h0, r0⟩ := trodAll_cons hA
  obtain ⟨v1, vs1, d1, ds1, p1, q1, rfl, rfl, rfl, h1, r1⟩ := trodAll_cons r0
  obtain ⟨rfl, rfl, rfl⟩ := trodAll_nil r1
  obtain rfl : args = #[v0, v1] := by cases args; simp_all
  obtain ⟨rfl, rfl⟩ := trodVars_none hV
  obtain ⟨a0, rfl, rfl, rfl, w0⟩ := open_int Try.underlying2 (hval 0 2 v0 rfl rfl) h0
  obtain ⟨a1, rfl, rfl, rfl, w1⟩ := open_int Try.underlying2 (hval 1 2 v1 rfl rfl) h1
  clear hA0 hval0
  simp only [List.append_nil] at hW'
  refine (walk_FnExactAdemRelation a0 a1 W w0 w1).mono fun e W' ⟨he, bel⟩ => ?_
  subst he
  exact ⟨_, rfl, _, _, _, [], [], [], hW', trodAll_mk1 (shut_bool Try.underlying4 _), (trodAll_cons_mk (shut_int Try.underlying2 w0) (trodAll_cons_mk (shut_int Try.underlying2 w1) trodAll_mk0)), rfl, bel.frame _, fun h => by cases h⟩

theorem over : Rows.fnExactAdemRelationRow.holds Try.pinned (OpenSpec.ofChange Rows.fnExactAdemRelationSpec) :=
  OpenClaim.holds_of_wide 3 Try.f3 rfl rfl rfl rfl rfl rfl rfl ⟨rfl, rfl, rfl, rfl, rfl⟩ rfl rfl rfl rfl rfl (by kernel_rfl) Try.func3 (by kernel_rfl)
    (of_decide_eq_true (by kernel_rfl)) (by unfold Func.isWrapper; first | (rw [if_pos (by decide +kernel)]; kernel_rfl) | (rw [if_neg (by decide +kernel)]; exact ⟨rfl, rfl⟩))
    (fun os started H enc _ => lifted os started H enc)

theorem proved : Rows.FnExactAdemRelationSaid := over
#print axioms proved
end Go.Proofs.Ytgalfhdeldjmpaa.fnExactAdemRelation
end
