/-
  Joined: RAdem.
-/
import Derived.Test.YtgalfhdeldjmpaaZmissibleForm33
import Derived.Test.YtgalfhdeldjmpaaZmissibleForm28
import Derived.Test.YtgalfhdeldjmpaaZmissibleForm18
section
namespace Go.Proofs.Ytgalfhdeldjmpaa
open Go.RowKit Go.Maps
set_option linter.unusedVariables false
set_option maxRecDepth 100000

/-- What occurs an odd number of times, in order. -/
def normL : List (List Int) → List (List Int)
  | [] => []
  | x :: r => mrg [x] (normL r)
theorem normL_spec : ∀ T : List (List Int), Asc (normL T) ∧ ∀ z, z ∈ normL T ↔ par T z
  | [] => ⟨List.Pairwise.nil, fun z => by simp [normL, par]⟩
  | x :: r => by
    obtain ⟨h1, h2⟩ := normL_spec r
    obtain ⟨h3, h4⟩ := mrg_spec [x] (normL r) (List.pairwise_singleton _ _) h1
    refine ⟨h3, fun z => ?_⟩
    show z ∈ mrg [x] (normL r) ↔ (x = z ∧ ¬ par r z) ∨ (x ≠ z ∧ par r z)
    rw [h4, h2, List.mem_singleton, eq_comm]
theorem normL_eq {T zs : List (List Int)} (h : Asc zs) (m : ∀ z, z ∈ zs ↔ par T z) : zs = normL T :=
  asc_ext _ _ h (normL_spec T).1 fun z => (m z).trans ((normL_spec T).2 z).symm
/-- Words of one degree are few, and short. -/
theorem normL_few {T : List (List Int)} {d : Int} (h0 : 0 ≤ d ∧ d ≤ 40) (hT : ∀ y ∈ T, isAdm y ∧ y.sum = d) : (normL T).length ≤ 100 ∧ ∀ i, (rowsOf (normL T) i).length ≤ 20 := by
  obtain ⟨h1, h2⟩ := normL_spec T
  obtain ⟨h3, h4⟩ := few_of h1.nodup h2 h0.1 h0.2 hT
  refine ⟨h3, fun i => ?_⟩
  unfold rowsOf
  by_cases hi : i < (normL T).length
  · rw [List.getElem?_eq_getElem hi]
    have := h4 _ (List.getElem_mem hi)
    have := isAdm_len this.1 (by rw [this.2]; exact h0.2)
    simp only [Option.getD_some]
    omega
  · rw [List.getElem?_eq_none (by omega)]
    exact Nat.zero_le _

theorem ab_LW {a b : Int} (ha : 1 ≤ a) (hb : 1 ≤ b) (hs : a + b ≤ 40) : LW [a, b] := by
  refine ⟨fun x hx => ?_, by simp; omega⟩
  simp only [List.mem_cons, List.not_mem_nil, or_false] at hx
  rcases hx with rfl | rfl <;> assumption
/-- A literal list of two. -/
theorem rd_two (w : World) (a b : Int) : RdI (w.alloc (.cells #[.int .i64 a, .int .i64 b] 2)) (.slice (some ⟨w.heap.size, 0, none⟩) 2 2) [a, b].length (fun j => [a, b][j]?.getD 0) := by
  refine ⟨_, 2, rfl, by unfold maxLen; simp, .inr ⟨w.heap.size, 0, rfl, fun i hi => ?_⟩⟩
  have hh := heap_alloc_new w (.cells #[.int .i64 a, .int .i64 b] 2)
  rw [World.cell?, hh]
  have hi2 : i < 2 := hi
  rcases i with _ | _ | i
  · rfl
  · rfl
  · omega
/-- The result's box is written, the result is there. -/
theorem resS_done {w w1 : World} {U : Value} {US : Nat → Value} {L : List (List Int)} {x : Value} {B : Nat} (f : FamL w1 B U US L) (s : Sep L.length US) (hB : w.heap.size ≤ B) (b : Below w.heap.size w w1) (hx : Box1 w1 w.heap.size 24 x) :
    FamL (w1.setCell ⟨w.heap.size, 0, none⟩ U) w.heap.size U US L ∧ Below w.heap.size w (w1.setCell ⟨w.heap.size, 0, none⟩ U) ∧ Box1 (w1.setCell ⟨w.heap.size, 0, none⟩ U) w.heap.size 24 U :=
  ⟨FamL.off_box (Fam.base f hB) (OneOff.set _ _ _) hx, b.setCell (p := ⟨w.heap.size, 0, none⟩) (Nat.le_refl _) U, hx.set U⟩

theorem specAdem_ok (a b : Int) (w : World) (ha : 1 ≤ a) (hb : 1 ≤ b) (hs : a + b ≤ 40) :
    Calls Try.prog 7 #[.int .i64 a, .int .i64 b] w (ResS (normL (formF [a, b])) 0 w) := by
  have t2 := Try.underlying24
  have ha2 : a ≤ 40 := by omega
  have hb2 : b ≤ 40 := by omega
  have hw : IntKind.i64.wrap (a + b) = a + b := by rw [IntKind.wrap_i64]; omega
  have hs2 : ¬ 40 < a + b := by omega
  have LF := l03Form_any _ [a, b] _ (rd_two (w.alloc (.cells #[.slice none 0 0] 24)) a b) (ab_LW ha hb hs)
  rw [World.size_alloc] at LF
  have BX : Hid (Box1 ((w.alloc (.cells #[.slice none 0 0] 24)).alloc (.cells #[.int .i64 a, .int .i64 b] 2)) w.heap.size 24 (.slice none 0 0)) := Lib.hid ((Box1.new _ _ _).alloc _)
  have B2 : Hid (Below w.heap.size w ((w.alloc (.cells #[.slice none 0 0] 24)).alloc (.cells #[.int .i64 a, .int .i64 b] 2))) := Lib.hid (((Below.refl _ w).alloc (Nat.le_refl _) _).alloc (by simp) _)
  have LF := Lib.hid LF
  clear hs
  go_enter Try.func7, Try.ntmps7
  go_wp2_with (go_at_call 20; refine (l01In_yes _ _ _ _ (by assumption) (by assumption)).mono ?_; rintro e w' ⟨rfl, rfl⟩)
  refine LF.out.mono ?_
  rintro e w1 ⟨U, US, zs, rfl, hL⟩
  obtain rfl := normL_eq hL.asc hL.mem
  obtain ⟨ua, uc, rfl, _, _⟩ := hL.fam.head
  have b2 := B2.out
  have bx1 := BX.out.up hL.bel
  have D := Lib.hid (resS_done hL.fam hL.sep b2.size (b2.trans (hL.bel.mono b2.size)) bx1)
  have HS := Lib.hid hL.sep
  have c1 := bx1.c
  have f1 := bx1.fr 0
  clear hL bx1 b2 BX B2 LF
  go_wp2_with fail
  refine bodyPost_ret (results_box1_tmp rfl _ _ w.heap.size _ _ rfl D.out.2.2 t2 (by kernel_rfl)) rfl ?_
  exact ⟨_, US, rfl, D.out.1, HS.out, D.out.2.1⟩

/-- The program's word of two letters. -/
theorem rdss_two (w : World) (a b : Int) : RdSS ((w.alloc (.cells #[.int .i64 a, .int .i64 b] 2)).alloc (.cells #[.slice (some ⟨w.heap.size, 0, none⟩) 2 2] 41)) (.slice (some ⟨w.heap.size + 1, 0, none⟩) 1 1) 1 (fun _ => [a, b]) := by
  refine ⟨⟨_, _, rfl⟩, by unfold maxLen; simp, fun _ => .slice (some ⟨w.heap.size, 0, none⟩) 2 2, .inr ⟨_, 0, ⟨1, rfl⟩, fun i hi => ?_⟩, fun i hi => (rd_two w a b).below ((Below.refl _ _).alloc (Nat.le_refl _) _)⟩
  obtain rfl : i = 0 := by omega
  have hh := heap_alloc_new (w.alloc (.cells #[.int .i64 a, .int .i64 b] 2)) (.cells #[.slice (some ⟨w.heap.size, 0, none⟩) 2 2] 41)
  rw [World.size_alloc] at hh
  rw [World.cell?, hh]
  rfl
theorem implAdem_ok (a b : Int) (w : World) (ha : 1 ≤ a) (hb : 1 ≤ b) (hs : a + b ≤ 40) :
    Calls Try.prog 8 #[.int .i64 a, .int .i64 b] w (ResS (normL (formF [a, b])) 0 w) := by
  have t2 := Try.underlying24
  have ha1 : ¬ a < 1 := by omega
  have hb1 : ¬ b < 1 := by omega
  have ha2 : ¬ 40 < a := by omega
  have hb2 : ¬ 40 < b := by omega
  have hw : IntKind.i64.wrap (a + b) = a + b := by rw [IntKind.wrap_i64]; omega
  have hs2 : ¬ 40 < a + b := by omega
  have BX : Hid (Box1 (w.alloc (.cells #[.slice none 0 0] 24)) w.heap.size 24 (.slice none 0 0)) := Lib.hid (Box1.new _ _ _)
  have B1 : Hid (Below w.heap.size w (w.alloc (.cells #[.slice none 0 0] 24))) := Lib.hid ((Below.refl _ w).alloc (Nat.le_refl _) _)
  have NR := Lib.hid (newReducer_any (w.alloc (.cells #[.slice none 0 0] 24)))
  have HLW := Lib.hid (ab_LW ha hb hs)
  have HAB := Lib.hid (show 0 ≤ a + b ∧ a + b ≤ 40 from ⟨by omega, hs⟩)
  clear hs
  go_enter Try.func8, Try.ntmps8
  go_wp2_with fail
  refine NR.out.mono ?_
  rintro e w1 ⟨R, K, gk, gp, rfl, i1, b1, hk, hp⟩
  have hz : w.heap.size ≤ w1.heap.size := by have := b1.size; simp at this; omega
  have k2 : Below w1.heap.size w1 ((w1.alloc (.cells #[.int .i64 a, .int .i64 b] 2)).alloc (.cells #[.slice (some ⟨w1.heap.size, 0, none⟩) 2 2] 41)) := ((Below.refl _ w1).alloc (Nat.le_refl _) _).alloc (by simp) _
  have RD := Lib.hid (reduced_any R K gk gp _ 1 (fun _ => [a, b]) _ (i1.below k2) (rdss_two w1 a b) (by omega) (fun i hi => HLW.out) (a + b) HAB.out (fun i hi => by simp))
  have BX1 := Lib.hid ((BX.out.up b1).up k2)
  have B2 := Lib.hid (((B1.out.trans (b1.mono (by simp)))).trans (k2.mono hz))
  have HK : Hid (w.heap.size + 1 ≤ gk ∧ w.heap.size + 1 ≤ gp) := Lib.hid ⟨by simpa using hk, by simpa using hp⟩
  clear i1 b1 k2 hz hk hp NR BX B1
  go_wp2_with fail
  refine RD.out.mono ?_
  rintro e w3 ⟨V, VS, zs, rfl, f3, s3, a3, m3, _, kp3⟩
  rw [show (rowsL (fun _ => [a, b]) 1).flatMap formF = formF [a, b] from List.append_nil _] at m3
  obtain rfl := normL_eq a3 m3
  obtain ⟨va, vc, rfl, _, _⟩ := f3.head
  have b2 := B2.out
  have hk := HK.out
  have bx3 : Box1 w3 w.heap.size 24 (.slice none 0 0) := (kp3.block _ BX1.out.lt (by omega) (by omega)).trans BX1.out
  have D := Lib.hid (resS_done f3 s3 b2.size (b2.trans (kp3.below (by omega) (by omega) b2.size)) bx3)
  have HS := Lib.hid s3
  have c1 := bx3.c
  have f1 := bx3.fr 0
  clear f3 s3 a3 m3 kp3 bx3 b2 hk RD BX1 B2 HK
  go_wp2_with fail
  refine bodyPost_ret (results_box1_tmp rfl _ _ w.heap.size _ _ rfl D.out.2.2 t2 (by kernel_rfl)) rfl ?_
  exact ⟨_, VS, rfl, D.out.1, HS.out, D.out.2.1⟩

theorem resS_nil (w : World) (cd : Int) : ResS [] cd w (.returned (.tuple #[.agg #[.slice none 0 0], .int .i64 cd])) (w.alloc (.cells #[.slice none 0 0] 24)) :=
  ⟨_, fun _ => undef, rfl, ⟨World.ownsRow_nil _ _ _ _, fun i hi => absurd hi (Nat.not_lt_zero _)⟩, fun i j hi => absurd hi (Nat.not_lt_zero _), (Below.refl _ w).alloc (Nat.le_refl _) _⟩
theorem specAdem_r1 (a b : Int) (w : World) (h : a < 1 ∨ 40 < a) : Calls Try.prog 7 #[.int .i64 a, .int .i64 b] w (ResS [] 2 w) := by
  have t2 := Try.underlying24
  have BX : Hid (Box1 (w.alloc (.cells #[.slice none 0 0] 24)) w.heap.size 24 (.slice none 0 0)) := Lib.hid (Box1.new _ _ _)
  go_enter Try.func7, Try.ntmps7
  go_wp2_with (go_at_call 20; refine (l01In_no _ _ _ _ h).mono ?_; rintro e w' ⟨rfl, rfl⟩)
  refine bodyPost_ret (results_box1_tmp rfl _ _ w.heap.size _ _ rfl BX.out t2 (by kernel_rfl)) rfl ?_
  exact resS_nil w _
theorem specAdem_r2 (a b : Int) (w : World) (h0 : 1 ≤ a) (h1 : a ≤ 40) (h : b < 1 ∨ 40 < b) : Calls Try.prog 7 #[.int .i64 a, .int .i64 b] w (ResS [] 2 w) := by
  have t2 := Try.underlying24
  have BX : Hid (Box1 (w.alloc (.cells #[.slice none 0 0] 24)) w.heap.size 24 (.slice none 0 0)) := Lib.hid (Box1.new _ _ _)
  go_enter Try.func7, Try.ntmps7
  go_wp2_with fail
  refine (l01In_yes a 1 40 _ h0 h1).mono ?_
  rintro e w' ⟨rfl, rfl⟩
  go_wp2_with fail
  refine (l01In_no b 1 40 _ h).mono ?_
  rintro e w' ⟨rfl, rfl⟩
  go_wp2_with fail
  refine bodyPost_ret (results_box1_tmp rfl _ _ w.heap.size _ _ rfl BX.out t2 (by kernel_rfl)) rfl ?_
  exact resS_nil w _
theorem specAdem_l (a b : Int) (w : World) (h0 : 1 ≤ a) (h1 : a ≤ 40) (h2 : 1 ≤ b) (h3 : b ≤ 40) (h : 40 < a + b) : Calls Try.prog 7 #[.int .i64 a, .int .i64 b] w (ResS [] 3 w) := by
  have t2 := Try.underlying24
  have BX : Hid (Box1 (w.alloc (.cells #[.slice none 0 0] 24)) w.heap.size 24 (.slice none 0 0)) := Lib.hid (Box1.new _ _ _)
  have hw : IntKind.i64.wrap (a + b) = a + b := by rw [IntKind.wrap_i64]; omega
  go_enter Try.func7, Try.ntmps7
  go_wp2_with (go_at_call 20; refine (l01In_yes _ _ _ _ (by assumption) (by assumption)).mono ?_; rintro e w' ⟨rfl, rfl⟩)
  refine bodyPost_ret (results_box1_tmp rfl _ _ w.heap.size _ _ rfl BX.out t2 (by kernel_rfl)) rfl ?_
  exact resS_nil w _
theorem implAdem_r (a b : Int) (w : World) (h : (a < 1 ∨ b < 1) ∨ 40 < a ∨ 40 < b) : Calls Try.prog 8 #[.int .i64 a, .int .i64 b] w (ResS [] 2 w) := by
  have t2 := Try.underlying24
  have BX : Hid (Box1 (w.alloc (.cells #[.slice none 0 0] 24)) w.heap.size 24 (.slice none 0 0)) := Lib.hid (Box1.new _ _ _)
  by_cases k1 : a < 1
  · clear h
    go_enter Try.func8, Try.ntmps8
    go_wp2_with fail
    refine bodyPost_ret (results_box1_tmp rfl _ _ w.heap.size _ _ rfl BX.out t2 (by kernel_rfl)) rfl ?_
    exact resS_nil w _
  · by_cases k2 : b < 1
    · clear h
      go_enter Try.func8, Try.ntmps8
      go_wp2_with fail
      refine bodyPost_ret (results_box1_tmp rfl _ _ w.heap.size _ _ rfl BX.out t2 (by kernel_rfl)) rfl ?_
      exact resS_nil w _
    · by_cases k3 : 40 < a
      · clear h
        go_enter Try.func8, Try.ntmps8
        go_wp2_with fail
        refine bodyPost_ret (results_box1_tmp rfl _ _ w.heap.size _ _ rfl BX.out t2 (by kernel_rfl)) rfl ?_
        exact resS_nil w _
      · have k4 : 40 < b := by omega
        clear h
        go_enter Try.func8, Try.ntmps8
        go_wp2_with fail
        refine bodyPost_ret (results_box1_tmp rfl _ _ w.heap.size _ _ rfl BX.out t2 (by kernel_rfl)) rfl ?_
        exact resS_nil w _
theorem implAdem_l (a b : Int) (w : World) (h0 : 1 ≤ a) (h1 : a ≤ 40) (h2 : 1 ≤ b) (h3 : b ≤ 40) (h : 40 < a + b) : Calls Try.prog 8 #[.int .i64 a, .int .i64 b] w (ResS [] 3 w) := by
  have t2 := Try.underlying24
  have BX : Hid (Box1 (w.alloc (.cells #[.slice none 0 0] 24)) w.heap.size 24 (.slice none 0 0)) := Lib.hid (Box1.new _ _ _)
  have hw : IntKind.i64.wrap (a + b) = a + b := by rw [IntKind.wrap_i64]; omega
  have k1 : ¬ a < 1 := by omega
  have k2 : ¬ b < 1 := by omega
  have k3 : ¬ 40 < a := by omega
  have k4 : ¬ 40 < b := by omega
  go_enter Try.func8, Try.ntmps8
  go_wp2_with fail
  refine bodyPost_ret (results_box1_tmp rfl _ _ w.heap.size _ _ rfl BX.out t2 (by kernel_rfl)) rfl ?_
  exact resS_nil w _
theorem AdemRelation_both (a b : Int) : ∃ (L : List (List Int)) (cd : Int), L.length ≤ 2000 ∧ (∀ i, (rowsOf L i).length ≤ 20) ∧
    (∀ w, Calls Try.prog 7 #[.int .i64 a, .int .i64 b] w (ResS L cd w)) ∧ (∀ w, Calls Try.prog 8 #[.int .i64 a, .int .i64 b] w (ResS L cd w)) := by
  have hnil : ∀ i, (rowsOf [] i).length ≤ 20 := fun i => Nat.zero_le _
  by_cases ha : a < 1 ∨ 40 < a
  · exact ⟨[], 2, by simp, hnil, fun w => specAdem_r1 a b w ha, fun w => implAdem_r a b w (by omega)⟩
  · by_cases hb : b < 1 ∨ 40 < b
    · exact ⟨[], 2, by simp, hnil, fun w => specAdem_r2 a b w (by omega) (by omega) hb, fun w => implAdem_r a b w (by omega)⟩
    · by_cases hs : 40 < a + b
      · exact ⟨[], 3, by simp, hnil, fun w => specAdem_l a b w (by omega) (by omega) (by omega) (by omega) hs, fun w => implAdem_l a b w (by omega) (by omega) (by omega) (by omega) hs⟩
      · have hF := formF_ok [a, b] (ab_LW (by omega) (by omega) (by omega))
        obtain ⟨h1, h2⟩ := normL_few (T := formF [a, b]) (d := a + b) ⟨by omega, by omega⟩ fun y hy => ⟨(hF y hy).1, by rw [(hF y hy).2]; simp⟩
        exact ⟨_, 0, by omega, h2, fun w => specAdem_ok a b w (by omega) (by omega) (by omega), fun w => implAdem_ok a b w (by omega) (by omega) (by omega)⟩
end Go.Proofs.Ytgalfhdeldjmpaa
end
