/-
  IsContainedProfile on both sides.
-/
import Derived.Test.YtcbfcpngpnlodaaQTwo
namespace Go.Proofs.Ytcbfcpngpnlodaa
open Go.RowKit
set_option linter.unusedVariables false
set_option maxRecDepth 100000

def stepC (G H : Nat → Int) (m i : Nat) : Prop := G i ≤ padF m H i
theorem specCon_some (u v : Value) (n m z : Nat) (r : Bool) (G H : Nat → Int) (w : World) (hu : RdI w u n G) (hv : RdI w v m H) (h1 : okPr G n) (h2 : okPr H m) (hz : z ≤ n) (hgood : ∀ i, i < z → stepC G H m i)
    (hend : (z = n ∧ r = true) ∨ (z < n ∧ ¬ stepC G H m z ∧ r = false)) :
    Calls Try.prog 30 #[u, v] w (SaysV (.tuple #[.bool r, .int .i64 0]) w) := by
  have A := Lib.hid (l07Both_yes u v n m G H w hu hv h1 h2)
  have hn : n ≤ 16 := h1.1
  have hm : m ≤ 16 := h2.1
  have AT1 := Lib.hid (fun (j : Nat) (hj : j < n) => l07At_in u n G w j (by omega) hu (by omega))
  have AT2 := Lib.hid (fun (j : Nat) (hj : j < n) => l07At_in v m H w j (by omega) hv (by omega))
  have HO := Lib.hid hgood
  have HE := Lib.hid hend
  obtain ⟨ua, uc, rfl⟩ : ∃ a c, u = .slice a n c := by obtain ⟨a, c, e, _⟩ := hu; exact ⟨a, c, e⟩
  obtain ⟨va, vc, rfl⟩ : ∃ a c, v = .slice a m c := by obtain ⟨a, c, e, _⟩ := hv; exact ⟨a, c, e⟩
  clear hu hv h1 h2 hgood hend
  go_enter Try.func30, Try.ntmps30
  go_wp2_with fail
  refine A.out.mono ?_
  rintro e w' ⟨rfl, rfl⟩
  go_wp2_with fail
  go_loop [7] (fun c => ∃ j : Nat, j ≤ z ∧ c = .int .i64 ((j : Int) + 1)) (fun c => (n + 1 - intOf c).toNat)
  case atStart => exact ⟨0, by omega, by simp⟩
  case round =>
    obtain ⟨j, hj, rfl⟩ := hrel
    by_cases hjn : j < n
    · have hc : (j : Int) + 1 ≤ (n : Int) := by omega
      have C1 := Lib.hid (AT1.out j hjn)
      have C2 := Lib.hid (AT2.out j hjn)
      rw [show padF n G j = G j from if_pos hjn] at C1
      by_cases hlt : j < z
      · have h3 := HO.out j hlt
        unfold stepC at h3
        generalize G j = x at *
        generalize padF m H j = y at *
        have h4 : ¬ y < x := by omega
        go_wp2_with fail
        refine C1.out.mono ?_
        rintro e w' ⟨rfl, rfl⟩
        go_wp2_with fail
        refine C2.out.mono ?_
        rintro e w' ⟨rfl, rfl⟩
        go_wp2_with fail
        go_round
        case rel => exact ⟨j + 1, by omega, by go_num⟩
        case measure => simp [intOf]; omega
      · obtain rfl : j = z := by omega
        obtain ⟨_, hbad, rfl⟩ := HE.out.resolve_left (fun h => by omega)
        unfold stepC at hbad
        generalize G j = x at *
        generalize padF m H j = y at *
        have h4 : y < x := by omega
        go_wp2_with fail
        refine C1.out.mono ?_
        rintro e w' ⟨rfl, rfl⟩
        go_wp2_with fail
        refine C2.out.mono ?_
        rintro e w' ⟨rfl, rfl⟩
        go_wp2_with fail
        go_ret2
        exact ⟨rfl, Below.refl _ _⟩
    · have hc : ¬ (j : Int) + 1 ≤ (n : Int) := by omega
      obtain rfl : j = n := by omega
      obtain ⟨_, rfl⟩ := HE.out.resolve_right (fun h => by omega)
      go_wp2_with fail
      go_ret2
      exact ⟨rfl, Below.refl _ _⟩
theorem specCon_no (u v : Value) (n m : Nat) (G H : Nat → Int) (w : World) (hu : RdI w u n G) (hv : RdI w v m H) (hok : ¬ (okPr G n ∧ okPr H m)) :
    Calls Try.prog 30 #[u, v] w (SaysV (.tuple #[.bool false, .int .i64 1]) w) := by
  have A := Lib.hid (l07Both_no u v n m G H w hu hv hok)
  clear hu hv hok
  go_enter Try.func30, Try.ntmps30
  go_wp2_with fail
  refine A.out.mono ?_
  rintro e w' ⟨rfl, rfl⟩
  go_wp2_with fail
  go_ret2
  exact ⟨rfl, Below.refl _ _⟩
theorem implCon_ok (u v : Value) (n m : Nat) (G H : Nat → Int) (w : World) (hu : RdI w u n G) (hv : RdI w v m H) (h1 : okPr G n) (h2 : okPr H m) :
    Calls Try.prog 31 #[u, v] w (SaysV (.tuple #[.bool (sameA (meetF (padF n G) (padF m H)) (padF n G)), .int .i64 0]) w) := by
  have A := Lib.hid (implIsPr_yes u n G w hu h1)
  have B := Lib.hid (implIsPr_yes v m H w hv h2)
  have P1 := Lib.hid (profileOf_any u n G w hu h1.1)
  have P2 := Lib.hid (fun wx (hb : Below w.heap.size w wx) => profileOf_any v m H wx (hv.below hb) h2.1)
  clear hu hv h1 h2
  go_enter Try.func31, Try.ntmps31
  go_wp2_with fail
  refine A.out.mono ?_
  rintro e w' ⟨rfl, rfl⟩
  go_wp2_with fail
  refine B.out.mono ?_
  rintro e w' ⟨rfl, rfl⟩
  go_wp2_with fail
  refine P1.out.mono ?_
  rintro e w1 ⟨rfl, b1⟩
  go_wp2_with fail
  refine (P2.out w1 b1).mono ?_
  rintro e w2 ⟨rfl, b2⟩
  have B2 := Lib.hid (below_one b1 b2)
  clear b1 b2
  go_wp2_with fail
  refine (isIn_any _ _ _).mono ?_
  rintro e w3 ⟨rfl, b3⟩
  have B3 := Lib.hid (below_one B2.out b3)
  clear b3 B2
  go_wp2_with fail
  go_ret2
  exact ⟨rfl, B3.out⟩
theorem implCon_no (u v : Value) (n m : Nat) (G H : Nat → Int) (w : World) (hu : RdI w u n G) (hv : RdI w v m H) (hok : ¬ (okPr G n ∧ okPr H m)) :
    Calls Try.prog 31 #[u, v] w (SaysV (.tuple #[.bool false, .int .i64 1]) w) := by
  by_cases h1 : okPr G n
  · have A := Lib.hid (implIsPr_yes u n G w hu h1)
    have B := Lib.hid (implIsPr_no v m H w hv (fun h => hok ⟨h1, h⟩))
    clear hu hv h1 hok
    go_enter Try.func31, Try.ntmps31
    go_wp2_with fail
    refine A.out.mono ?_
    rintro e w' ⟨rfl, rfl⟩
    go_wp2_with fail
    refine B.out.mono ?_
    rintro e w' ⟨rfl, rfl⟩
    go_wp2_with fail
    go_ret2
    exact ⟨rfl, Below.refl _ _⟩
  · have A := Lib.hid (implIsPr_no u n G w hu h1)
    clear hu hv h1 hok
    go_enter Try.func31, Try.ntmps31
    go_wp2_with fail
    refine A.out.mono ?_
    rintro e w' ⟨rfl, rfl⟩
    go_wp2_with fail
    go_ret2
    exact ⟨rfl, Below.refl _ _⟩
theorem con_iff {G H : Nat → Int} {n m : Nat} (h1 : okPr G n) (h2 : okPr H m) : sameA (meetF (padF n G) (padF m H)) (padF n G) = true ↔ ∀ i, i < n → stepC G H m i := by
  rw [sameA_iff]
  unfold meetF stepC
  constructor
  · intro h i hi
    have := h i (by have := h1.1; omega)
    rw [show padF n G i = G i from if_pos hi] at this
    omega
  · intro h i hi
    by_cases hn : i < n
    · have := h i hn
      rw [show padF n G i = G i from if_pos hn]
      omega
    · have := padF_nonneg h2 i
      rw [show padF n G i = 0 from if_neg hn]
      omega
theorem IsContainedProfile_both (n : Nat) (G : Nat → Int) (hb : ∀ i, -9223372036854775808 ≤ G i ∧ G i ≤ 9223372036854775807) (m : Nat) (H : Nat → Int) (hc : ∀ i, -9223372036854775808 ≤ H i ∧ H i ≤ 9223372036854775807) :
    ∃ (x : Bool) (c : Int),
    (∀ u v w, RdI w u n G → RdI w v m H → Calls Try.prog 30 #[u, v] w (SaysV (.tuple #[.bool x, .int .i64 c]) w)) ∧
    (∀ u v w, RdI w u n G → RdI w v m H → Calls Try.prog 31 #[u, v] w (SaysV (.tuple #[.bool x, .int .i64 c]) w)) := by
  by_cases hok : okPr G n ∧ okPr H m
  · refine ⟨_, _, fun u v w hu hv => ?_, fun u v w hu hv => implCon_ok u v n m G H w hu hv hok.1 hok.2⟩
    by_cases hall : ∀ i, i < n → stepC G H m i
    · rw [(con_iff hok.1 hok.2).2 hall]
      exact specCon_some u v n m n true G H w hu hv hok.1 hok.2 (Nat.le_refl _) hall (.inl ⟨rfl, rfl⟩)
    · have hf : sameA (meetF (padF n G) (padF m H)) (padF n G) = false := by
        cases hs : sameA (meetF (padF n G) (padF m H)) (padF n G) with
        | false => rfl
        | true => exact absurd ((con_iff hok.1 hok.2).1 hs) hall
      obtain ⟨z, hz, hbad, hgood⟩ := first_bad0 (stepC G H m) n hall
      rw [hf]
      exact specCon_some u v n m z false G H w hu hv hok.1 hok.2 (by omega) hgood (.inr ⟨hz, hbad, rfl⟩)
  · exact ⟨false, 1, fun u v w hu hv => specCon_no u v n m G H w hu hv hok, fun u v w hu hv => implCon_no u v n m G H w hu hv hok⟩
end Go.Proofs.Ytcbfcpngpnlodaa
