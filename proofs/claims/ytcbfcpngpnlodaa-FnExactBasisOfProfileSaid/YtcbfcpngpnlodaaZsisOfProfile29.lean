/-
  Joined: QIn.
-/
import Derived.Test.YtcbfcpngpnlodaaZsisOfProfile19
import Derived.Test.YtcbfcpngpnlodaaZsisOfProfile16
import Derived.Test.YtcbfcpngpnlodaaZsisOfProfile28
import Derived.BigQuiet
section
namespace Go.Proofs.Ytcbfcpngpnlodaa
open Go.RowKit
set_option linter.unusedVariables false
set_option maxRecDepth 100000

theorem shl_at (s : Nat) (h : s ≤ 10) : IntKind.i64.wrap (2 ^ min (IntKind.u64.wrap (s : Int)).toNat 64) = 2 ^ s := by
  have hs : s = 0 ∨ s = 1 ∨ s = 2 ∨ s = 3 ∨ s = 4 ∨ s = 5 ∨ s = 6 ∨ s = 7 ∨ s = 8 ∨ s = 9 ∨ s = 10 := by omega
  rcases hs with rfl | rfl | rfl | rfl | rfl | rfl | rfl | rfl | rfl | rfl | rfl
  all_goals rfl
/-- The basis element of xs is in the part of H, at its number i. -/
def stepL (G : Nat → Int) (H : Nat → Int) (m i : Nat) : Prop := G i < 2 ^ (padF m H i).toNat
def inL (n : Nat) (G H : Nat → Int) (m : Nat) : Prop := ∀ i, i < n → stepL G H m i
theorem quiet_at {f : FuncId} {args : Array Value} {w : World} {n : Nat} {v : Value}
    (h : Calls Try.prog f args (w.drewN n) fun e w' => e = .returned v ∧ w.drewN n = w') : Calls Try.prog f args (w.drewN n) fun e w'' => e = .returned v ∧ ∃ m, w'' = w.drewN m :=
  h.mono fun _ _ ⟨he, hm⟩ => ⟨he, n, hm.symm⟩

set_option maxHeartbeats 1000000 in
theorem l07In_some (u v : Value) (n m z : Nat) (r : Bool) (G H : Nat → Int) (w : World) (hn : n ≤ 1000) (hu : RdI w u n G) (hv : RdI w v m H) (h2 : okPr H m) (hz : z ≤ n) (hgood : ∀ i, i < z → stepL G H m i)
    (hend : (z = n ∧ r = true) ∨ (z < n ∧ ¬ stepL G H m z ∧ r = false)) :
    Calls Try.prog 68 #[u, v] w fun e w' => e = .returned (.bool r) ∧ ∃ q, w' = w.drewN q := by
  have hm : m ≤ 16 := h2.1
  have AT := Lib.hid (fun (j : Nat) (hj : j < n) (q : Nat) => l07At_in v m H (w.drewN q) j (by omega) (hv.drewN q) (by omega))
  have HP := Lib.hid h2
  have HO := Lib.hid hgood
  have HE := Lib.hid hend
  obtain ⟨va, vc, rfl⟩ : ∃ a c, v = .slice a m c := by obtain ⟨a, c, e, _⟩ := hv; exact ⟨a, c, e⟩
  obtain ⟨ua, uc, rfl, hum, huc⟩ := hu
  have HC := Lib.hid huc
  clear hv h2 hgood hend huc
  go_enter Try.func68, Try.ntmps68
  go_wp2_with fail
  go_loopw [5] (fun c wr => ∃ j q : Nat, j ≤ z ∧ c = .int .i64 (j : Int) ∧ Hid (wr = w.drewN q)) (fun c _ => n - (intOf c).toNat)
  case atStart => exact ⟨0, 0, by omega, rfl, Lib.hid rfl⟩
  case round =>
    obtain ⟨j, q, hj, rfl, hw⟩ := hrel
    by_cases hjn : j < n
    · have hjn' : (j : Int) < (n : Int) := by omega
      obtain ⟨b, off, rfl, hc'⟩ := HC.out.resolve_left (by omega)
      have c1 : wr.cell? ⟨b, off + j, none⟩ = some (.int .i64 (G j)) := by rw [hw.out]; exact hc' j hjn
      have C1 := Lib.hid (fun (t : Nat) => (by rw [hw.out, World.drewN_drewN]; exact AT.out j hjn (q + t) : Calls Try.prog 62 #[.slice va m vc, .int .i64 ((j : Int) + 1)] (wr.drewN t) fun e w' => e = .returned (.int .i64 (padF m H j)) ∧ wr.drewN t = w'))
      have p1 := padF_nonneg HP.out j
      obtain ⟨s, hs⟩ := Int.eq_ofNat_of_zero_le p1.1
      have hsh := shl_at s (by omega)
      have p3 : (1 : Int) ≤ 2 ^ s ∧ (2 : Int) ^ s ≤ 1024 := by
        have h1 : (2 : Nat) ^ s ≤ 2 ^ 10 := Nat.pow_le_pow_right (by decide) (by omega)
        have h2 : 0 < (2 : Nat) ^ s := Nat.pow_pos (by decide)
        have h3 : ((2 ^ s : Nat) : Int) = (2 : Int) ^ s := by simp
        omega
      have hst : stepL G H m j ↔ G j < 2 ^ s := by unfold stepL; rw [hs, Int.toNat_natCast]
      have hs0 : ¬ ((s : Int) < 0) := by omega
      rw [hs] at C1
      clear p1 hs hc'
      generalize hpw : (2 : Int) ^ s = p at *
      clear hpw
      by_cases hlt : j < z
      · have h3 := hst.1 (HO.out j hlt)
        have h4 : decide (p ≤ G j) = false := decide_eq_false (by omega)
        generalize G j = x at *
        clear hst
        go_wp2_with fail
        go_quiet ((go_at_call 62; exact quiet_at (C1.out _)))
        go_wp2_with fail
        go_roundw
        case rel => exact ⟨j + 1, _, by omega, by go_num, Lib.hid (by rw [hw.out]; exact World.drewN_drewN ..)⟩
        case measure => simp [intOf]; omega
      · obtain rfl : j = z := by omega
        obtain ⟨_, hbad, rfl⟩ := HE.out.resolve_left (fun h => by omega)
        have h3 : ¬ G j < p := fun h => hbad (hst.2 h)
        have h4 : decide (p ≤ G j) = true := decide_eq_true (by omega)
        generalize G j = x at *
        clear hst hbad
        go_wp2_with fail
        go_quiet ((go_at_call 62; exact quiet_at (C1.out _)))
        go_wp2_with fail
        go_ret
        exact ⟨rfl, _, by rw [hw.out]; exact World.drewN_drewN ..⟩
    · have hjn' : ¬ (j : Int) < (n : Int) := by omega
      obtain ⟨_, rfl⟩ := HE.out.resolve_right (fun h => by omega)
      go_wp2_with fail
      go_ret
      exact ⟨rfl, q, hw.out⟩

theorem l07In_yes (u v : Value) (n m : Nat) (G H : Nat → Int) (w : World) (hn : n ≤ 1000) (hu : RdI w u n G) (hv : RdI w v m H) (h2 : okPr H m) (h : inL n G H m) :
    Calls Try.prog 68 #[u, v] w fun e w' => e = .returned (.bool true) ∧ ∃ q, w' = w.drewN q :=
  l07In_some u v n m n true G H w hn hu hv h2 (Nat.le_refl _) h (.inl ⟨rfl, rfl⟩)
theorem l07In_no (u v : Value) (n m : Nat) (G H : Nat → Int) (w : World) (hn : n ≤ 1000) (hu : RdI w u n G) (hv : RdI w v m H) (h2 : okPr H m) (h : ¬ inL n G H m) :
    Calls Try.prog 68 #[u, v] w fun e w' => e = .returned (.bool false) ∧ ∃ q, w' = w.drewN q := by
  obtain ⟨z, hz, hbad, hgood⟩ := first_bad0 (stepL G H m) n h
  exact l07In_some u v n m z false G H w hn hu hv h2 (by omega) hgood (.inr ⟨hz, hbad, rfl⟩)
end Go.Proofs.Ytcbfcpngpnlodaa
end
