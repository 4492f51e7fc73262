/-
  The profile of A(n), the dimension and the top: contracts of the specification and of the program.
-/
import Derived.Test.YtcbfcpngpnlodaaQIs
namespace Go.Proofs.Ytcbfcpngpnlodaa
open Go.RowKit
set_option maxRecDepth 100000
set_option linter.unusedVariables false

/-- The first j numbers of n + 1, n, .. -/
def prA (n : Int) (j : Nat) : List Int := (List.range j).map (fun (i : Nat) => n + 1 - (i : Int))
theorem prA_len (n : Int) (j : Nat) : (prA n j).length = j := by simp [prA]
theorem prA_succ (n : Int) (j : Nat) : prA n j ++ [n + 1 - (j : Int)] = prA n (j + 1) := by
  unfold prA
  rw [List.range_succ, List.map_append]
  rfl


set_option maxHeartbeats 1000000 in
theorem specPA_ok (N : Nat) (w : World) (hN : N ≤ 9) :
    Calls Try.prog 22 #[.int .i64 N] w (ResI (prA N (N + 1)) 0 w) := by
  obtain ⟨i0, hi, hz0, hz1, hz2⟩ := info_parts Try.info2
  go_enter Try.func22, Try.ntmps22
  go_wp2_with (go_at_call 57; refine (l01In_yes _ _ _ _ (by omega) (by omega)).mono ?_; rintro e w' ⟨rfl, rfl⟩)
  go_loopw [0, 4] (fun c v wr => ∃ j : Nat, ∃ l : List Int, j ≤ N + 1 ∧ Hid (l = prA N j) ∧ Hid (l.length = j) ∧ c = .int .i64 ((N : Int) - j) ∧ wr.ownsRow w.heap.size 2 1 v l.length (l.map (Value.int .i64)) ∧ Below w.heap.size w wr)
    (fun c _ _ => (intOf c + 1).toNat)
  case atStart => exact ⟨0, [], by omega, Lib.hid rfl, Lib.hid rfl, by simp, World.ownsRow_lit w #[] 0 (Nat.le_refl _) (by decide) rfl, (Below.refl _ _).alloc (Nat.le_refl _) _⟩
  case round =>
    obtain ⟨j, l, hj, hl, hll, rfl, hown, hbel⟩ := hrel
    have hsz := hbel.size
    by_cases hlt : j < N + 1
    · have hc : (0 : Int) ≤ (N : Int) - j := by omega
      have HLL := hll
      have HLN : Hid (l ++ [(N : Int) + 1 - (j : Int)] = prA N (j + 1)) := Lib.hid (by rw [hl.out]; exact prA_succ _ _)
      go_wp2_with (at_builtin; refine wpList_append_own _ rfl _ _ 22 rfl w.heap.size 2 i0 (.int .i64 0) 1 8 Try.underlying22 hi hz0 hz1 hz2 rfl (by decide) _ _ _ rfl (hown.alloc _) ⟨wr.heap.size, 0, none⟩ 1 1 [.int .i64 ((N : Int) - j + 1)] rfl rfl ?c1 ?c2 ?c3 ?c4 ?c5 ?_)
      case c1 =>
        intro j' u hj'
        match j', hj' with
        | 0, hj' => simp at hj'; subst hj'; simp [Addr.add]
      case c2 => intro u hu; simp at hu; subst hu; rfl
      case c3 => have := hll.out; unfold maxLen; omega
      case c4 => have := hll.out; omega
      case c5 => have := hll.out; simp; omega
      intro v' w1 hown' hgrow _
      have hb' : Below w.heap.size w w1 := (hbel.alloc hsz _).grown hgrow (by simp; omega) (fun k hk => (hown.lt k hk).1)
      clear hgrow hbel hown
      go_wp2
      go_roundw
      case rel => exact ⟨j + 1, l ++ [(N : Int) - j + 1], by omega, Lib.hid (by rw [← HLN.out]; congr 2; omega), Lib.hid (by have := hll.out; simp; omega), by go_num, by simpa using hown', hb'⟩
      case measure => simp [intOf]; omega
    · have hc : ¬ (0 : Int) ≤ (N : Int) - j := by omega
      have e : Hid (l = prA N (N + 1)) := Lib.hid (by rw [hl.out]; congr 1; omega)
      clear hll hl
      go_wp2
      go_ret2
      exact ⟨_, rfl, e.out ▸ hown, hbel⟩
theorem specPA_no (n : Int) (w : World) (h : ¬ (0 ≤ n ∧ n ≤ 9)) : Calls Try.prog 22 #[.int .i64 n] w (ResI [] 2 w) := by
  go_enter Try.func22, Try.ntmps22
  go_wp2_with (go_at_call 57; refine (l01In_no _ _ _ _ (by omega)).mono ?_; rintro e w' ⟨rfl, rfl⟩)
  go_ret2
  exact ⟨_, rfl, World.ownsRow_nil _ _ _ _, Below.refl _ _⟩

set_option maxHeartbeats 1000000 in
theorem implPA_ok (N : Nat) (w : World) (hN : N ≤ 9) :
    Calls Try.prog 23 #[.int .i64 N] w (ResI (prA N (N + 1)) 0 w) := by
  obtain ⟨i0, hi, hz0, hz1, hz2⟩ := info_parts Try.info2
  have g1 : ¬ (N : Int) < 0 := by omega
  have g2 : ¬ (9 : Int) < (N : Int) := by omega
  go_enter Try.func23, Try.ntmps23
  go_wp2
  go_loopw [4, 5] (fun v c wr => ∃ j : Nat, ∃ l : List Int, j ≤ N + 1 ∧ Hid (l = prA N j) ∧ Hid (l.length = j) ∧ c = .int .i64 ((N : Int) + 1 - j) ∧ wr.ownsRow w.heap.size 2 1 v l.length (l.map (Value.int .i64)) ∧ Below w.heap.size w wr)
    (fun _ c _ => (intOf c).toNat)
  case atStart => exact ⟨0, [], by omega, Lib.hid rfl, Lib.hid rfl, by go_num, World.ownsRow_nil _ _ _ _, Below.refl _ _⟩
  case round =>
    obtain ⟨j, l, hj, hl, hll, rfl, hown, hbel⟩ := hrel
    have hsz := hbel.size
    by_cases hlt : j < N + 1
    · have hc : (0 : Int) < (N : Int) + 1 - j := by omega
      have HLL := hll
      have HLN : Hid (l ++ [(N : Int) + 1 - (j : Int)] = prA N (j + 1)) := Lib.hid (by rw [hl.out]; exact prA_succ _ _)
      go_wp2_with (at_builtin; refine wpList_append_own _ rfl _ _ 22 rfl w.heap.size 2 i0 (.int .i64 0) 1 8 Try.underlying22 hi hz0 hz1 hz2 rfl (by decide) _ _ _ rfl (hown.alloc _) ⟨wr.heap.size, 0, none⟩ 1 1 [.int .i64 ((N : Int) + 1 - j)] rfl rfl ?c1 ?c2 ?c3 ?c4 ?c5 ?_)
      case c1 =>
        intro j' u hj'
        match j', hj' with
        | 0, hj' => simp at hj'; subst hj'; simp [Addr.add]
      case c2 => intro u hu; simp at hu; subst hu; rfl
      case c3 => have := hll.out; unfold maxLen; omega
      case c4 => have := hll.out; omega
      case c5 => have := hll.out; simp; omega
      intro v' w1 hown' hgrow _
      have hb' : Below w.heap.size w w1 := (hbel.alloc hsz _).grown hgrow (by simp; omega) (fun k hk => (hown.lt k hk).1)
      clear hgrow hbel hown
      go_wp2
      go_roundw
      case rel => exact ⟨j + 1, l ++ [(N : Int) + 1 - j], by omega, HLN, Lib.hid (by have := hll.out; simp; omega), by go_num, by simpa using hown', hb'⟩
      case measure => simp [intOf]; omega
    · have hc : ¬ (0 : Int) < (N : Int) + 1 - j := by omega
      have e : Hid (l = prA N (N + 1)) := Lib.hid (by rw [hl.out]; congr 1; omega)
      clear hll hl
      go_wp2
      go_ret2
      exact ⟨_, rfl, e.out ▸ hown, hbel⟩
theorem implPA_no (n : Int) (w : World) (h : ¬ (0 ≤ n ∧ n ≤ 9)) : Calls Try.prog 23 #[.int .i64 n] w (ResI [] 2 w) := by
  by_cases g1 : n < 0
  · go_enter Try.func23, Try.ntmps23
    go_wp2
    go_ret2
    exact ⟨_, rfl, World.ownsRow_nil _ _ _ _, Below.refl _ _⟩
  · have g2 : 9 < n := by omega
    go_enter Try.func23, Try.ntmps23
    go_wp2
    go_ret2
    exact ⟨_, rfl, World.ownsRow_nil _ _ _ _, Below.refl _ _⟩

theorem ProfileOfA_both (n : Int) (hw : (Lit.int .i64 n).wf = true) : ∃ (zs : List Int) (c : Int), zs.length ≤ 1048576 ∧
    (∀ w, Calls Try.prog 22 #[.int .i64 n] w (ResI zs c w)) ∧ (∀ w, Calls Try.prog 23 #[.int .i64 n] w (ResI zs c w)) := by
  by_cases h : 0 ≤ n ∧ n ≤ 9
  · obtain ⟨N, rfl⟩ := Int.eq_ofNat_of_zero_le h.1
    exact ⟨_, 0, by rw [prA_len]; omega, fun w => specPA_ok N w (by omega), fun w => implPA_ok N w (by omega)⟩
  · exact ⟨[], 2, by decide, fun w => specPA_no n w h, fun w => implPA_no n w h⟩
end Go.Proofs.Ytcbfcpngpnlodaa
