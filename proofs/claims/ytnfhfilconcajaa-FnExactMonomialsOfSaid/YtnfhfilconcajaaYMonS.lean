/-
  All monomials of a degree: contract of spec.l08Monomials.
-/
import Derived.Test.YtnfhfilconcajaaWSpecPart
import Derived.Test.YtnfhfilconcajaaKOwn
import Derived.Test.YtnfhfilconcajaaWPushed
namespace Go.Proofs.Ytnfhfilconcajaa
open Go.RowKit
set_option linter.unusedVariables false
set_option maxRecDepth 100000

/-- All lists that begin with zs, whose f + 1 others have the sum d. -/
def ms : Nat → Nat → List Int → List (List Int)
  | 0, d, zs => [zs ++ [(d : Int)]]
  | f + 1, d, zs => (List.range (d + 1)).flatMap fun (r : Nat) => ms f (d - r) (zs ++ [(r : Int)])
/-- The same, of the next exponent the first j numbers alone. -/
def msTo (f : Nat) (d : Nat) (zs : List Int) (j : Nat) : List (List Int) := (List.range j).flatMap fun (r : Nat) => ms f (d - r) (zs ++ [(r : Int)])
theorem msTo_zero (f d : Nat) (zs : List Int) : msTo f d zs 0 = [] := rfl
theorem msTo_succ (f d : Nat) (zs : List Int) (j : Nat) : msTo f d zs (j + 1) = msTo f d zs j ++ ms f (d - j) (zs ++ [(j : Int)]) := by
  unfold msTo
  rw [List.range_succ, List.flatMap_append]
  simp
theorem ms_succ (f d : Nat) (zs : List Int) : ms (f + 1) d zs = msTo f d zs (d + 1) := rfl
theorem msTo_len (f : Nat) (h : ∀ zs d, d ≤ 40 → (ms f d zs).length ≤ 41 ^ f) (zs : List Int) (d : Nat) (hd : d ≤ 40) (j : Nat) : (msTo f d zs j).length ≤ j * 41 ^ f := by
  induction j with
  | zero => simp [msTo_zero]
  | succ j ih =>
    rw [msTo_succ, List.length_append, Nat.succ_mul]
    have := h (zs ++ [(j : Int)]) (d - j) (by omega)
    omega
theorem ms_len (f : Nat) : ∀ (zs : List Int) (d : Nat), d ≤ 40 → (ms f d zs).length ≤ 41 ^ f := by
  induction f with
  | zero => intro zs d _; simp [ms]
  | succ f ih =>
    intro zs d hd
    rw [ms_succ, Nat.pow_succ]
    have h1 := msTo_len f ih zs d hd (d + 1)
    have h2 : (d + 1) * 41 ^ f ≤ 41 ^ f * 41 := by rw [Nat.mul_comm]; exact Nat.mul_le_mul_left _ (by omega)
    omega
theorem ms_row (f : Nat) : ∀ (zs : List Int) (d : Nat) (x : List Int), x ∈ ms f d zs → x.length = zs.length + f + 1 := by
  induction f with
  | zero =>
    intro zs d x hx
    rw [ms] at hx
    rw [List.mem_singleton.1 hx]
    simp
  | succ f ih =>
    intro zs d x hx
    rw [ms] at hx
    obtain ⟨r, _, h⟩ := List.mem_flatMap.1 hx
    have := ih _ _ _ h
    rw [List.length_append, List.length_singleton] at this
    omega

set_option maxHeartbeats 400000 in
theorem specMs_zero (zs : List Int) (d : Nat) (xss : List (List Int)) (B B' : Nat) (v V : Value) (VS : Nat → Value) (n : Nat) (w : World)
    (hnz : n = zs.length) (hn : n ≤ 10) (hx : xss.length + 1 ≤ 200000000000) (hown : w.ownsRow B' 2 1 v n (zs.map (Value.int .i64))) (hF : FamL w B V VS xss) (hB : B ≤ w.heap.size) :
    Calls Try.prog 101 #[.int .i64 1, .int .i64 (d : Int), v, V] w (PartPost B w (xss ++ ms 0 d zs) none) := by
  obtain ⟨i0, hi, hz0, hz1, hz2⟩ := info_parts Try.info2
  obtain ⟨i1, hj, hy0, hy1, hy2⟩ := info_parts Try.infoS
  have HF := Lib.hid hF
  have HN := Lib.hid hnz
  subst hnz
  have OWN := Lib.hid (ownAny v zs B' w (by omega) hown)
  clear hF hown
  go_enter Try.func101, Try.ntmps101
  go_wp2_with fail
  refine OWN.out.mono ?_
  rintro e w1 ⟨u, rfl, hu, hb1⟩
  have HB1 := Lib.hid hb1
  have HUL := Lib.hid hu.lt
  have hsz1 := hb1.size
  clear hb1 OWN
  go_wp2_with (at_builtin; refine wpList_append_own _ rfl (.tmp 14) (.tmp 16) 53 rfl w.heap.size 2 i0 (.int .i64 0) 1 8 Try.underlying53 hi hz0 hz1 hz2 rfl (by decide) _ _ _ rfl (hu.alloc _) ⟨w1.heap.size, 0, none⟩ 1 1 [.int .i64 (d : Int)] rfl rfl (cell_one_new _ _ _) ?c2 ?c3 ?c4 ?c5 ?_)
  case c2 => intro u hu; simp at hu; subst hu; rfl
  case c3 => unfold maxLen; omega
  case c4 => omega
  case c5 => simp; omega
  intro nx w2 hnx hgrow _
  have b2 : Below w.heap.size w w2 := (HB1.out.alloc (by omega) _).grown hgrow (by simp; omega) (fun k hk => (HUL.out k hk).1)
  have hF2 := Lib.hid (HF.out.below b2)
  rw [← map_snoc] at hnx
  have hsz2 := b2.size
  have HB2 := Lib.hid b2
  have HNX := Lib.hid hnx
  obtain ⟨g2, cap2, rfl⟩ := next_shape hnx (by omega)
  clear hu hgrow HB1 HUL hsz1 b2 hnx
  go_wp2_with (at_builtin; refine wpList_append_own _ rfl (.tmp 12) (.tmp 18) 22 rfl B 53 i1 (.slice none 0 0) 1 24 Try.underlying22 hj hy0 hy1 hy2 rfl (by decide) _ _ _ rfl (hF2.out.out.alloc _) ⟨w2.heap.size, 0, none⟩ 1 1 [.slice (some ⟨g2, 0, none⟩) (zs.length + 1) cap2] rfl rfl (cell_one_new _ _ _) ?e2 ?e3 ?e4 ?e5 ?_)
  case e2 => intro u hu; simp at hu; subst hu; rfl
  case e3 => unfold maxLen; omega
  case e4 => omega
  case e5 => simp; omega
  intro V3 w3 hV3 hgrow3 _
  have K3 : KeepI none w2 w3 := (KeepI.below ((Below.refl _ w2).alloc (Nat.le_refl _) _) none).trans (KeepI.row (hF2.out.out.alloc _) hgrow3 none)
  have N3 := K3.own (own_base HNX.out hB) (.inr (by simp [Value.ownBlock]))
  have F3 := FamL.push hF2.out (fun _ _ => Classical.em _) K3 hV3 N3 (by simp)
  have B3 : Below B w w3 := (HB2.out.mono hB).trans (((Below.refl _ w2).alloc (by omega) _).grown hgrow3 (by simp; omega) (fun k hk => (hF2.out.out.lt k hk).1))
  have K03 : KeepI none w w3 := (KeepI.below HB2.out none).trans K3
  have F3 := Lib.hid F3
  have B3 := Lib.hid B3
  have K03 := Lib.hid K03
  clear hV3 hgrow3 K3 N3
  go_wp2
  go_ret
  exact ⟨V3, _, rfl, F3.out, B3.out, K03.out⟩

set_option maxHeartbeats 400000 in
theorem specMs_any (f : Nat) : ∀ (zs : List Int) (d : Nat) (xss : List (List Int)) (B B' : Nat) (v V : Value) (VS : Nat → Value) (K D : Int) (n : Nat) (w : World),
    K = (f : Int) + 1 → D = (d : Int) → n = zs.length → d ≤ 40 → n + f ≤ 7 → xss.length + 41 ^ f ≤ 200000000000 →
    w.ownsRow B' 2 1 v n (zs.map (Value.int .i64)) → FamL w B V VS xss → B ≤ w.heap.size →
    Calls Try.prog 101 #[.int .i64 K, .int .i64 D, v, V] w (PartPost B w (xss ++ ms f d zs) none) := by
  induction f with
  | zero =>
    intro zs d xss B B' v V VS K D n w hK hD hnz h40 h7 hx hown hF hB
    subst hK hD
    exact specMs_zero zs d xss B B' v V VS n w hnz (by omega) (by omega) hown hF hB
  | succ f ih =>
    intro zs d xss B B' v V VS K D n w hK hD hnz h40 h7 hx hown hF hB
    subst hD
    obtain ⟨i0, hi, hz0, hz1, hz2⟩ := info_parts Try.info2
    rw [ms_succ]
    have IH := Lib.hid ih
    have HF := Lib.hid hF
    have HO := Lib.hid hown
    have HN := Lib.hid hnz
    have HX := Lib.hid hx
    have HK := Lib.hid hK
    have hn6 : n ≤ 6 := by omega
    have hK2 : 2 ≤ K ∧ K ≤ 8 := by omega
    have hz : (K == 1) = false := by rw [beq_eq_false_iff_ne]; omega
    have hPT : Hid (∀ j, msTo f d zs (j + 1) = msTo f d zs j ++ ms f (d - j) (zs ++ [(j : Int)])) := Lib.hid (msTo_succ f d zs)
    obtain ⟨an, an2, hbs⟩ : ∃ a c, v = .slice a n c := by
      obtain ⟨a, c, e, _⟩ := own_len HO.out
      exact ⟨a, c, e⟩
    subst hbs
    clear ih hF hown hnz hx hK
    go_enter Try.func101, Try.ntmps101
    go_wp2
    go_loopw [3, 9] (fun a b wr => ∃ (j : Nat) (V' : Value) (VS' : Nat → Value), j ≤ d + 1 ∧ b = .int .i64 j ∧ a = V' ∧ Hid (FamL wr B V' VS' (xss ++ msTo f d zs j)) ∧ Hid (Below B w wr) ∧ Hid (KeepI none w wr)) (fun _ b _ => 42 - (intOf b).toNat)
    case atStart => exact ⟨0, V, VS, by omega, rfl, rfl, Lib.hid (by rw [msTo_zero, List.append_nil]; exact HF.out), Lib.hid (Below.refl _ _), Lib.hid (KeepI.refl _ _)⟩
    case round =>
      obtain ⟨j, u3, VS', hjd, rfl, rfl, hFr, hBr, hKr⟩ := hrel
      obtain ⟨ys, hys⟩ : ∃ ys, ys = xss ++ msTo f d zs j := ⟨_, rfl⟩
      rw [← hys] at hFr
      have HY := Lib.hid hys
      clear hys
      by_cases hle : j ≤ d
      · have hle' : (j : Int) ≤ (d : Int) := by omega
        have hst := hKr.out.own HO.out (Classical.em _)
        have OWN := Lib.hid (ownAny (.slice an n an2) zs B' wr (by have := HN.out; omega) (by rw [← HN.out]; exact hst))
        clear hst
        go_wp2_with fail
        refine OWN.out.mono ?_
        rintro e w1 ⟨u, rfl, hu, hb1⟩
        rw [← HN.out] at hu
        have HB1 := Lib.hid hb1
        have HUL := Lib.hid hu.lt
        have hsz1 := hb1.size
        clear hb1 OWN
        go_wp2_with (at_builtin; refine wpList_append_own _ rfl (.tmp 31) (.tmp 33) 53 rfl wr.heap.size 2 i0 (.int .i64 0) 1 8 Try.underlying53 hi hz0 hz1 hz2 rfl (by decide) _ _ _ rfl (hu.alloc _) ⟨w1.heap.size, 0, none⟩ 1 1 [.int .i64 (j : Int)] rfl rfl (cell_one_new _ _ _) ?c2 ?c3 ?c4 ?c5 ?_)
        case c2 => intro u hu; simp at hu; subst hu; rfl
        case c3 => unfold maxLen; omega
        case c4 => omega
        case c5 => simp; omega
        intro nx w2 hnx hgrow _
        have b2 : Below wr.heap.size wr w2 := (HB1.out.alloc (by omega) _).grown hgrow (by simp; omega) (fun k hk => (HUL.out k hk).1)
        have hF2 := Lib.hid (hFr.out.below b2)
        rw [← map_snoc] at hnx
        have hsz2 := b2.size
        have hBw : B ≤ wr.heap.size := Nat.le_trans hB hBr.out.size
        have HB2 := Lib.hid b2
        have HLEN : Hid ((zs ++ [(j : Int)]).length = n + 1) := Lib.hid (by rw [List.length_append, ← HN.out]; rfl)
        have HNX := Lib.hid hnx
        have HXL : Hid (ys.length + 41 ^ f ≤ 200000000000) := Lib.hid (by
          rw [HY.out]
          have h1 := msTo_len f (ms_len f) zs d h40 j
          have h2 : j * 41 ^ f ≤ 40 * 41 ^ f := Nat.mul_le_mul_right _ (by omega)
          have h3 := HX.out
          rw [Nat.pow_succ] at h3
          rw [List.length_append]
          omega)
        have REC := Lib.hid (IH.out (zs ++ [(j : Int)]) (d - j) ys B wr.heap.size nx u3 VS' (K - 1) ((d : Int) - (j : Int)) (n + 1) w2 (by have := HK.out; omega) (by omega) HLEN.out.symm (by omega) (by omega) HXL.out HNX.out hF2.out (by omega))
        clear hu hgrow HB1 HUL hsz1 b2 hnx
        go_wp2_with fail
        refine REC.out.mono ?_
        rintro e w3 ⟨V3, VS3, rfl, hF3, hB3, hK3⟩
        have hnext : ys ++ ms f (d - j) (zs ++ [(j : Int)]) = xss ++ msTo f d zs (j + 1) := by
          rw [HY.out, hPT.out, List.append_assoc]
        rw [hnext] at hF3
        have F3 := Lib.hid hF3
        have B3 : Hid (Below B w w3) := Lib.hid ((hBr.out.trans (HB2.out.mono hBw)).trans hB3)
        have K3 : Hid (KeepI none w w3) := Lib.hid ((hKr.out.trans (KeepI.below HB2.out none)).trans hK3)
        clear hnext hF3 hB3 hK3 REC
        go_wp2
        go_roundw
        case rel => exact ⟨j + 1, V3, VS3, by omega, by go_num, rfl, F3, B3, K3⟩
        case measure => simp [intOf]; omega
      · obtain rfl : j = d + 1 := by omega
        have hle' : ¬ ((d + 1 : Nat) : Int) ≤ (d : Int) := by omega
        go_wp2
        go_ret
        exact ⟨_, VS', rfl, by rw [← HY.out]; exact hFr.out, hBr.out, hKr.out⟩
end Go.Proofs.Ytnfhfilconcajaa
