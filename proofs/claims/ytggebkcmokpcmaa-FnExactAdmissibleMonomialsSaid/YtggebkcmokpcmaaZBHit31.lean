/-
  Joined: YMonS, WOnes, WOnesIn, WImplPart.
-/
import Derived.Test.YtggebkcmokpcmaaZBHit30
import Derived.Test.YtggebkcmokpcmaaZBHit17
import Derived.Test.YtggebkcmokpcmaaRows
import Derived.Test.YtggebkcmokpcmaaZBHit29
import Derived.WalkLawsBesides
import Derived.WalkSpells
import Derived.Lib.Hide
import Derived.Test.YtggebkcmokpcmaaZBHit25
import Derived.Test.YtggebkcmokpcmaaZBHit05
section
namespace Go.Proofs.Ytggebkcmokpcmaa
open Go.RowKit
set_option linter.unusedVariables false
set_option maxRecDepth 100000

/-- All lists that begin with zs, whose f + 1 others have the sum d. -/
def ms : Nat → Nat → List Int → List (List Int)
  | 0, d, zs => [zs ++ [(d : Int)]]
  | f + 1, d, zs => (List.range (d + 1)).flatMap fun (r : Nat) => ms f (d - r) (zs ++ [(r : Int)])
/-- The same, of the next exponent the first j numbers alone. -/
def msTo (f : Nat) (d : Nat) (zs : List Int) (j : Nat) : List (List Int) := (List.range j).flatMap fun (r : Nat) => ms f (d - r) (zs ++ [(r : Int)])
theorem msTo_zero (f d : Nat) (zs : List Int) : msTo f d zs 0 = [] := rfl
theorem msTo_succ (f d : Nat) (zs : List Int) (j : Nat) : msTo f d zs (j + 1) = msTo f d zs j ++ ms f (d - j) (zs ++ [(j : Int)]) := by
  unfold msTo
  rw [List.range_succ, List.flatMap_append]
  simp
theorem ms_succ (f d : Nat) (zs : List Int) : ms (f + 1) d zs = msTo f d zs (d + 1) := rfl
theorem msTo_len (f : Nat) (h : ∀ zs d, d ≤ 40 → (ms f d zs).length ≤ 41 ^ f) (zs : List Int) (d : Nat) (hd : d ≤ 40) (j : Nat) : (msTo f d zs j).length ≤ j * 41 ^ f := by
  induction j with
  | zero => simp [msTo_zero]
  | succ j ih =>
    rw [msTo_succ, List.length_append, Nat.succ_mul]
    have := h (zs ++ [(j : Int)]) (d - j) (by omega)
    omega
theorem ms_len (f : Nat) : ∀ (zs : List Int) (d : Nat), d ≤ 40 → (ms f d zs).length ≤ 41 ^ f := by
  induction f with
  | zero => intro zs d _; simp [ms]
  | succ f ih =>
    intro zs d hd
    rw [ms_succ, Nat.pow_succ]
    have h1 := msTo_len f ih zs d hd (d + 1)
    have h2 : (d + 1) * 41 ^ f ≤ 41 ^ f * 41 := by rw [Nat.mul_comm]; exact Nat.mul_le_mul_left _ (by omega)
    omega
theorem ms_row (f : Nat) : ∀ (zs : List Int) (d : Nat) (x : List Int), x ∈ ms f d zs → x.length = zs.length + f + 1 := by
  induction f with
  | zero =>
    intro zs d x hx
    rw [ms] at hx
    rw [List.mem_singleton.1 hx]
    simp
  | succ f ih =>
    intro zs d x hx
    rw [ms] at hx
    obtain ⟨r, _, h⟩ := List.mem_flatMap.1 hx
    have := ih _ _ _ h
    rw [List.length_append, List.length_singleton] at this
    omega

set_option maxHeartbeats 400000 in
theorem specMs_zero (zs : List Int) (d : Nat) (xss : List (List Int)) (B B' : Nat) (v V : Value) (VS : Nat → Value) (n : Nat) (w : World)
    (hnz : n = zs.length) (hn : n ≤ 10) (hx : xss.length + 1 ≤ 200000000000) (hown : w.ownsRow B' 2 1 v n (zs.map (Value.int .i64))) (hF : FamL w B V VS xss) (hB : B ≤ w.heap.size) :
    Calls Try.prog 77 #[.int .i64 1, .int .i64 (d : Int), v, V] w (PartPost B w (xss ++ ms 0 d zs) none) := by
  obtain ⟨i0, hi, hz0, hz1, hz2⟩ := info_parts Try.info2
  obtain ⟨i1, hj, hy0, hy1, hy2⟩ := info_parts Try.infoS
  have HF := Lib.hid hF
  have HN := Lib.hid hnz
  subst hnz
  have OWN := Lib.hid (ownAny v zs B' w (by omega) hown)
  clear hF hown
  go_enter Try.func77, Try.ntmps77
  go_wp2_with fail
  refine OWN.out.mono ?_
  rintro e w1 ⟨u, rfl, hu, hb1⟩
  have HB1 := Lib.hid hb1
  have HUL := Lib.hid hu.lt
  have hsz1 := hb1.size
  clear hb1 OWN
  go_wp2_with (at_builtin; refine wpList_append_own _ rfl (.tmp 14) (.tmp 16) 42 rfl w.heap.size 2 i0 (.int .i64 0) 1 8 Try.underlying42 hi hz0 hz1 hz2 rfl (by decide) _ _ _ rfl (hu.alloc _) ⟨w1.heap.size, 0, none⟩ 1 1 [.int .i64 (d : Int)] rfl rfl (cell_one_new _ _ _) ?c2 ?c3 ?c4 ?c5 ?_)
  case c2 => intro u hu; simp at hu; subst hu; rfl
  case c3 => unfold maxLen; omega
  case c4 => omega
  case c5 => simp; omega
  intro nx w2 hnx hgrow _
  have b2 : Below w.heap.size w w2 := (HB1.out.alloc (by omega) _).grown hgrow (by simp; omega) (fun k hk => (HUL.out k hk).1)
  have hF2 := Lib.hid (HF.out.below b2)
  rw [← map_snoc] at hnx
  have hsz2 := b2.size
  have HB2 := Lib.hid b2
  have HNX := Lib.hid hnx
  obtain ⟨g2, cap2, rfl⟩ := next_shape hnx (by omega)
  clear hu hgrow HB1 HUL hsz1 b2 hnx
  go_wp2_with (at_builtin; refine wpList_append_own _ rfl (.tmp 12) (.tmp 18) 25 rfl B 42 i1 (.slice none 0 0) 1 24 Try.underlying25 hj hy0 hy1 hy2 rfl (by decide) _ _ _ rfl (hF2.out.out.alloc _) ⟨w2.heap.size, 0, none⟩ 1 1 [.slice (some ⟨g2, 0, none⟩) (zs.length + 1) cap2] rfl rfl (cell_one_new _ _ _) ?e2 ?e3 ?e4 ?e5 ?_)
  case e2 => intro u hu; simp at hu; subst hu; rfl
  case e3 => unfold maxLen; omega
  case e4 => omega
  case e5 => simp; omega
  intro V3 w3 hV3 hgrow3 _
  have K3 : KeepI none w2 w3 := (KeepI.below ((Below.refl _ w2).alloc (Nat.le_refl _) _) none).trans (KeepI.row (hF2.out.out.alloc _) hgrow3 none)
  have N3 := K3.own (own_base HNX.out hB) (.inr (by simp [Value.ownBlock]))
  have F3 := FamL.push hF2.out (fun _ _ => Classical.em _) K3 hV3 N3 (by simp)
  have B3 : Below B w w3 := (HB2.out.mono hB).trans (((Below.refl _ w2).alloc (by omega) _).grown hgrow3 (by simp; omega) (fun k hk => (hF2.out.out.lt k hk).1))
  have K03 : KeepI none w w3 := (KeepI.below HB2.out none).trans K3
  have F3 := Lib.hid F3
  have B3 := Lib.hid B3
  have K03 := Lib.hid K03
  clear hV3 hgrow3 K3 N3
  go_wp2
  go_ret
  exact ⟨V3, _, rfl, F3.out, B3.out, K03.out⟩

set_option maxHeartbeats 400000 in
theorem specMs_any (f : Nat) : ∀ (zs : List Int) (d : Nat) (xss : List (List Int)) (B B' : Nat) (v V : Value) (VS : Nat → Value) (K D : Int) (n : Nat) (w : World),
    K = (f : Int) + 1 → D = (d : Int) → n = zs.length → d ≤ 40 → n + f ≤ 7 → xss.length + 41 ^ f ≤ 200000000000 →
    w.ownsRow B' 2 1 v n (zs.map (Value.int .i64)) → FamL w B V VS xss → B ≤ w.heap.size →
    Calls Try.prog 77 #[.int .i64 K, .int .i64 D, v, V] w (PartPost B w (xss ++ ms f d zs) none) := by
  induction f with
  | zero =>
    intro zs d xss B B' v V VS K D n w hK hD hnz h40 h7 hx hown hF hB
    subst hK hD
    exact specMs_zero zs d xss B B' v V VS n w hnz (by omega) (by omega) hown hF hB
  | succ f ih =>
    intro zs d xss B B' v V VS K D n w hK hD hnz h40 h7 hx hown hF hB
    subst hD
    obtain ⟨i0, hi, hz0, hz1, hz2⟩ := info_parts Try.info2
    rw [ms_succ]
    have IH := Lib.hid ih
    have HF := Lib.hid hF
    have HO := Lib.hid hown
    have HN := Lib.hid hnz
    have HX := Lib.hid hx
    have HK := Lib.hid hK
    have hn6 : n ≤ 6 := by omega
    have hK2 : 2 ≤ K ∧ K ≤ 8 := by omega
    have hz : (K == 1) = false := by rw [beq_eq_false_iff_ne]; omega
    have hPT : Hid (∀ j, msTo f d zs (j + 1) = msTo f d zs j ++ ms f (d - j) (zs ++ [(j : Int)])) := Lib.hid (msTo_succ f d zs)
    obtain ⟨an, an2, hbs⟩ : ∃ a c, v = .slice a n c := by
      obtain ⟨a, c, e, _⟩ := own_len HO.out
      exact ⟨a, c, e⟩
    subst hbs
    clear ih hF hown hnz hx hK
    go_enter Try.func77, Try.ntmps77
    go_wp2
    go_loopw [3, 9] (fun a b wr => ∃ (j : Nat) (V' : Value) (VS' : Nat → Value), j ≤ d + 1 ∧ b = .int .i64 j ∧ a = V' ∧ Hid (FamL wr B V' VS' (xss ++ msTo f d zs j)) ∧ Hid (Below B w wr) ∧ Hid (KeepI none w wr)) (fun _ b _ => 42 - (intOf b).toNat)
    case atStart => exact ⟨0, V, VS, by omega, rfl, rfl, Lib.hid (by rw [msTo_zero, List.append_nil]; exact HF.out), Lib.hid (Below.refl _ _), Lib.hid (KeepI.refl _ _)⟩
    case round =>
      obtain ⟨j, u3, VS', hjd, rfl, rfl, hFr, hBr, hKr⟩ := hrel
      obtain ⟨ys, hys⟩ : ∃ ys, ys = xss ++ msTo f d zs j := ⟨_, rfl⟩
      rw [← hys] at hFr
      have HY := Lib.hid hys
      clear hys
      by_cases hle : j ≤ d
      · have hle' : (j : Int) ≤ (d : Int) := by omega
        have hst := hKr.out.own HO.out (Classical.em _)
        have OWN := Lib.hid (ownAny (.slice an n an2) zs B' wr (by have := HN.out; omega) (by rw [← HN.out]; exact hst))
        clear hst
        go_wp2_with fail
        refine OWN.out.mono ?_
        rintro e w1 ⟨u, rfl, hu, hb1⟩
        rw [← HN.out] at hu
        have HB1 := Lib.hid hb1
        have HUL := Lib.hid hu.lt
        have hsz1 := hb1.size
        clear hb1 OWN
        go_wp2_with (at_builtin; refine wpList_append_own _ rfl (.tmp 31) (.tmp 33) 42 rfl wr.heap.size 2 i0 (.int .i64 0) 1 8 Try.underlying42 hi hz0 hz1 hz2 rfl (by decide) _ _ _ rfl (hu.alloc _) ⟨w1.heap.size, 0, none⟩ 1 1 [.int .i64 (j : Int)] rfl rfl (cell_one_new _ _ _) ?c2 ?c3 ?c4 ?c5 ?_)
        case c2 => intro u hu; simp at hu; subst hu; rfl
        case c3 => unfold maxLen; omega
        case c4 => omega
        case c5 => simp; omega
        intro nx w2 hnx hgrow _
        have b2 : Below wr.heap.size wr w2 := (HB1.out.alloc (by omega) _).grown hgrow (by simp; omega) (fun k hk => (HUL.out k hk).1)
        have hF2 := Lib.hid (hFr.out.below b2)
        rw [← map_snoc] at hnx
        have hsz2 := b2.size
        have hBw : B ≤ wr.heap.size := Nat.le_trans hB hBr.out.size
        have HB2 := Lib.hid b2
        have HLEN : Hid ((zs ++ [(j : Int)]).length = n + 1) := Lib.hid (by rw [List.length_append, ← HN.out]; rfl)
        have HNX := Lib.hid hnx
        have HXL : Hid (ys.length + 41 ^ f ≤ 200000000000) := Lib.hid (by
          rw [HY.out]
          have h1 := msTo_len f (ms_len f) zs d h40 j
          have h2 : j * 41 ^ f ≤ 40 * 41 ^ f := Nat.mul_le_mul_right _ (by omega)
          have h3 := HX.out
          rw [Nat.pow_succ] at h3
          rw [List.length_append]
          omega)
        have REC := Lib.hid (IH.out (zs ++ [(j : Int)]) (d - j) ys B wr.heap.size nx u3 VS' (K - 1) ((d : Int) - (j : Int)) (n + 1) w2 (by have := HK.out; omega) (by omega) HLEN.out.symm (by omega) (by omega) HXL.out HNX.out hF2.out (by omega))
        clear hu hgrow HB1 HUL hsz1 b2 hnx
        go_wp2_with fail
        refine REC.out.mono ?_
        rintro e w3 ⟨V3, VS3, rfl, hF3, hB3, hK3⟩
        have hnext : ys ++ ms f (d - j) (zs ++ [(j : Int)]) = xss ++ msTo f d zs (j + 1) := by
          rw [HY.out, hPT.out, List.append_assoc]
        rw [hnext] at hF3
        have F3 := Lib.hid hF3
        have B3 : Hid (Below B w w3) := Lib.hid ((hBr.out.trans (HB2.out.mono hBw)).trans hB3)
        have K3 : Hid (KeepI none w w3) := Lib.hid ((hKr.out.trans (KeepI.below HB2.out none)).trans hK3)
        clear hnext hF3 hB3 hK3 REC
        go_wp2
        go_roundw
        case rel => exact ⟨j + 1, V3, VS3, by omega, by go_num, rfl, F3, B3, K3⟩
        case measure => simp [intOf]; omega
      · obtain rfl : j = d + 1 := by omega
        have hle' : ¬ ((d + 1 : Nat) : Int) ≤ (d : Int) := by omega
        go_wp2
        go_ret
        exact ⟨_, VS', rfl, by rw [← HY.out]; exact hFr.out, hBr.out, hKr.out⟩
end Go.Proofs.Ytggebkcmokpcmaa
end
section
namespace Go.Proofs.Ytggebkcmokpcmaa
open Go.RowKit
set_option maxRecDepth 100000
set_option linter.unusedVariables false

def oc1 (x : Int) : Int := IntKind.u64.wrap (bits .and .u64 (x / 2) 6148914691236517205 + bits .and .u64 x 6148914691236517205)
def oc2 (x : Int) : Int := IntKind.u64.wrap (bits .and .u64 (x / 4) 3689348814741910323 + bits .and .u64 x 3689348814741910323)
def oc3 (x : Int) : Int := bits .and .u64 (IntKind.u64.wrap (x / 16 + x)) 1085102592571150095
def oc4 (x : Int) : Int := IntKind.u64.wrap (x + x / 256)
def oc5 (x : Int) : Int := IntKind.u64.wrap (x + x / 65536)
def oc6 (x : Int) : Int := IntKind.u64.wrap (x + x / 4294967296)
def oc (x : Int) : Int := bits .and .i64 (wrap64 (oc6 (oc5 (oc4 (oc3 (oc2 (oc1 x))))))) 127

theorem u64_keep (n : Nat) (h : n < 18446744073709551616) : IntKind.u64.wrap (n : Int) = (n : Int) := by
  rw [IntKind.wrap_u64]; omega

theorem and_u64_lit (x c : Nat) (m : Int) (hm : m = (c : Int)) (h : x < 18446744073709551616) (hc : c < 18446744073709551616) : bits .and .u64 (x : Int) m = ((x &&& c : Nat) : Int) := by
  rw [hm]; exact bits_and_u64_nat x c h hc

theorem oc1_nat (x : Nat) (h : x < 18446744073709551616) : oc1 (x : Int) = (T1 8 x : Nat) := by
  have hb : T1 8 x < 18446744073709551616 := T1_bound 8 x
  have e : ((x : Int) / 2) = ((x / 2 : Nat) : Int) := rfl
  unfold oc1
  rw [e, and_u64_lit (x / 2) 6148914691236517205 6148914691236517205 (by omega) (by omega) (by decide), and_u64_lit x 6148914691236517205 6148914691236517205 (by omega) h (by decide), ← Int.natCast_add]
  exact u64_keep _ hb

theorem oc2_nat (x : Nat) (h : x < 18446744073709551616) (hb : T2 8 x < 18446744073709551616) : oc2 (x : Int) = (T2 8 x : Nat) := by
  have e : ((x : Int) / 4) = ((x / 4 : Nat) : Int) := rfl
  unfold oc2
  rw [e, and_u64_lit (x / 4) 3689348814741910323 3689348814741910323 (by omega) (by omega) (by decide), and_u64_lit x 3689348814741910323 3689348814741910323 (by omega) h (by decide), ← Int.natCast_add]
  exact u64_keep _ hb

theorem oc3_nat (x : Nat) (h : x ≤ 4919131752989213764) : oc3 (x : Int) = (T3 8 x : Nat) := by
  have e : ((x : Int) / 16) = ((x / 16 : Nat) : Int) := rfl
  unfold oc3
  rw [e, ← Int.natCast_add, u64_keep _ (by omega), and_u64_lit (x / 16 + x) 1085102592571150095 1085102592571150095 (by omega) (by omega) (by decide)]
  rfl

theorem oc_nat (x : Nat) (h : x < 18446744073709551616) : oc (x : Int) = (pcl 64 x : Nat) := by
  have hb1 : T1 8 x < 18446744073709551616 := T1_bound 8 x
  have hb2 : T2 8 (T1 8 x) ≤ 4919131752989213764 := swar_bound 8 x
  have hs := swar 8 x
  have e3 : oc3 (oc2 (oc1 (x : Int))) = (sums 8 x : Nat) := by
    rw [oc1_nat x h, oc2_nat _ hb1 (by omega), oc3_nat _ hb2, hs]
  have hsum : pcl 64 x = pcl 8 (x % 256) + pcl 8 (x / 256 % 256) + pcl 8 (x / 256 / 256 % 256) + pcl 8 (x / 256 / 256 / 256 % 256) + pcl 8 (x / 256 / 256 / 256 / 256 % 256) + pcl 8 (x / 256 / 256 / 256 / 256 / 256 % 256) + pcl 8 (x / 256 / 256 / 256 / 256 / 256 / 256 % 256) + pcl 8 (x / 256 / 256 / 256 / 256 / 256 / 256 / 256 % 256) := by
    have m : ∀ y, pcl 8 (y % 256) = pcl 8 y := fun y => pcl_mod 8 y
    simp only [m]
    rw [show (64 : Nat) = 8 + 56 from rfl, pcl_add 8 56, show (56 : Nat) = 8 + 48 from rfl, pcl_add 8 48, show (48 : Nat) = 8 + 40 from rfl, pcl_add 8 40, show (40 : Nat) = 8 + 32 from rfl, pcl_add 8 32,
      show (32 : Nat) = 8 + 24 from rfl, pcl_add 8 24, show (24 : Nat) = 8 + 16 from rfl, pcl_add 8 16, show (16 : Nat) = 8 + 8 from rfl, pcl_add 8 8]
    simp only [Nat.reducePow]
    omega
  have l : ∀ y, pcl 8 y ≤ 8 := pcl_le 8
  have hu : sums 8 x = pcl 8 (x % 256) + 256 * (pcl 8 (x / 256 % 256) + 256 * (pcl 8 (x / 256 / 256 % 256) + 256 * (pcl 8 (x / 256 / 256 / 256 % 256) + 256 * (pcl 8 (x / 256 / 256 / 256 / 256 % 256) + 256 * (pcl 8 (x / 256 / 256 / 256 / 256 / 256 % 256) + 256 * (pcl 8 (x / 256 / 256 / 256 / 256 / 256 / 256 % 256) + 256 * pcl 8 (x / 256 / 256 / 256 / 256 / 256 / 256 / 256 % 256))))))) := by
    simp only [sums]
    omega
  obtain ⟨v, hv⟩ : ∃ v, v = sums 8 x + sums 8 x / 256 := ⟨_, rfl⟩
  obtain ⟨w, hw⟩ : ∃ w, w = v + v / 65536 := ⟨_, rfl⟩
  obtain ⟨y, hy⟩ : ∃ y, y = w + w / 4294967296 := ⟨_, rfl⟩
  obtain ⟨r1, r2, r3, r4⟩ := fold_sum _ _ _ _ _ _ _ _ (l _) (l _) (l _) (l _) (l _) (l _) (l _) (l _) _ v w y hu hv hw hy
  have e4 : oc4 ((sums 8 x : Nat) : Int) = (v : Int) := by
    unfold oc4
    rw [show ((sums 8 x : Nat) : Int) + ((sums 8 x : Nat) : Int) / 256 = ((sums 8 x + sums 8 x / 256 : Nat) : Int) from rfl, ← hv]
    exact u64_keep _ r1
  have e5 : oc5 (v : Int) = (w : Int) := by
    unfold oc5
    rw [show (v : Int) + (v : Int) / 65536 = ((v + v / 65536 : Nat) : Int) from rfl, ← hw]
    exact u64_keep _ r2
  have e6 : oc6 (w : Int) = (y : Int) := by
    unfold oc6
    rw [show (w : Int) + (w : Int) / 4294967296 = ((w + w / 4294967296 : Nat) : Int) from rfl, ← hy]
    exact u64_keep _ (by omega)
  unfold oc
  rw [e3, e4, e5, e6, IntWalk.wrap64_in _ ⟨by omega, by omega⟩]
  rw [show (127 : Int) = ((127 : Nat) : Int) from rfl, i64_and y 127 r3 (by decide), hsum, ← r4]
  rw [show (127 : Nat) = 2 ^ 7 - 1 from rfl, Nat.and_two_pow_sub_one_eq_mod]

end Go.Proofs.Ytggebkcmokpcmaa
end
section
namespace Go.Proofs.Ytggebkcmokpcmaa
open Go.RowKit
set_option maxRecDepth 100000

end Go.Proofs.Ytggebkcmokpcmaa
end
section
namespace Go.Proofs.Ytggebkcmokpcmaa
open Go.RowKit
set_option maxRecDepth 100000
set_option linter.unusedVariables false

/-- Each of the new values is one of the old ones, or its memory is new. -/
def From (C m : Nat) (VS : Nat → Value) (m' : Nat) (VS' : Nat → Value) : Prop := ∀ i, i < m' → (∃ i0, i0 < m ∧ VS' i = VS i0) ∨ (∀ k, (VS' i).ownBlock = some k → C ≤ k)
theorem From.refl (C m : Nat) (VS : Nat → Value) : From C m VS m VS := fun i hi => .inl ⟨i, hi, rfl⟩
theorem From.trans {C C1 m m1 m2 : Nat} {VS VS1 VS2 : Nat → Value} (h : From C m VS m1 VS1) (k : From C1 m1 VS1 m2 VS2) (hc : C ≤ C1) : From C m VS m2 VS2 := fun i hi => by
  rcases k i hi with ⟨i1, h1, e1⟩ | h1
  · rcases h i1 h1 with ⟨i0, h0, e0⟩ | h0
    · exact .inl ⟨i0, h0, e1.trans e0⟩
    · exact .inr fun k hk => h0 k (by rw [← e1]; exact hk)
  · exact .inr fun k hk => Nat.le_trans hc (h1 k hk)
theorem From.apart {w : World} {B n m m' : Nat} {VS VS' : Nat → Value} {bv : Value} {xs : List Value} {e : TypeId} {s : Nat} (h : From w.heap.size m VS m' VS') (hb : w.ownsRow B e s bv n xs)
    (ho : ∀ i, i < m → (VS i).ownBlock = none ∨ (VS i).ownBlock ≠ bv.ownBlock) : ∀ i, i < m' → (VS' i).ownBlock = none ∨ (VS' i).ownBlock ≠ bv.ownBlock := fun i hi => by
  rcases h i hi with ⟨i0, h0, e0⟩ | h0
  · rw [e0]; exact ho i0 h0
  · exact apart_symm (apart_new hb h0)
theorem From.ext {C m : Nat} {VS : Nat → Value} {u : Value} (hu : ∀ k, u.ownBlock = some k → C ≤ k) : From C m VS (m + 1) (ext VS m u) := fun i hi => by
  unfold Go.Proofs.Ytggebkcmokpcmaa.ext
  by_cases h1 : i < m
  · rw [if_pos h1]; exact .inl ⟨i, h1, rfl⟩
  · rw [if_neg h1]; exact .inr hu

/-- What the contract leaves. -/
def ImplPost (B : Nat) (w : World) (bv : Value) (n : Nat) (zs : List Int) (m : Nat) (VS : Nat → Value) (xss : List (List Int)) (e : Ending) (w' : World) : Prop :=
  ∃ V' VS', e = .returned V' ∧ FamL w' B V' VS' xss ∧ Below B w w' ∧ KeepI bv.ownBlock w w' ∧ w'.ownsRow B 2 1 bv n (zs.map (Value.int .i64)) ∧ Sep xss.length VS' ∧ From w.heap.size m VS xss.length VS'

theorem Pushed.fam {B n : Nat} {w w' : World} {bv v' V : Value} {zs : List Int} {x : Int} {VS : Nat → Value} {xss : List (List Int)} (h : Pushed B w w' bv v' n zs x) (hF : FamL w B V VS xss)
    (ha : ∀ i, i < xss.length → (VS i).ownBlock = none ∨ (VS i).ownBlock ≠ bv.ownBlock) : FamL w' B V VS xss :=
  FamL.keep hF ha (h.keep w' (KeepI.refl _ _)) (h.rows _ _ _ hF.out)

end Go.Proofs.Ytggebkcmokpcmaa
end
