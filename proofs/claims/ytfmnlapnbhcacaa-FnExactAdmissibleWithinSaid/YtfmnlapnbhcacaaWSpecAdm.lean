/-
  Contract of spec.l03Words.
-/
import Derived.Test.YtfmnlapnbhcacaaWAdmPlain
import Derived.Test.YtfmnlapnbhcacaaWPartLaw
namespace Go.Proofs.Ytfmnlapnbhcacaa
open Go.RowKit
set_option maxRecDepth 100000
set_option linter.unusedVariables false

set_option maxRecDepth 100000 in
theorem specAdmW_zero (zs : List Int) (xss : List (List Int)) (B g cap : Nat) (V : Value) (VS : Nat → Value) (M : Int) (n : Nat) (w : World)
    (hnz : n = zs.length) (hx : xss.length ≤ 2199023255552) (hown : w.ownsRow B 2 1 (.slice (some ⟨g, 0, none⟩) n cap) n (zs.map (Value.int .i64))) (hF : FamL w B V VS xss) (hB : B ≤ w.heap.size) :
    Calls Try.prog 142 #[.int .i64 0, .int .i64 M, .slice (some ⟨g, 0, none⟩) n cap, V] w (PartPost B w (xss ++ [zs]) none) := by
  obtain ⟨i1, hj, hy0, hy1, hy2⟩ := info_parts Try.infoS
  have HF := Lib.hid hF
  have HO := Lib.hid hown
  have HN := Lib.hid hnz
  clear hF hown hnz
  have E5 : Hid (B ≤ (w.alloc (.cells #[Value.slice (some ⟨g, 0, none⟩) n cap] 27)).heap.size) := Lib.hid (by simp; omega)
  go_enter Try.func142, Try.ntmps142
  go_wp2_with (at_builtin; refine wpList_append_own _ rfl (.tmp 12) (.tmp 14) 36 rfl B 27 i1 (.slice none 0 0) 1 24 Try.underlying36 hj hy0 hy1 hy2 rfl (by decide) _ _ _ rfl (HF.out.out.alloc _) ⟨w.heap.size, 0, none⟩ 1 1 [.slice (some ⟨g, 0, none⟩) n cap] rfl rfl ?e1 ?e2 ?e3 ?e4 E5.out ?_)
  case e1 =>
    intro j u hj
    match j, hj with
    | 0, hj => simp at hj; subst hj; simp [Addr.add]
  case e2 => intro u hu; simp at hu; subst hu; rfl
  case e3 => unfold maxLen; omega
  case e4 => omega
  intro V3 w3 hV3 hgrow3 _
  have K3 : KeepI none w w3 := (KeepI.below ((Below.refl _ w).alloc (Nat.le_refl _) _) none).trans (KeepI.row (HF.out.out.alloc _) hgrow3 none)
  have N3 := K3.own HO.out (Classical.em _)
  have F3 := Lib.hid (FamL.push HF.out (fun _ _ => Classical.em _) K3 hV3 N3 HN.out)
  have B3 : Hid (Below B w w3) := Lib.hid (((Below.refl _ w).alloc hB _).grown hgrow3 E5.out (fun k hk => (HF.out.out.lt k hk).1))
  have KK := Lib.hid K3
  clear hV3 hgrow3 K3 N3
  go_wp2
  go_ret
  exact ⟨V3, _, rfl, F3.out, B3.out, KK.out⟩

set_option maxHeartbeats 400000 in
set_option maxRecDepth 100000 in
theorem specAdmW_any (f : Nat) : ∀ (zs : List Int) (d most : Nat) (xss : List (List Int)) (B g cap : Nat) (V : Value) (VS : Nat → Value) (D M : Int) (n : Nat) (w : World),
    D = (d : Int) → M = (most : Int) → n = zs.length → d ≤ f → zs.length + d ≤ 40 → most ≤ 40 → xss.length + 2 ^ d ≤ 2199023255552 →
    w.ownsRow B 2 1 (.slice (some ⟨g, 0, none⟩) n cap) n (zs.map (Value.int .i64)) → FamL w B V VS xss → B ≤ w.heap.size →
    Calls Try.prog 142 #[.int .i64 D, .int .i64 M, .slice (some ⟨g, 0, none⟩) n cap, V] w (PartPost B w (xss ++ adm f zs d most) none) := by
  induction f with
  | zero =>
    intro zs d most xss B g cap V VS D M n w hD hM hnz hdf h40 hm40 hx hown hF hB
    have h0 : d = 0 := by omega
    subst h0
    subst hD
    rw [adm_zero]
    exact specAdmW_zero zs xss B g cap V VS M n w hnz (by omega) hown hF hB
  | succ f ih =>
    intro zs d most xss B g cap V VS D M n w hD hM hnz hdf h40 hm40 hx hown hF hB
    by_cases h0 : d = 0
    · subst h0
      subst hD
      rw [adm_zero]
      exact specAdmW_zero zs xss B g cap V VS M n w hnz (by omega) hown hF hB
    · subst hD
      subst hM
      obtain ⟨i0, hi, hz0, hz1, hz2⟩ := info_parts Try.info2
      rw [adm_succ f zs d most (by omega)]
      have IH := Lib.hid ih
      have HF := Lib.hid hF
      have HO := Lib.hid hown
      have HN := Lib.hid hnz
      have HX := Lib.hid hx
      have hn40 : n + d ≤ 40 := by omega
      have hPT : Hid (∀ j, admTo f zs d (j + 1) = admTo f zs d j ++ adm f (zs ++ [((j + 1 : Nat) : Int)]) (d - (j + 1)) ((j + 1) / 2)) := Lib.hid (admTo_succ f zs d)
      clear ih hF hown hnz hx
      have hz : ((d : Int) == 0) = false := by rw [beq_eq_false_iff_ne]; omega
      go_enter Try.func142, Try.ntmps142
      go_wp2
      go_loopw [3, 9] (fun a b wr => ∃ (j : Nat) (V' : Value) (VS' : Nat → Value), j ≤ min most d ∧ b = .int .i64 ((j + 1 : Nat) : Int) ∧ a = V' ∧ Hid (FamL wr B V' VS' (xss ++ admTo f zs d j)) ∧ Hid (Below B w wr) ∧ Hid (KeepI none w wr)) (fun _ b _ => 100 - (intOf b).toNat)
      case atStart => exact ⟨0, V, VS, Nat.zero_le _, rfl, rfl, Lib.hid (by rw [admTo_zero, List.append_nil]; exact HF.out), Lib.hid (Below.refl _ _), Lib.hid (KeepI.refl _ _)⟩
      case round =>
        obtain ⟨j, u3, VS', hjc, rfl, rfl, hFr, hBr, hKr⟩ := hrel
        obtain ⟨ys, hys⟩ : ∃ ys, ys = xss ++ admTo f zs d j := ⟨_, rfl⟩
        rw [← hys] at hFr
        have HY := Lib.hid hys
        clear hys
        have hm1 : min most d ≤ most := Nat.min_le_left _ _
        have hm2 : min most d ≤ d := Nat.min_le_right _ _
        have hm3 : j + 1 ≤ most → j + 1 ≤ d → j + 1 ≤ min most d := fun a b => Nat.le_min.2 ⟨a, b⟩
        have ROOM : Hid (j + 1 ≤ d → ys.length + 2 ^ (d - (j + 1)) ≤ 2199023255552) := by
          refine Lib.hid fun h => ?_
          have h1 := admTo_room f zs d j h
          have h2 := HX.out
          rw [HY.out, List.length_append]
          omega
        have hPTj := Lib.hid (hPT.out j)
        obtain ⟨p, hpe⟩ : ∃ p, p = j + 1 := ⟨_, rfl⟩
        rw [← hpe] at ROOM hPTj hm3 ⊢
        have HP := Lib.hid hpe
        have hp0 : 1 ≤ p := by omega
        clear hpe
        by_cases hle : p ≤ min most d
        · have hp1 : p ≤ most := Nat.le_trans hle (Nat.min_le_left _ _)
          have hp2 : p ≤ d := Nat.le_trans hle (Nat.min_le_right _ _)
          have hle1 : (p : Int) ≤ (most : Int) := by omega
          have hle2 : (p : Int) ≤ (d : Int) := by omega
          have hst := hKr.out.own HO.out (.inr (by simp [Value.ownBlock]))
          have OWN := Lib.hid (l01Own_any g n cap zs _ wr (by omega) hst)
          have hxl := ROOM.out hp2
          have HXL := Lib.hid hxl
          have hpos := Nat.pow_pos (n := d - p) (show 0 < 2 by decide)
          have hxl2 : ys.length ≤ 2199023255552 := by omega
          clear hst hxl hpos ROOM hm1 hm2 hm3
          go_wp2_with fail
          refine OWN.out.mono ?_
          rintro e w1 ⟨u, rfl, hu, hune, hb1⟩
          have HB1 := Lib.hid hb1
          have hul := (hu.lt)
          have HUL := Lib.hid hul
          have hsz1 := hb1.size
          clear hune hb1 hul OWN
          go_wp2_with (at_builtin; refine wpList_append_own _ rfl (.tmp 32) (.tmp 34) 27 rfl wr.heap.size 2 i0 (.int .i64 0) 1 8 Try.underlying27 hi hz0 hz1 hz2 rfl (by decide) _ _ _ rfl (hu.alloc _) ⟨w1.heap.size, 0, none⟩ 1 1 [.int .i64 (p : Int)] rfl rfl ?c1 ?c2 ?c3 ?c4 ?c5 ?_)
          case c1 =>
            intro j u hj
            match j, hj with
            | 0, hj => simp at hj; subst hj; simp [Addr.add]
          case c2 => intro u hu; simp at hu; subst hu; rfl
          case c3 => unfold maxLen; omega
          case c4 => omega
          case c5 => simp; omega
          intro nx w2 hnx hgrow _
          have b2 : Below wr.heap.size wr w2 := (HB1.out.alloc (by omega) _).grown hgrow (by simp; omega) (fun k hk => (HUL.out k hk).1)
          have hF2 := Lib.hid (hFr.out.below b2)
          have hzs : ((zs ++ [(p : Int)]).map (Value.int .i64)) = zs.map (Value.int .i64) ++ [.int .i64 (p : Int)] := by rw [List.map_append]; rfl
          rw [← hzs] at hnx
          have hsz2 := b2.size
          have hBw : B ≤ wr.heap.size := Nat.le_trans hB hBr.out.size
          have HB2 := Lib.hid b2
          have hlen : (zs ++ [(p : Int)]).length = n + 1 := by rw [List.length_append, ← HN.out]; rfl
          have HLEN := Lib.hid hlen
          obtain ⟨g2, cap2, rfl⟩ := next_shape hnx (by omega)
          have HNX := Lib.hid (own_base hnx hBw)
          clear hu hgrow HB1 HUL hsz1 hzs b2 hlen hnx
          have REC := Lib.hid (IH.out (zs ++ [(p : Int)]) (d - p) (p / 2) ys B g2 cap2 u3 VS' ((d : Int) - (p : Int)) ((p : Int) / 2) (n + 1) w2 (by omega) (by omega) HLEN.out.symm (by omega) (by rw [HLEN.out]; omega) (by omega) HXL.out HNX.out hF2.out (by omega))
          go_wp2_with fail
          refine REC.out.mono ?_
          rintro e w3 ⟨V3, VS3, rfl, hF3, hB3, hK3⟩
          have hnext : ys ++ adm f (zs ++ [(p : Int)]) (d - p) (p / 2) = xss ++ admTo f zs d p := by
            rw [HY.out, hPTj.out, List.append_assoc]
          rw [hnext] at hF3
          have F3 := Lib.hid hF3
          have B3 : Hid (Below B w w3) := Lib.hid ((hBr.out.trans (HB2.out.mono hBw)).trans hB3)
          have K3 : Hid (KeepI none w w3) := Lib.hid ((hKr.out.trans (KeepI.below HB2.out none)).trans hK3)
          clear hnext hF3 hB3 hK3 REC
          go_wp2
          go_roundw
          case rel => exact ⟨p, V3, VS3, hle, by go_num, rfl, F3, B3, K3⟩
          case measure => simp [intOf]; omega
        · have hjc' : j = min most d := by have := HP.out; omega
          have HJ := Lib.hid hjc'
          clear hjc' hm1 hm2 hm3
          by_cases hp1 : p ≤ most
          · have hp2 : ¬ p ≤ d := fun e => hle (Nat.le_min.2 ⟨hp1, e⟩)
            have hle1 : (p : Int) ≤ (most : Int) := by omega
            have hle2 : ¬ (p : Int) ≤ (d : Int) := by omega
            go_wp2
            go_ret
            exact ⟨_, VS', rfl, by rw [← HJ.out, ← HY.out]; exact hFr.out, hBr.out, hKr.out⟩
          · have hle1 : ¬ (p : Int) ≤ (most : Int) := by omega
            go_wp2
            go_ret
            exact ⟨_, VS', rfl, by rw [← HJ.out, ← HY.out]; exact hFr.out, hBr.out, hKr.out⟩
end Go.Proofs.Ytfmnlapnbhcacaa
