/-
  Joined: WSpecPart.
-/
import Derived.Test.YtcbfcpngpnlodaaZsisOfProfile32
import Derived.Test.YtcbfcpngpnlodaaZsisOfProfile24
import Derived.Test.YtcbfcpngpnlodaaZsisOfProfile26
section
namespace Go.Proofs.Ytcbfcpngpnlodaa
open Go.RowKit
set_option maxRecDepth 100000
set_option linter.unusedVariables false

theorem own_shape {w : World} {B n : Nat} {v : Value} {xs : List Value} {e : TypeId} {s : Nat} (h : w.ownsRow B e s v n xs) (hn : v ≠ .slice none 0 0) : ∃ g cap, v = .slice (some ⟨g, 0, none⟩) n cap := by
  rcases h.2 with ⟨h1, _⟩ | ⟨g, cap, cur, h1, _⟩
  · exact absurd h1 hn
  · exact ⟨g, cap, h1⟩

/-- What the contract leaves: the lists are longer by so many; below B, and of the rows of numbers, nothing has turned. -/
def PartPost (B : Nat) (w : World) (xss : List (List Int)) (q : Option Nat) (e : Ending) (w' : World) : Prop :=
  ∃ V' VS', e = .returned V' ∧ FamL w' B V' VS' xss ∧ Below B w w' ∧ KeepI q w w'

set_option maxRecDepth 100000 in
theorem specPart_none (f : Nat) (zs : List Int) (d : Nat) (xss : List (List Int)) (B g cap : Nat) (V : Value) (VS : Nat → Value) (D : Int) (n : Nat) (w : World)
    (hD : D = (d : Int)) (hnz : n = zs.length) (h0 : 0 < d) (hp : d < sp zs.length) (hn : zs.length ≤ 7) (hF : FamL w B V VS xss) :
    Calls Try.prog 120 #[.int .i64 D, .slice (some ⟨g, 0, none⟩) n cap, V] w (PartPost B w (xss ++ parts f zs d) none) := by
  subst hD
  subst hnz
  rw [parts_none f zs d h0 hp, List.append_nil]
  have HF := Lib.hid hF
  have hnum := spike_sp_num zs.length (by omega)
  clear hF
  generalize zs.length = n at *
  generalize sp n = p at *
  have hz : ((d : Int) == 0) = false := by rw [beq_eq_false_iff_ne]; omega
  have hlt : (d : Int) < (p : Int) := by omega
  go_enter Try.func120, Try.ntmps120
  go_wp2
  go_ret
  exact ⟨V, VS, rfl, HF.out, Below.refl _ _, KeepI.refl _ _⟩

theorem next_shape {w : World} {B n : Nat} {v : Value} {xs : List Value} {e : TypeId} {s : Nat} (h : w.ownsRow B e s v n xs) (hn : 0 < n) : ∃ g cap, v = .slice (some ⟨g, 0, none⟩) n cap := by
  rcases h.2 with ⟨_, h1⟩ | ⟨g, cap, cur, h1, _⟩
  · omega
  · exact ⟨g, cap, h1⟩

set_option maxHeartbeats 400000 in
set_option maxRecDepth 100000 in
theorem specPart_any (f : Nat) : ∀ (zs : List Int) (d : Nat) (xss : List (List Int)) (B B' g cap : Nat) (V : Value) (VS : Nat → Value) (D : Int) (n : Nat) (w : World),
    D = (d : Int) → n = zs.length → 0 < d → d ≤ 40 → d < sp (zs.length + f) → zs.length + f ≤ 7 → xss.length + 41 ^ f ≤ 200000000000 →
    w.ownsRow B' 2 1 (.slice (some ⟨g, 0, none⟩) n cap) n (zs.map (Value.int .i64)) → FamL w B V VS xss → B ≤ w.heap.size →
    Calls Try.prog 120 #[.int .i64 D, .slice (some ⟨g, 0, none⟩) n cap, V] w (PartPost B w (xss ++ parts f zs d) none) := by
  induction f with
  | zero =>
    intro zs d xss B B' g cap V VS D n w hD hnz h0 h40 hsp h7 hx hown hF hB
    exact specPart_none 0 zs d xss B g cap V VS D n w hD hnz h0 hsp (by omega) hF
  | succ f ih =>
    intro zs d xss B B' g cap V VS D n w hD hnz h0 h40 hsp h7 hx hown hF hB
    by_cases hp : d < sp zs.length
    · exact specPart_none (f + 1) zs d xss B g cap V VS D n w hD hnz h0 hp (by omega) hF
    · subst hD
      obtain ⟨i0, hi, hz0, hz1, hz2⟩ := info_parts Try.info2
      obtain ⟨i1, hj, hy0, hy1, hy2⟩ := info_parts Try.infoS
      rw [parts_succ f zs d h0]
      have hnum := spike_sp_num n (by omega)
      have hpp := sp_pos n
      have hsn : sp n = sp zs.length := by rw [hnz]
      rw [hsn] at hnum hpp
      clear hsn
      have IH := Lib.hid ih
      have HF := Lib.hid hF
      have HO := Lib.hid hown
      have HN := Lib.hid hnz
      have HX := Lib.hid hx
      have HS := Lib.hid hsp
      have hn7 : n ≤ 6 := by omega
      have h7n : n + f + 1 ≤ 7 := by omega
      have hPT : Hid (∀ j, partsTo f zs d (j + 1) = partsTo f zs d j ++ parts f (zs ++ [(j : Int)]) (d - j * sp zs.length)) := Lib.hid (partsTo_succ f zs d)
      generalize hpe : sp zs.length = p at *
      have HP := Lib.hid hpe
      clear ih hF hown hnz hx hsp hpe
      have hz : ((d : Int) == 0) = false := by rw [beq_eq_false_iff_ne]; omega
      have hlt : ¬ (d : Int) < (p : Int) := fun e => hp (Int.ofNat_lt.1 e)
      go_enter Try.func120, Try.ntmps120
      go_wp2
      clear hnum
      go_loopw [2, 8, 9] (fun a b _ wr => ∃ (j : Nat) (V' : Value) (VS' : Nat → Value), j ≤ cnt d p ∧ j ≤ 41 ∧ b = .int .i64 j ∧ a = V' ∧ Hid (FamL wr B V' VS' (xss ++ partsTo f zs d j)) ∧ Hid (Below B w wr) ∧ Hid (KeepI none w wr)) (fun _ b _ _ => 42 - (intOf b).toNat)
      case atStart => exact ⟨0, V, VS, Nat.zero_le _, by omega, rfl, rfl, Lib.hid (by rw [partsTo_zero, List.append_nil]; exact HF.out), Lib.hid (Below.refl _ _), Lib.hid (KeepI.refl _ _)⟩
      case round =>
        obtain ⟨j, u2, VS', hjc, hj41, rfl, rfl, hFr, hBr, hKr⟩ := hrel
        have hcl := cnt_le d p j hpp (Nat.not_lt.1 hp)
        obtain ⟨ys, hys⟩ : ∃ ys, ys = xss ++ partsTo f zs d j := ⟨_, rfl⟩
        rw [← hys] at hFr
        have HY := Lib.hid hys
        clear hys
        obtain ⟨q, hq⟩ : ∃ q, q = j * p := ⟨_, rfl⟩
        rw [← hq] at hcl
        have hqi : (j : Int) * (p : Int) = (q : Int) := by rw [hq]; simp
        have hqb : q ≤ 41 * 40 := by rw [hq]; exact Nat.mul_le_mul hj41 (by omega)
        have HQ := Lib.hid hq
        clear hq
        by_cases hle : q ≤ d
        · have hjlt : j < cnt d p := hcl.2 hle
          have hle' : (q : Int) ≤ (d : Int) := by omega
          have hj40 : j ≤ 40 := by
            have : j ≤ q := by rw [HQ.out]; exact Nat.le_mul_of_pos_right j hpp
            omega
          have hst := hKr.out.own HO.out (.inr (by simp [Value.ownBlock]))
          have OWN := Lib.hid (l01Own_any g n cap zs _ wr (by omega) hst)
          clear hst hcl
          go_wp2_with fail
          refine OWN.out.mono ?_
          rintro e w1 ⟨u, rfl, hu, hune, hb1⟩
          have HB1 := Lib.hid hb1
          have hul := (hu.lt)
          have HUL := Lib.hid hul
          have hsz1 := hb1.size
          clear hune hb1 hul OWN
          go_wp2_with (at_builtin; refine wpList_append_own _ rfl (.tmp 34) (.tmp 36) 22 rfl wr.heap.size 2 i0 (.int .i64 0) 1 8 Try.underlying22 hi hz0 hz1 hz2 rfl (by decide) _ _ _ rfl (hu.alloc _) ⟨w1.heap.size, 0, none⟩ 1 1 [.int .i64 (j : Int)] rfl rfl ?c1 ?c2 ?c3 ?c4 ?c5 ?_)
          case c1 =>
            intro j u hj
            match j, hj with
            | 0, hj => simp at hj; subst hj; simp [Addr.add]
          case c2 => intro u hu; simp at hu; subst hu; rfl
          case c3 => unfold maxLen; omega
          case c4 => omega
          case c5 => simp; omega
          intro nx w2 hnx hgrow _
          have b2 : Below wr.heap.size wr w2 := (HB1.out.alloc (by omega) _).grown hgrow (by simp; omega) (fun k hk => (HUL.out k hk).1)
          have hF2 := Lib.hid (hFr.out.below b2)
          have hzs : ((zs ++ [(j : Int)]).map (Value.int .i64)) = zs.map (Value.int .i64) ++ [.int .i64 (j : Int)] := by rw [List.map_append]; rfl
          rw [← hzs] at hnx
          have hsz2 := b2.size
          have hBw : B ≤ wr.heap.size := Nat.le_trans hB hBr.out.size
          have HB2 := Lib.hid b2
          have hlen : (zs ++ [(j : Int)]).length = n + 1 := by rw [List.length_append, ← HN.out]; rfl
          have HLEN := Lib.hid hlen
          have HNX := Lib.hid hnx
          have hxl : ys.length + 41 ^ f ≤ 200000000000 := by
            rw [HY.out]
            have h1 := partsTo_len f (41 ^ f) (parts_len f) zs d h40 j
            have h2 : j * 41 ^ f ≤ 40 * 41 ^ f := Nat.mul_le_mul_right _ hj40
            have h3 := HX.out
            rw [Nat.pow_succ] at h3
            rw [List.length_append]
            omega
          have HXL := Lib.hid hxl
          have hpos := Nat.pow_pos (n := f) (show 0 < 41 by decide)
          have hxl2 : ys.length ≤ 200000000000 := by omega
          clear hu hgrow HB1 HUL hsz1 hzs b2 hlen hxl hpos
          obtain ⟨g2, cap2, rfl⟩ := next_shape hnx (by omega)
          clear hnx
          by_cases heq : q = d
          · have hb : ((q : Int) == (d : Int)) = true := by rw [beq_iff_eq]; omega
            have hce : cnt d p = j + 1 := cnt_eq d p j hpp (Nat.not_lt.1 hp) (by rw [← HQ.out]; exact heq)
            have hfin : xss ++ partsTo f zs d (cnt d p) = ys ++ [zs ++ [(j : Int)]] := by
              rw [HY.out, hce, hPT.out, ← HQ.out, heq, Nat.sub_self, parts_zero, List.append_assoc]
            have HFIN := Lib.hid hfin
            have HEQ := Lib.hid heq
            clear hce hfin heq
            go_wp2_with (at_builtin; refine wpList_append_own _ rfl (.tmp 43) (.tmp 45) 35 rfl B 22 i1 (.slice none 0 0) 1 24 Try.underlying35 hj hy0 hy1 hy2 rfl (by decide) _ _ _ rfl (hF2.out.out.alloc _) ⟨w2.heap.size, 0, none⟩ 1 1 [.slice (some ⟨g2, 0, none⟩) (n + 1) cap2] rfl rfl ?e1 ?e2 ?e3 ?e4 ?e5 ?_)
            case e1 =>
              intro j u hj
              match j, hj with
              | 0, hj => simp at hj; subst hj; simp [Addr.add]
            case e2 => intro u hu; simp at hu; subst hu; rfl
            case e3 => unfold maxLen; omega
            case e4 => omega
            case e5 => simp; omega
            intro V3 w3 hV3 hgrow3 _
            have K3 : KeepI none w2 w3 := (KeepI.below ((Below.refl _ w2).alloc (Nat.le_refl _) _) none).trans (KeepI.row (hF2.out.out.alloc _) hgrow3 none)
            have N3 := K3.own (own_base HNX.out (Nat.le_trans hB hBr.out.size)) (.inr (by simp [Value.ownBlock]))
            have F3 := FamL.push hF2.out (fun _ _ => Classical.em _) K3 hV3 N3 HLEN.out.symm
            rw [← HFIN.out] at F3
            have B3 : Below B w w3 := (hBr.out.trans (HB2.out.mono hBw)).trans (((Below.refl _ w2).alloc (by omega) _).grown hgrow3 (by simp; omega) (fun k hk => (hF2.out.out.lt k hk).1))
            have K03 : KeepI none w w3 := (hKr.out.trans (KeepI.below HB2.out none)).trans K3
            have F3 := Lib.hid F3
            have B3 := Lib.hid B3
            have K03 := Lib.hid K03
            clear hV3 hgrow3 K3 N3
            go_wp2
            go_ret
            exact ⟨V3, _, rfl, F3.out, B3.out, K03.out⟩
          · have hb : ((q : Int) == (d : Int)) = false := by rw [beq_eq_false_iff_ne]; omega
            have hsp' : d - q < sp ((zs ++ [(j : Int)]).length + f) := by
              rw [HLEN.out, show n + 1 + f = zs.length + (f + 1) by rw [← HN.out]; omega]
              exact Nat.lt_of_le_of_lt (Nat.sub_le _ _) HS.out
            have REC := Lib.hid (IH.out (zs ++ [(j : Int)]) (d - q) ys B wr.heap.size g2 cap2 u2 VS' ((d : Int) - (q : Int)) (n + 1) w2 (by omega) HLEN.out.symm (by omega) (by omega) hsp' (by rw [HLEN.out]; omega) HXL.out HNX.out hF2.out (by omega))
            clear hsp'
            go_wp2_with fail
            refine REC.out.mono ?_
            rintro e w3 ⟨V3, VS3, rfl, hF3, hB3, hK3⟩
            have hnext : ys ++ parts f (zs ++ [(j : Int)]) (d - q) = xss ++ partsTo f zs d (j + 1) := by
              rw [HY.out, hPT.out, ← HQ.out, List.append_assoc]
            rw [hnext] at hF3
            have F3 := Lib.hid hF3
            have B3 : Hid (Below B w w3) := Lib.hid ((hBr.out.trans (HB2.out.mono hBw)).trans hB3)
            have K3 : Hid (KeepI none w w3) := Lib.hid ((hKr.out.trans (KeepI.below HB2.out none)).trans hK3)
            clear hnext hF3 hB3 hK3 REC
            go_wp2
            go_roundw
            case rel => exact ⟨j + 1, V3, VS3, by omega, by omega, by go_num, rfl, F3, B3, K3⟩
            case measure => simp [intOf]; omega
        · have hle' : ¬ (q : Int) ≤ (d : Int) := by omega
          have hjc' : j = cnt d p := by
            have : ¬ j < cnt d p := fun e => hle (hcl.1 e)
            omega
          have HJ := Lib.hid hjc'
          clear hjc' hcl
          go_wp2
          go_ret
          exact ⟨_, VS', rfl, by rw [← HJ.out, ← HY.out]; exact hFr.out, hBr.out, hKr.out⟩
end Go.Proofs.Ytcbfcpngpnlodaa
end
