/-
  Joined: WImplPart.
-/
import Derived.Test.YtcbfcpngpnlodaaZsisOfProfile33
import Derived.Test.YtcbfcpngpnlodaaZsisOfProfile34
import Derived.Test.YtcbfcpngpnlodaaZsisOfProfile35
section
namespace Go.Proofs.Ytcbfcpngpnlodaa
open Go.RowKit
set_option maxRecDepth 100000
set_option linter.unusedVariables false

/-- Each of the new values is one of the old ones, or its memory is new. -/
def From (C m : Nat) (VS : Nat → Value) (m' : Nat) (VS' : Nat → Value) : Prop := ∀ i, i < m' → (∃ i0, i0 < m ∧ VS' i = VS i0) ∨ (∀ k, (VS' i).ownBlock = some k → C ≤ k)
theorem From.refl (C m : Nat) (VS : Nat → Value) : From C m VS m VS := fun i hi => .inl ⟨i, hi, rfl⟩
theorem From.trans {C C1 m m1 m2 : Nat} {VS VS1 VS2 : Nat → Value} (h : From C m VS m1 VS1) (k : From C1 m1 VS1 m2 VS2) (hc : C ≤ C1) : From C m VS m2 VS2 := fun i hi => by
  rcases k i hi with ⟨i1, h1, e1⟩ | h1
  · rcases h i1 h1 with ⟨i0, h0, e0⟩ | h0
    · exact .inl ⟨i0, h0, e1.trans e0⟩
    · exact .inr fun k hk => h0 k (by rw [← e1]; exact hk)
  · exact .inr fun k hk => Nat.le_trans hc (h1 k hk)
theorem From.apart {w : World} {B n m m' : Nat} {VS VS' : Nat → Value} {bv : Value} {xs : List Value} {e : TypeId} {s : Nat} (h : From w.heap.size m VS m' VS') (hb : w.ownsRow B e s bv n xs)
    (ho : ∀ i, i < m → (VS i).ownBlock = none ∨ (VS i).ownBlock ≠ bv.ownBlock) : ∀ i, i < m' → (VS' i).ownBlock = none ∨ (VS' i).ownBlock ≠ bv.ownBlock := fun i hi => by
  rcases h i hi with ⟨i0, h0, e0⟩ | h0
  · rw [e0]; exact ho i0 h0
  · exact apart_symm (apart_new hb h0)
theorem From.ext {C m : Nat} {VS : Nat → Value} {u : Value} (hu : ∀ k, u.ownBlock = some k → C ≤ k) : From C m VS (m + 1) (ext VS m u) := fun i hi => by
  unfold Go.Proofs.Ytcbfcpngpnlodaa.ext
  by_cases h1 : i < m
  · rw [if_pos h1]; exact .inl ⟨i, h1, rfl⟩
  · rw [if_neg h1]; exact .inr hu

/-- What the contract leaves. -/
def ImplPost (B : Nat) (w : World) (bv : Value) (n : Nat) (zs : List Int) (m : Nat) (VS : Nat → Value) (xss : List (List Int)) (e : Ending) (w' : World) : Prop :=
  ∃ V' VS', e = .returned V' ∧ FamL w' B V' VS' xss ∧ Below B w w' ∧ KeepI bv.ownBlock w w' ∧ w'.ownsRow B 2 1 bv n (zs.map (Value.int .i64)) ∧ Sep xss.length VS' ∧ From w.heap.size m VS xss.length VS'

set_option maxRecDepth 100000 in
/-- The end of the recursion: a copy of the row is appended. -/
theorem implPart_zero (zs : List Int) (xss : List (List Int)) (B : Nat) (V bv : Value) (VS : Nat → Value) (n : Nat) (w : World)
    (hnz : n = zs.length) (hn : n ≤ 1000) (hx : xss.length ≤ 200000000000) (hown : w.ownsRow B 2 1 bv n (zs.map (Value.int .i64))) (hF : FamL w B V VS xss) (hS : Sep xss.length VS) (hB : B ≤ w.heap.size) :
    Calls Try.prog 100 #[V, bv, .int .i64 0] w (ImplPost B w bv n zs xss.length VS (xss ++ [zs])) := by
  obtain ⟨i1, hj, hy0, hy1, hy2⟩ := info_parts Try.infoS
  have HF := Lib.hid hF
  have HO := Lib.hid hown
  have HS := Lib.hid hS
  have HN := Lib.hid hnz
  have CL : Calls Try.prog 89 #[bv] w fun e w' => ∃ u, e = .returned u ∧ w'.ownsRow w.heap.size 2 1 u n (zs.map (Value.int .i64)) ∧ Below w.heap.size w w' := by
    rcases hown.2 with ⟨rfl, h0⟩ | ⟨g, cap, cur, rfl, _⟩
    · refine (Clone_nil w).mono ?_
      rintro e w' ⟨rfl, rfl⟩
      refine ⟨_, rfl, ?_, Below.refl _ _⟩
      subst h0
      have hz : zs = [] := List.eq_nil_of_length_eq_zero hnz.symm
      subst hz
      exact World.ownsRow_nil _ _ _ _
    · exact (Clone_any g n cap zs B w (by omega) hown).mono fun e w' ⟨u, a, b, _, c⟩ => ⟨u, a, b, c⟩
  have HCL := Lib.hid CL
  clear hF hown hS hnz CL
  go_enter Try.func100, Try.ntmps100
  go_wp2_with fail
  refine HCL.out.mono ?_
  rintro e w1 ⟨u0, rfl, hu, hb1⟩
  obtain ⟨ua, uc, rfl, _⟩ := own_len hu
  have hF1 : FamL w1 B V VS xss := HF.out.below hb1
  have HB1 := Lib.hid hb1
  have HU := Lib.hid hu
  have hsz1 := hb1.size
  have E1 : Hid (∀ j x, [Value.slice ua n uc][j]? = some x → (w1.alloc (.cells #[Value.slice ua n uc] 22)).cell? ((⟨w1.heap.size, 0, none⟩ : Addr).add j) = some x) := Lib.hid (cell_one_new _ _ _)
  have E2 : Hid (∀ x ∈ [Value.slice ua n uc], x.oneCell' = true) := by
    refine Lib.hid fun x hx => ?_
    rw [List.mem_singleton.1 hx]
    rfl
  have E3 : Hid (xss.length + 1 ≤ maxLen) := Lib.hid (by unfold maxLen; omega)
  have E4 : Hid ((xss.length + 1) * 24 ≤ 140737488355328) := Lib.hid (by omega)
  have E5 : Hid (B ≤ (w1.alloc (.cells #[Value.slice ua n uc] 22)).heap.size) := Lib.hid (by simp; omega)
  clear hu hb1 HCL
  go_wp2_with (at_builtin; refine wpList_append_own _ rfl (.tmp 11) (.tmp 14) 35 rfl B 22 i1 (.slice none 0 0) 1 24 Try.underlying35 hj hy0 hy1 hy2 rfl (by decide) _ _ _ rfl (hF1.out.alloc _) ⟨w1.heap.size, 0, none⟩ 1 1 [.slice ua n uc] rfl rfl E1.out E2.out E3.out E4.out E5.out ?_)
  intro V3 w3 hV3 hgrow3 _
  have hnew : ∀ k, (Value.slice ua n uc).ownBlock = some k → w.heap.size ≤ k := fun k hk => (HU.out.lt k hk).1
  have K3 : KeepI none w1 w3 := (KeepI.below ((Below.refl _ w1).alloc (Nat.le_refl _) _) none).trans (KeepI.row (hF1.out.alloc _) hgrow3 none)
  have K03 : KeepI none w w3 := (KeepI.below HB1.out none).trans K3
  have N3 := K3.own (own_base HU.out hB) (Classical.em _)
  have F3 := Lib.hid (FamL.push hF1 (fun _ _ => Classical.em _) K3 hV3 N3 HN.out)
  have B3 : Hid (Below B w w3) := Lib.hid ((HB1.out.mono hB).trans (((Below.refl _ w1).alloc (by omega) _).grown hgrow3 (by simp; omega) (fun k hk => (hF1.out.lt k hk).1)))
  have O3 := Lib.hid (K03.own HO.out (Classical.em _))
  have S3 := Lib.hid (Sep.ext HS.out (fun i hi => apart_new (HF.out.inn i hi) hnew))
  have R3 := Lib.hid (From.ext (VS := VS) (m := xss.length) hnew)
  have KK := Lib.hid (K03.wide bv.ownBlock)
  clear hV3 hgrow3 K3 N3 K03 hnew hF1
  go_wp2
  go_ret
  exact ⟨V3, _, rfl, F3.out, B3.out, KK.out, O3.out, by rw [List.length_append]; exact S3.out, by rw [List.length_append]; exact R3.out⟩

theorem Pushed.fam {B n : Nat} {w w' : World} {bv v' V : Value} {zs : List Int} {x : Int} {VS : Nat → Value} {xss : List (List Int)} (h : Pushed B w w' bv v' n zs x) (hF : FamL w B V VS xss)
    (ha : ∀ i, i < xss.length → (VS i).ownBlock = none ∨ (VS i).ownBlock ≠ bv.ownBlock) : FamL w' B V VS xss :=
  FamL.keep hF ha (h.keep w' (KeepI.refl _ _)) (h.rows _ _ _ hF.out)

set_option maxRecDepth 100000 in
theorem implPart_none (f : Nat) (zs : List Int) (d : Nat) (xss : List (List Int)) (B : Nat) (V bv : Value) (VS : Nat → Value) (n : Nat) (w : World)
    (hnz : n = zs.length) (h0 : 0 < d) (hp : d < sp zs.length) (hn : n ≤ 7) (hown : w.ownsRow B 2 1 bv n (zs.map (Value.int .i64))) (hF : FamL w B V VS xss) (hS : Sep xss.length VS) :
    Calls Try.prog 100 #[V, bv, .int .i64 (d : Int)] w (ImplPost B w bv n zs xss.length VS (xss ++ parts f zs d)) := by
  rw [parts_none f zs d h0 hp, List.append_nil]
  have SPK := fun (wx : World) => spike_sp n wx (by omega)
  have hsn : sp n = sp zs.length := by rw [hnz]
  rw [hsn] at SPK
  have HF := Lib.hid hF
  have HO := Lib.hid hown
  have HS := Lib.hid hS
  generalize sp zs.length = p at *
  have SPK := Lib.hid SPK
  clear hsn hF hown hS hnz
  obtain ⟨an, an2, rfl, _⟩ := own_len HO.out
  have hz : ((d : Int) == 0) = false := by rw [beq_eq_false_iff_ne]; omega
  have hp' : ¬ (p : Int) ≤ (d : Int) := by omega
  go_enter Try.func100, Try.ntmps100
  go_wp2_with (go_at_call 77; refine (SPK.out _).mono ?_; rintro e w' ⟨rfl, rfl⟩)
  clear SPK
  refine wp_loop_rounds 1 ?_
  rw [rounds_succ]
  go_wp2
  go_ret
  exact ⟨_, VS, rfl, HF.out, Below.refl _ _, KeepI.refl _ _, HO.out, HS.out, From.refl _ _ _⟩

set_option maxHeartbeats 400000 in
set_option maxRecDepth 100000 in
theorem implPart_any (f : Nat) : ∀ (zs : List Int) (d : Nat) (xss : List (List Int)) (B : Nat) (V bv : Value) (VS : Nat → Value) (D : Int) (n : Nat) (w : World),
    D = (d : Int) → n = zs.length → d ≤ 40 → (d = 0 ∨ d < sp (zs.length + f)) → zs.length + f ≤ 7 → xss.length + 41 ^ f ≤ 200000000000 →
    w.ownsRow B 2 1 bv n (zs.map (Value.int .i64)) → FamL w B V VS xss → Sep xss.length VS → (∀ i, i < xss.length → (VS i).ownBlock = none ∨ (VS i).ownBlock ≠ bv.ownBlock) → B ≤ w.heap.size →
    Calls Try.prog 100 #[V, bv, .int .i64 D] w (ImplPost B w bv n zs xss.length VS (xss ++ parts f zs d)) := by
  induction f with
  | zero =>
    intro zs d xss B V bv VS D n w hD hnz h40 hsp h7 hx hown hF hS hA hB
    subst hD
    by_cases h0 : d = 0
    · subst h0
      rw [parts_zero]
      exact implPart_zero zs xss B V bv VS n w hnz (by omega) (by omega) hown hF hS hB
    · exact implPart_none 0 zs d xss B V bv VS n w hnz (by omega) (hsp.resolve_left h0) (by omega) hown hF hS
  | succ f ih =>
    intro zs d xss B V bv VS D n w hD hnz h40 hsp h7 hx hown hF hS hA hB
    by_cases h0 : d = 0
    · subst h0
      subst hD
      rw [parts_zero]
      exact implPart_zero zs xss B V bv VS n w hnz (by omega) (by have := Nat.pow_pos (n := f + 1) (show 0 < 41 by decide); omega) hown hF hS hB
    · subst hD
      have hsp := hsp.resolve_left h0
      rw [parts_succ f zs d (by omega)]
      have hpp := sp_pos n
      have SPK := fun (wx : World) => spike_sp n wx (by omega)
      have hsn : sp n = sp zs.length := by rw [hnz]
      rw [hsn] at hpp SPK
      clear hsn
      have IH := Lib.hid ih
      have HF := Lib.hid hF
      have HO := Lib.hid hown
      have HN := Lib.hid hnz
      have HX := Lib.hid hx
      have HS := Lib.hid hsp
      have HSEP := Lib.hid hS
      have HA := Lib.hid hA
      have hn7 : n ≤ 6 := by omega
      have h7n : n + f + 1 ≤ 7 := by omega
      have hPT : Hid (∀ j, partsTo f zs d (j + 1) = partsTo f zs d j ++ parts f (zs ++ [(j : Int)]) (d - j * sp zs.length)) := Lib.hid (partsTo_succ f zs d)
      generalize hpe : sp zs.length = p at *
      have HP := Lib.hid hpe
      have SPK := Lib.hid SPK
      clear ih hF hown hnz hx hsp hpe hS hA
      obtain ⟨an, an2, hbs⟩ : ∃ a c, bv = .slice a n c := by
        obtain ⟨a, c, e, _⟩ := own_len HO.out
        exact ⟨a, c, e⟩
      have HBS := Lib.hid hbs
      have hz : ((d : Int) == 0) = false := by rw [beq_eq_false_iff_ne]; omega
      subst hbs
      go_enter Try.func100, Try.ntmps100
      go_wp2_with (go_at_call 77; refine (SPK.out _).mono ?_; rintro e w' ⟨rfl, rfl⟩)
      clear SPK
      go_loopw [0, 8] (fun a b wr => ∃ (j : Nat) (V' : Value) (VS' : Nat → Value), j ≤ cnt d p ∧ j ≤ 41 ∧ b = .int .i64 j ∧ a = V' ∧ Hid (FamL wr B V' VS' (xss ++ partsTo f zs d j)) ∧ Hid (Below B w wr) ∧ Hid (KeepI (Value.slice an n an2).ownBlock w wr) ∧ Hid (wr.ownsRow B 2 1 (.slice an n an2) n (zs.map (Value.int .i64))) ∧ Hid (Sep (xss ++ partsTo f zs d j).length VS') ∧ Hid (From w.heap.size xss.length VS (xss ++ partsTo f zs d j).length VS')) (fun _ b _ => 42 - (intOf b).toNat)
      case atStart => exact ⟨0, V, VS, Nat.zero_le _, by omega, rfl, rfl, Lib.hid (by rw [partsTo_zero, List.append_nil]; exact HF.out), Lib.hid (Below.refl _ _), Lib.hid (KeepI.refl _ _), HO, Lib.hid (by rw [partsTo_zero, List.append_nil]; exact HSEP.out), Lib.hid (by rw [partsTo_zero, List.append_nil]; exact From.refl _ _ _)⟩
      case round =>
        obtain ⟨j, u0, VS', hjc, hj41, rfl, rfl, hFr, hBr, hKr, hOr, hSr, hRr⟩ := hrel
        obtain ⟨ys, hys⟩ : ∃ ys, ys = xss ++ partsTo f zs d j := ⟨_, rfl⟩
        rw [← hys] at hFr hSr hRr
        have HY := Lib.hid hys
        clear hys
        by_cases hp : p ≤ d
        · have hcl := cnt_le d p j hpp hp
          obtain ⟨q, hq⟩ : ∃ q, q = j * p := ⟨_, rfl⟩
          rw [← hq] at hcl
          have hqi : (j : Int) * (p : Int) = (q : Int) := by rw [hq]; simp
          have hqb : q ≤ 41 * 40 := by rw [hq]; exact Nat.mul_le_mul hj41 (by omega)
          have hp' : (p : Int) ≤ (d : Int) := by omega
          have HQ := Lib.hid hq
          clear hq
          by_cases hle : q ≤ d
          · have hjlt : j < cnt d p := hcl.2 hle
            have hle' : (q : Int) ≤ (d : Int) := by omega
            have hj40 : j ≤ 40 := by
              have : j ≤ q := by rw [HQ.out]; exact Nat.le_mul_of_pos_right j hpp
              omega
            have hsz := hBr.out.size
            have OA := Lib.hid (hOr.out.alloc (.cells #[Value.int .i64 (j : Int)] 2))
            have CN : Hid (∀ i u, [Value.int .i64 (j : Int)][i]? = some u → (wr.alloc (.cells #[Value.int .i64 (j : Int)] 2)).cell? ((⟨wr.heap.size, 0, none⟩ : Addr).add i) = some u) := Lib.hid (cell_one_new _ _ _)
            have BA : Hid (B ≤ (wr.alloc (.cells #[Value.int .i64 (j : Int)] 2)).heap.size) := Lib.hid (by simp; omega)
            have hn6 : n ≤ 1000000 := by omega
            clear hcl
            go_wp2_with (at_builtin; refine wpList_append_pushed rfl (.tmp 33) (.tmp 35) rfl B n (.slice an n an2) zs (j : Int) rfl OA.out ⟨wr.heap.size, 0, none⟩ 1 rfl CN.out BA.out hn6 ?_)
            intro v1 w2 hP
            have HP2 := Lib.hid hP
            clear hP OA CN BA
            have aB : Below wr.heap.size wr (wr.alloc (.cells #[Value.int .i64 (j : Int)] 2)) := (Below.refl _ wr).alloc (Nat.le_refl _) _
            have FA : FamL (wr.alloc (.cells #[Value.int .i64 (j : Int)] 2)) B u0 VS' ys := hFr.out.below aB
            have hAp := From.apart hRr.out HO.out HA.out
            have F2 := Lib.hid (HP2.out.fam FA hAp)
            have A2 : Hid (∀ i, i < ys.length → (VS' i).ownBlock = none ∨ (VS' i).ownBlock ≠ v1.ownBlock) := Lib.hid (fun i hi => HP2.out.apart _ _ _ (FA.inn i hi) (hAp i hi))
            have B2 : Hid (Below B w w2) := Lib.hid ((hBr.out.trans (aB.mono (by omega))).trans HP2.out.below)
            have hlen : (zs ++ [(j : Int)]).length = n + 1 := by rw [List.length_append, ← HN.out]; rfl
            have HLEN := Lib.hid hlen
            have hxl : ys.length + 41 ^ f ≤ 200000000000 := by
              rw [HY.out]
              have h1 := partsTo_len f (41 ^ f) (parts_len f) zs d h40 j
              have h2 : j * 41 ^ f ≤ 40 * 41 ^ f := Nat.mul_le_mul_right _ hj40
              have h3 := HX.out
              rw [Nat.pow_succ] at h3
              rw [List.length_append]
              omega
            have HXL := Lib.hid hxl
            have hsp' : d - q = 0 ∨ d - q < sp ((zs ++ [(j : Int)]).length + f) := by
              refine .inr ?_
              rw [HLEN.out, show n + 1 + f = zs.length + (f + 1) by rw [← HN.out]; omega]
              exact Nat.lt_of_le_of_lt (Nat.sub_le _ _) HS.out
            have hBw2 : B ≤ w2.heap.size := Nat.le_trans hB B2.out.size
            have REC := Lib.hid (IH.out (zs ++ [(j : Int)]) (d - q) ys B u0 v1 VS' ((d : Int) - (q : Int)) (n + 1) w2 (by omega) HLEN.out.symm (by omega) hsp' (by rw [HLEN.out]; omega) HXL.out HP2.out.own F2.out hSr.out A2.out hBw2)
            clear hsp' hlen hxl FA hAp
            go_wp2_with fail
            refine REC.out.mono ?_
            rintro e w3 ⟨V3, VS3, rfl, hF3, hB3, hK3, hO3, hS3, hR3⟩
            have hnext : ys ++ parts f (zs ++ [(j : Int)]) (d - q) = xss ++ partsTo f zs d (j + 1) := by
              rw [HY.out, hPT.out, ← HQ.out, List.append_assoc]
            rw [hnext] at hF3 hS3 hR3
            have F3 := Lib.hid hF3
            have B3 : Hid (Below B w w3) := Lib.hid (B2.out.trans hB3)
            have K3 : Hid (KeepI (Value.slice an n an2).ownBlock w w3) := Lib.hid ((hKr.out.trans (KeepI.below aB _)).trans (HP2.out.keep w3 hK3))
            have O3 : Hid (w3.ownsRow B 2 1 (.slice an n an2) n (zs.map (Value.int .i64))) := Lib.hid (HP2.out.back w3 hK3 hO3)
            have S3 := Lib.hid hS3
            have R3 : Hid (From w.heap.size xss.length VS (xss ++ partsTo f zs d (j + 1)).length VS3) := Lib.hid (hRr.out.trans hR3 B2.out.size)
            clear hnext hF3 hB3 hK3 hO3 hS3 hR3 REC aB
            go_wp2
            go_roundw
            case rel => exact ⟨j + 1, V3, VS3, by omega, by omega, by go_num, rfl, F3, B3, K3, O3, S3, R3⟩
            case measure => simp [intOf]; omega
          · have hle' : ¬ (q : Int) ≤ (d : Int) := by omega
            have hjc' : j = cnt d p := by
              have : ¬ j < cnt d p := fun e => hle (hcl.1 e)
              omega
            have HJ := Lib.hid hjc'
            clear hjc' hcl
            go_wp2
            go_ret
            exact ⟨_, VS', rfl, by rw [← HJ.out, ← HY.out]; exact hFr.out, hBr.out, hKr.out, hOr.out, by rw [← HJ.out, ← HY.out]; exact hSr.out, by rw [← HJ.out, ← HY.out]; exact hRr.out⟩
        · have hp' : ¬ (p : Int) ≤ (d : Int) := by omega
          have hc0 : cnt d p = 0 := by unfold cnt; rw [if_neg hp]
          have hjc' : j = cnt d p := by omega
          have HJ := Lib.hid hjc'
          clear hjc' hc0
          go_wp2
          go_ret
          exact ⟨_, VS', rfl, by rw [← HJ.out, ← HY.out]; exact hFr.out, hBr.out, hKr.out, hOr.out, by rw [← HJ.out, ← HY.out]; exact hSr.out, by rw [← HJ.out, ← HY.out]; exact hRr.out⟩
end Go.Proofs.Ytcbfcpngpnlodaa
end
