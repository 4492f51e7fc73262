/-
  Texts of elements: spec.l01List, spec.l04Text, impl.textOfNumbers; the bounds of the numbers.
-/
import Derived.Test.YtpneknipmdgbmaaDoorTxtImpl
import Derived.Test.YtpneknipmdgbmaaDoorNIsI
namespace Go.Proofs.YtpneknipmdgbmaaDoor.Ml
open Go.RowKit
set_option linter.unusedVariables false
set_option maxRecDepth 100000

/-! ### Plain -/
/-- The first k numbers of a list. -/
def numsT (l : List Int) (k : Nat) : List UInt8 := Lib.join ((List.range k).map fun j => decT (l.getD j 0)) [44]
theorem numsT_zero (l : List Int) : numsT l 0 = [] := rfl
theorem numsT_succ (l : List Int) (k : Nat) : numsT l (k + 1) = numsT l k ++ (sepT 44 k ++ decT (l.getD k 0)) := join_range _ _ _
theorem decT_len {n : Int} (h0 : 0 ≤ n) (h : n < 100) : (decT n).length ≤ 2 := dec_len (n := n.toNat) (by omega)
theorem numsT_len {l : List Int} (h : Small l) (k : Nat) (hk : k ≤ l.length) : (numsT l k).length ≤ 60 := by
  have h1 := join_range_len (fun j => decT (l.getD j 0)) 44 2 k fun i hi => decT_len (h.2 i (by omega)).1 (h.2 i (by omega)).2
  have h2 := h.1
  unfold numsT
  omega
/-- A term. -/
def termT (l : List Int) : List UInt8 := 40 :: (numsT l l.length ++ [41])
theorem termT_len {l : List Int} (h : Small l) : (termT l).length ≤ 62 := by
  have := numsT_len h l.length (Nat.le_refl _)
  unfold termT
  rw [List.length_cons, List.length_append, List.length_singleton]
  omega
/-- The first i terms. -/
def termsT (X : Nat → List Int) (i : Nat) : List UInt8 := Lib.join ((List.range i).map fun j => termT (X j)) [43]
theorem termsT_zero (X : Nat → List Int) : termsT X 0 = [] := rfl
theorem termsT_succ (X : Nat → List Int) (i : Nat) : termsT X (i + 1) = termsT X i ++ (sepT 43 i ++ termT (X i)) := join_range _ _ _
theorem termsT_len (X : Nat → List Int) (m i : Nat) (h : ∀ j, j < m → Small (X j)) (hi : i ≤ m) : (termsT X i).length ≤ i * 63 :=
  join_range_len _ _ _ _ fun j hj => termT_len (h j (by omega))
theorem termsT_ne (X : Nat → List Int) (i : Nat) (h : 0 < i) : termsT X i ≠ [] := by
  obtain ⟨k, rfl⟩ : ∃ k, i = k + 1 := ⟨i - 1, by omega⟩
  rw [termsT_succ]
  simp [termT]
def melT (X : Nat → List Int) (m : Nat) : List UInt8 := if m = 0 then [48] else termsT X m

theorem sp_small (j : Nat) (h : j < 10) : 1 ≤ sp j ∧ sp j ≤ 1023 := by
  have : j = 0 ∨ j = 1 ∨ j = 2 ∨ j = 3 ∨ j = 4 ∨ j = 5 ∨ j = 6 ∨ j = 7 ∨ j = 8 ∨ j = 9 := by omega
  rcases this with rfl | rfl | rfl | rfl | rfl | rfl | rfl | rfl | rfl | rfl <;> decide
theorem wrap_id {x : Int} (h0 : -9223372036854775808 ≤ x) (h1 : x < 9223372036854775808) : wrap64 x = x := by unfold wrap64; omega
theorem dgr_real (G : Nat → Int) : ∀ n, n ≤ 10 → okNums G n → 0 ≤ dgr G n ∧ dgr G n ≤ (n : Int) * 1023000000000000 ∧ ∀ i, i < n → G i ≤ dgr G n
  | 0, _, _ => ⟨Int.le_refl _, by simp [dgr], fun i hi => absurd hi (Nat.not_lt_zero _)⟩
  | n + 1, hn, h => by
    obtain ⟨h1, h2, h3⟩ := dgr_real G n (by omega) fun i hi => h i (by omega)
    obtain ⟨p1, p2⟩ := sp_small n (by omega)
    obtain ⟨g1, g2⟩ := h n (Nat.lt_succ_self n)
    have q1 : 0 ≤ G n * (sp n : Int) := Int.mul_nonneg g1 (by omega)
    have q2 : G n * (sp n : Int) ≤ 1000000000000 * 1023 := Int.mul_le_mul g2 (by omega) (by omega) (by omega)
    have q3 : G n ≤ G n * (sp n : Int) := by
      have := Int.mul_le_mul_of_nonneg_left (show (1 : Int) ≤ (sp n : Int) by omega) g1
      omega
    have e : dgr G (n + 1) = wrap64 (dgr G n + wrap64 (G n * (sp n : Int))) := rfl
    rw [e]
    generalize G n * (sp n : Int) = pr at q1 q2 q3
    generalize dgr G n = y at h1 h2 h3
    rw [wrap_id (x := pr) (by omega) (by omega), wrap_id (x := y + pr) (by omega) (by omega)]
    refine ⟨by omega, by omega, fun i hi => ?_⟩
    by_cases k : i = n
    · subst k; omega
    · have := h3 i (by omega); omega
theorem goodE_small {l : List Int} (h : goodE l) : Small l := by
  obtain ⟨⟨h1, _, h3⟩, h2⟩ := h
  obtain ⟨_, _, d3⟩ := dgr_real (gOf l) l.length h1 h3
  refine ⟨by omega, fun j hj => ?_⟩
  have a : l[j]?.getD 0 ≤ dgL l := d3 j hj
  have b : 0 ≤ l[j]?.getD 0 := (h3 j hj).1
  rw [List.getD_eq_getElem?_getD]
  omega

/-! ### spec.l01List with commas -/
theorem list_any (v : Value) (l : List Int) (w : World) (h : RdI w v l.length (fun j => l[j]?.getD 0)) (hs : Small l) :
    Calls Tryd.prog 42 #[v, .string ⟨#[44]⟩] w fun e w' => e = .returned (.string (S (numsT l l.length))) ∧ Below w.heap.size w w' := by
  obtain ⟨a, cap, rfl, hm, hc⟩ := h
  by_cases h0 : l.length = 0
  · rw [h0]
    clear hc
    go_enter Tryd.func42, Tryd.ntmps42
    go_wp2
    refine wp_loop_rounds 1 ?_
    rw [rounds_succ]
    go_wp2
    go_ret
    exact ⟨rfl, Below.refl _ _⟩
  · obtain ⟨b, off, rfl, hcell⟩ := hc.resolve_left h0
    have HC := Lib.hid hcell
    have HS := Lib.hid hs
    have hb : b < w.heap.size := World.block_lt_of_cell? w ⟨b, off + 0, none⟩ (hcell 0 (by omega))
    have hl20 := hs.1
    clear hc hcell hs h0
    go_enter Tryd.func42, Tryd.ntmps42
    go_wp2
    go_loopw [5, 6] (fun t c wr => ∃ k : Nat, k ≤ l.length ∧ c = .int .i64 k ∧ t = .string (S (numsT l k)) ∧ Hid (Below w.heap.size w wr)) (fun _ c _ => l.length - (intOf c).toNat)
    case atStart => exact ⟨0, by omega, rfl, rfl, Lib.hid (Below.refl _ _)⟩
    case round =>
      obtain ⟨k, hk, rfl, rfl, hB⟩ := hrel
      by_cases hlt : k < l.length
      · have hlt' : (k : Int) < (l.length : Int) := by omega
        obtain ⟨x, hx⟩ : ∃ x, l[k]?.getD 0 = x := ⟨_, rfl⟩
        have c1 : wr.cell? ⟨b, off + k, none⟩ = some (.int .i64 x) := by rw [← hx]; exact (hB.out.cell (p := ⟨b, off + k, none⟩) hb).trans (HC.out k hlt)
        have hx' : l.getD k 0 = x := by rw [List.getD_eq_getElem?_getD]; exact hx
        have hx2 := HS.out.2 k hlt
        rw [hx'] at hx2
        have D := Lib.hid fun wy => dec_any x hx2.1 hx2.2 wy
        have l2 := decT_len hx2.1 hx2.2
        have l0 := numsT_len HS.out k hk
        have z0 := S_size (numsT l k)
        have z3 := S_size (decT x)
        have T2 : S (numsT l k ++ sepT 44 k) ++ S (decT x) = S (numsT l (k + 1)) := by rw [S_app, numsT_succ, hx', List.append_assoc]
        clear hx hx' hx2
        rcases Nat.eq_zero_or_pos k with hk0 | hk0
        · have g0 : ¬ (0 : Int) < (k : Int) := by omega
          have g1 : numsT l k ++ sepT 44 k = numsT l k := by subst hk0; rfl
          rw [g1] at T2
          clear g1 hk0
          go_wp2_with fail
          refine (D.out wr).mono ?_
          rintro e w2 ⟨rfl, b2⟩
          go_wp2_with fail
          go_roundw
          case rel => exact ⟨k + 1, by omega, by go_num, rfl, Lib.hid (hB.out.trans (b2.mono hB.out.size))⟩
          case measure => simp [intOf]; omega
        · have g0 : (0 : Int) < (k : Int) := by omega
          have g1 : S (numsT l k) ++ ⟨#[44]⟩ = S (numsT l k ++ sepT 44 k) := by rw [sepT_pos 44 hk0]; exact S_app _ [44]
          have z1 := S_size (numsT l k ++ sepT 44 k)
          have z2 : (numsT l k ++ sepT 44 k).length = (numsT l k).length + 1 := by rw [sepT_pos 44 hk0, List.length_append]; rfl
          rw [z2] at z1
          clear hk0 z2
          go_wp2_with fail
          refine (D.out wr).mono ?_
          rintro e w2 ⟨rfl, b2⟩
          go_wp2_with fail
          go_roundw
          case rel => exact ⟨k + 1, by omega, by go_num, rfl, Lib.hid (hB.out.trans (b2.mono hB.out.size))⟩
          case measure => simp [intOf]; omega
      · obtain rfl : k = l.length := by omega
        go_wp2_with fail
        go_ret
        exact ⟨rfl, hB.out⟩

/-! ### spec.l04Text -/
theorem mtext_zero (V : Value) (X : Nat → List Int) (w : World) (h : RdSS w V 0 X) :
    Calls Tryd.prog 22 #[V] w fun e w' => e = .returned (.string (S (melT X 0))) ∧ Below w.heap.size w w' := by
  obtain ⟨⟨a, cap, rfl⟩, _⟩ := h
  go_enter Tryd.func22, Tryd.ntmps22
  go_wp2
  refine wp_loop_rounds 1 ?_
  rw [rounds_succ]
  go_wp2
  go_ret
  exact ⟨rfl, Below.refl _ _⟩

set_option maxHeartbeats 2000000 in
theorem mtext_some (V : Value) (m : Nat) (X : Nat → List Int) (w : World) (h : RdSS w V m X) (h0 : 0 < m) (hm : m ≤ 2000) (hX : ∀ i, i < m → Small (X i)) :
    Calls Tryd.prog 22 #[V] w fun e w' => e = .returned (.string (S (melT X m))) ∧ Below w.heap.size w w' := by
  obtain ⟨⟨a, cap, rfl⟩, hsm, VS, hc, hr⟩ := h
  obtain ⟨b, off, ⟨cap', e⟩, hcell⟩ := hc.resolve_left (by omega)
  cases e
  have HC := Lib.hid hcell
  have HR := Lib.hid hr
  have HX := Lib.hid hX
  have hb : b < w.heap.size := World.block_lt_of_cell? w ⟨b, off + 0, none⟩ (hcell 0 h0)
  have NE : Hid ((S (termsT X m)).toList.isEmpty = false) := Lib.hid (S_ne (termsT_ne X m h0))
  have ES : Hid (melT X m = termsT X m) := Lib.hid (by unfold melT; rw [if_neg (by omega)])
  clear hc hcell hr hX
  go_enter Tryd.func22, Tryd.ntmps22
  go_wp2
  go_loopw [3, 4] (fun t c wr => ∃ i : Nat, i ≤ m ∧ c = .int .i64 i ∧ t = .string (S (termsT X i)) ∧ Hid (Below w.heap.size w wr)) (fun _ c _ => m - (intOf c).toNat)
  case atStart => exact ⟨0, by omega, rfl, rfl, Lib.hid (Below.refl _ _)⟩
  case round =>
    obtain ⟨i, hi, rfl, rfl, hB⟩ := hrel
    by_cases hlt : i < m
    · have hlt' : (i : Int) < (m : Int) := by omega
      obtain ⟨vk, hvk⟩ : ∃ v, VS i = v := ⟨_, rfl⟩
      have c1 : wr.cell? ⟨b, off + i, none⟩ = some vk := by rw [← hvk]; exact (hB.out.cell (p := ⟨b, off + i, none⟩) hb).trans (HC.out i hlt)
      have RK := (HR.out i hlt).below hB.out
      rw [hvk] at RK
      have LT := Lib.hid (list_any vk (X i) wr RK (HX.out i hlt))
      have l0 : (termsT X i).length ≤ 126000 := by have := termsT_len X m i HX.out (by omega); have h3 : i * 63 ≤ 2000 * 63 := Nat.mul_le_mul_right _ (by omega); omega
      have l3 := numsT_len (HX.out i hlt) (X i).length (Nat.le_refl _)
      have TT : termsT X (i + 1) = termsT X i ++ sepT 43 i ++ [40] ++ numsT (X i) (X i).length ++ [41] := by rw [termsT_succ]; simp [termT, List.append_assoc]
      obtain ⟨P, hP⟩ : ∃ P, termsT X i ++ sepT 43 i = P := ⟨_, rfl⟩
      obtain ⟨N, hN⟩ : ∃ N, numsT (X i) (X i).length = N := ⟨_, rfl⟩
      rw [hP, hN] at TT
      rw [hN] at LT l3
      have l1 : P.length ≤ 126001 := by have := sepT_len 43 i; rw [← hP, List.length_append]; omega
      have z0 := S_size (termsT X i)
      have z1 := S_size P
      have z2 : (S (P ++ [40])).size = P.length + 1 := by rw [S_size, List.length_append]; rfl
      have z3 := S_size N
      have z4 : (S (P ++ [40] ++ N)).size = P.length + 1 + N.length := by rw [S_size, List.length_append, List.length_append]; rfl
      have T1 : S P ++ ⟨#[40]⟩ = S (P ++ [40]) := S_app _ [40]
      have T2 : S (P ++ [40]) ++ S N = S (P ++ [40] ++ N) := S_app _ _
      have T3 : S (P ++ [40] ++ N) ++ ⟨#[41]⟩ = S (termsT X (i + 1)) := by rw [TT]; exact S_app _ [41]
      obtain ⟨Q2, hQ2⟩ : ∃ Q2, P ++ [40] ++ N = Q2 := ⟨_, rfl⟩
      rw [hQ2] at z4 T2 T3
      obtain ⟨Q1, hQ1⟩ : ∃ Q1, P ++ [40] = Q1 := ⟨_, rfl⟩
      rw [hQ1] at z2 T1 T2
      clear hQ1 hQ2
      clear RK hvk hN TT
      rcases Nat.eq_zero_or_pos i with hi0 | hi0
      · have e0 : ¬ (0 : Int) < (i : Int) := by omega
        have e1 : S (termsT X i) = S P := by rw [← hP]; subst hi0; rfl
        rw [e1]
        clear e1 hi0 hP z0
        go_wp2_with fail
        refine LT.out.mono ?_
        rintro e w2 ⟨rfl, b2⟩
        go_wp2_with fail
        go_roundw
        case rel => exact ⟨i + 1, by omega, by go_num, rfl, Lib.hid (hB.out.trans (b2.mono hB.out.size))⟩
        case measure => simp [intOf]; omega
      · have e0 : (0 : Int) < (i : Int) := by omega
        have e1 : S (termsT X i) ++ ⟨#[43]⟩ = S P := by rw [← hP, sepT_pos 43 hi0]; exact S_app _ [43]
        clear hi0 hP
        go_wp2_with fail
        refine LT.out.mono ?_
        rintro e w2 ⟨rfl, b2⟩
        go_wp2_with fail
        go_roundw
        case rel => exact ⟨i + 1, by omega, by go_num, rfl, Lib.hid (hB.out.trans (b2.mono hB.out.size))⟩
        case measure => simp [intOf]; omega
    · obtain rfl : i = m := by omega
      have ne := NE.out
      go_wp2
      go_ret
      exact ⟨by rw [ES.out]; rfl, hB.out⟩
theorem mtext_any (V : Value) (m : Nat) (X : Nat → List Int) (w : World) (h : RdSS w V m X) (hm : m ≤ 2000) (hX : ∀ i, i < m → Small (X i)) :
    Calls Tryd.prog 22 #[V] w fun e w' => e = .returned (.string (S (melT X m))) ∧ Below w.heap.size w w' := by
  by_cases h0 : m = 0
  · subst h0; exact mtext_zero V X w h
  · exact mtext_some V m X w h (by omega) hm hX

/-! ### impl.textOfNumbers -/
theorem nums_any (v : Value) (l : List Int) (w : World) (h : RdI w v l.length (fun j => l[j]?.getD 0)) (hs : Small l) :
    Calls Tryd.prog 26 #[v] w fun e w' => e = .returned (.string (S (numsT l l.length))) ∧ Below w.heap.size w w' := by
  obtain ⟨i0, hi, hz0, hz1, hz2⟩ := info_parts Tryd.infoStr
  obtain ⟨a, cap, rfl, hm, hc⟩ := h
  have HC := Lib.hid hc
  have HS := Lib.hid hs
  have hl20 := hs.1
  have WT : Hid (numsT l l.length = Lib.join ((List.range l.length).map fun j => decT (l.getD j 0)) [44]) := Lib.hid rfl
  have WL := Lib.hid (numsT_len hs l.length (Nat.le_refl _))
  obtain ⟨f, hf⟩ : ∃ f : Nat → List UInt8, (fun j => decT (l.getD j 0)) = f := ⟨_, rfl⟩
  have HF : Hid (∀ j, f j = decT (l.getD j 0)) := Lib.hid fun j => by rw [← hf]
  rw [hf] at WT
  rw [WT.out] at WL ⊢
  generalize hn : l.length = n at *
  clear hf hc hs WT hm
  go_enter Tryd.func26, Tryd.ntmps26
  go_wp2_with (at_make; refine wpList_make_full _ rfl _ _ 46 rfl w.heap.size 9 i0 (.string ⟨#[]⟩) 1 Tryd.underlying46 hi hz0 hz1 .i64 .i64 (n : Int) (n : Int) n rfl rfl rfl rfl (by rw [hz2]; omega) (by unfold maxLen; omega) (Nat.le_refl _) ?_; intro w1 hown hgrow; rw [made_strs, ← strs_zero f n] at hown; have H1 := Lib.hid hown; have G1 := Lib.hid hgrow; clear hown hgrow)
  have B1 : Below w.heap.size w w1 := (Below.refl _ w).grown G1.out (Nat.le_refl _) (by intro k hk; cases hk)
  clear G1
  go_loopw [4, 5, 11] (fun _ _ c wr => ∃ j : Nat, j ≤ n ∧ c = .int .i64 j ∧ Hid (wr.ownsRow w.heap.size 9 1 (.slice (some ⟨w.heap.size, 0, none⟩) n n) n (strs f n j)) ∧ Below w.heap.size w wr) (fun _ _ c _ => n - (intOf c).toNat)
  case atStart => exact ⟨0, by omega, rfl, H1, B1⟩
  case round =>
    clear H1 B1
    obtain ⟨j, hj, rfl, ho, hbw⟩ := hrel
    by_cases hlt : j < n
    · have hlt' : (j : Int) < (n : Int) := by omega
      obtain ⟨b, off, rfl, hcell⟩ := HC.out.resolve_left (by omega)
      obtain ⟨x, hx⟩ : ∃ x, l[j]?.getD 0 = x := ⟨_, rfl⟩
      have h1 := hcell j hlt
      simp only [hx] at h1
      have c1 : wr.cell? ⟨b, off + j, none⟩ = some (.int .i64 x) := (hbw.cell (p := ⟨b, off + j, none⟩) (World.block_lt_of_cell? w _ h1)).trans h1
      have hx' : l.getD j 0 = x := by rw [List.getD_eq_getElem?_getD]; exact hx
      have hx2 := HS.out.2 j (by omega)
      rw [hx'] at hx2
      have D1 := Lib.hid (fmt_any x hx2.1 hx2.2 wr)
      rw [show decT x = f j by rw [HF.out, hx']] at D1
      have f2 := ho.out.frozenAt j
      have c2 : wr.cell? ⟨w.heap.size, j, none⟩ = some (.string (S (if j < j then f j else []))) := by rw [ho.out.cellAt j (by omega)]; exact strs_get f n j j hlt
      generalize S (if j < j then f j else []) = zz at c2
      have hst := ho.out.stored j (.string (S (f j)))
      rw [strs_set] at hst
      have HS2 := Lib.hid hst
      clear hst ho hx hx' hx2 h1 hcell
      go_wp2_with (go_at_call 47; refine D1.out.mono ?_; rintro e w' ⟨rfl, rfl⟩)
      go_roundw
      case rel => exact ⟨j + 1, by omega, by go_num, Lib.hid HS2.out.1, hbw.setCell (Nat.le_refl _) _⟩
      case measure => simp [intOf]; omega
    · obtain rfl : j = n := by omega
      have JN := Lib.hid (join_row f 44 ho.out (by omega) (by have := WL.out; omega))
      go_wp2_with fail
      refine JN.out.mono ?_
      rintro e w2 ⟨rfl, b2⟩
      go_wp2_with fail
      go_ret
      exact ⟨rfl, hbw.trans (b2.mono hbw.size)⟩
end Go.Proofs.YtpneknipmdgbmaaDoor.Ml
