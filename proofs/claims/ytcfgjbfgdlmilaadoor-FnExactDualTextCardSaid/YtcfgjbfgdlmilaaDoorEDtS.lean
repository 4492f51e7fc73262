/-
  spec.l06Term, spec.l06Text, spec.DualText.
-/
import Derived.Test.YtcfgjbfgdlmilaaDoorEDtP
import Derived.Test.YtcfgjbfgdlmilaaDoorEIs
namespace Go.Proofs.YtcfgjbfgdlmilaaDoor.Dl
open Go.RowKit Go.Proofs.YtcfgjbfgdlmilaaDoor.Ml
set_option linter.unusedVariables false
set_option maxRecDepth 100000

set_option maxHeartbeats 2000000 in
theorem l06Term_any (v : Value) (l : List Int) (w : World) (h : RdI w v l.length (fun j => l[j]?.getD 0)) (hs : Small l) (hE : isE l) :
    Calls Tryd.prog 19 #[v] w fun e w' => e = .returned (.string (S (dtT l))) ∧ Below w.heap.size w w' := by
  obtain ⟨a, cap, rfl, hm, hc⟩ := h
  by_cases h0 : l.length = 0
  · rw [dtT_nil h0, h0]
    clear hc
    go_enter Tryd.func19, Tryd.ntmps19
    go_wp2
    refine wp_loop_rounds 1 ?_
    rw [rounds_succ]
    go_wp2
    go_ret
    exact ⟨rfl, Below.refl _ _⟩
  · obtain ⟨b, off, rfl, hcell⟩ := hc.resolve_left h0
    have HC := Lib.hid hcell
    have HS := Lib.hid hs
    have DT : Hid (dtT l = monoT l l.length) := Lib.hid (dtT_pos h0)
    have NEL : Hid ((S (monoT l l.length)).toList.isEmpty = false) := Lib.hid (S_ne (by rw [← DT.out]; exact dtT_ne hE))
    have hl20 := hs.1
    clear hc hcell hs hE h0
    go_enter Tryd.func19, Tryd.ntmps19
    go_wp2
    go_loopw [3, 4] (fun t c wr => ∃ k : Nat, k ≤ l.length ∧ c = .int .i64 k ∧ t = .string (S (monoT l k)) ∧ Hid (Below w.heap.size w wr)) (fun _ c _ => l.length - (intOf c).toNat)
    case atStart => exact ⟨0, by omega, rfl, rfl, Lib.hid (Below.refl _ _)⟩
    case round =>
      obtain ⟨k, hk, rfl, rfl, hB⟩ := hrel
      by_cases hlt : k < l.length
      · have hlt' : (k : Int) < (l.length : Int) := by omega
        obtain ⟨x, hx⟩ : ∃ x, l[k]?.getD 0 = x := ⟨_, rfl⟩
        have c1 : wr.cell? ⟨b, off + k, none⟩ = some (.int .i64 x) := by rw [← hx]; exact (hB.out.cell (p := ⟨b, off + k, none⟩) (World.block_lt_of_cell? w _ (HC.out k hlt))).trans (HC.out k hlt)
        have hx' : l.getD k 0 = x := by rw [List.getD_eq_getElem?_getD]; exact hx
        have hx2 := HS.out.2 k hlt
        rw [hx'] at hx2
        have l0 := monoT_len HS.out k hk
        have l00 : (monoT l k).length ≤ 140 := by omega
        have z0 := S_size (monoT l k)
        by_cases hx0 : x = 0
        · have MS : monoT l (k + 1) = monoT l k := monoT_skip (by rw [hx']; exact hx0)
          subst hx0
          clear hx hx' hx2 l0
          go_wp2_with fail
          go_roundw
          case rel => exact ⟨k + 1, by omega, by go_num, by rw [MS], hB⟩
          case measure => simp [intOf]; omega
        · have hne : (x == 0) = false := by rw [beq_eq_false_iff_ne]; exact hx0
          have D1 := Lib.hid fun wy => dec_any ((k : Int) + 1) (by omega) (by omega) wy
          have D2 := Lib.hid fun wy => dec_any x hx2.1 hx2.2 wy
          have l1 := decT_len (n := (k : Int) + 1) (by omega) (by omega)
          have l2 := decT_len hx2.1 hx2.2
          have z8 := S_size (decT ((k : Int) + 1))
          have z9 := S_size (decT x)
          by_cases hp : powsT l k = []
          · by_cases h1 : 1 < x
            · have t0 : S (monoT l k) = ⟨#[]⟩ := by rw [monoT_nil hp]; rfl
              have MN : monoT l (k + 1) = powT k x := by rw [← hx']; exact monoT_first hp (by rw [hx']; exact hx0)
              rw [t0]
              clear t0 hp
              have E9 : (⟨#[]⟩ : ByteArray) ++ ⟨#[120]⟩ ++ S (decT ((k : Int) + 1)) ++ ⟨#[94]⟩ ++ S (decT x) = S (monoT l (k + 1)) := by
                rw [MN]
                show S [] ++ S [120] ++ S _ ++ S [94] ++ S _ = _
                unfold powT
                rw [expT_yes h1]
                simp only [S_app]
                congr 1
                simp [List.append_assoc]
              clear MN
              go_wp2_with fail
              refine (D1.out wr).mono ?_
              rintro e w2 ⟨rfl, b2⟩
              have c2 := (b2.cell (p := ⟨b, off + k, none⟩) (World.block_lt_of_cell? wr _ c1)).trans c1
              have B2 := Lib.hid (hB.out.step1 b2)
              go_wp2_with fail
              refine (D2.out w2).mono ?_
              rintro e w3 ⟨rfl, b3⟩
              have B3 := Lib.hid (B2.out.step1 b3)
              clear b2 b3 c2
              go_wp2_with fail
              go_roundw
              case rel => exact ⟨k + 1, by omega, by go_num, rfl, B3⟩
              case measure => simp [intOf]; omega
            · have t0 : S (monoT l k) = ⟨#[]⟩ := by rw [monoT_nil hp]; rfl
              have MN : monoT l (k + 1) = powT k x := by rw [← hx']; exact monoT_first hp (by rw [hx']; exact hx0)
              rw [t0]
              clear t0 hp
              have E9 : (⟨#[]⟩ : ByteArray) ++ ⟨#[120]⟩ ++ S (decT ((k : Int) + 1)) = S (monoT l (k + 1)) := by
                rw [MN]
                show S [] ++ S [120] ++ S _ = _
                unfold powT
                rw [expT_no h1]
                simp only [S_app]
                congr 1
                simp
              clear MN
              go_wp2_with fail
              refine (D1.out wr).mono ?_
              rintro e w2 ⟨rfl, b2⟩
              have c2 := (b2.cell (p := ⟨b, off + k, none⟩) (World.block_lt_of_cell? wr _ c1)).trans c1
              have B2 := Lib.hid (hB.out.step1 b2)
              clear b2
              go_wp2_with fail
              go_roundw
              case rel => exact ⟨k + 1, by omega, by go_num, rfl, B2⟩
              case measure => simp [intOf]; omega
          · by_cases h1 : 1 < x
            · have NE : (S (monoT l k)).toList.isEmpty = false := S_ne (monoT_ne hp)
              have MN : monoT l (k + 1) = monoT l k ++ ([32] ++ powT k x) := by rw [← hx']; exact monoT_next hp (by rw [hx']; exact hx0)
              have T0 : S (monoT l k) ++ ⟨#[32]⟩ = S (monoT l k ++ [32]) := S_app _ [32]
              have T1 : S (monoT l k ++ [32]) ++ ⟨#[120]⟩ = S (monoT l k ++ [32] ++ [120]) := S_app _ [120]
              have T2 : S (monoT l k ++ [32] ++ [120]) ++ S (decT ((k : Int) + 1)) = S (monoT l k ++ [32] ++ [120] ++ decT ((k : Int) + 1)) := S_app _ _
              have z00 : (S (monoT l k ++ [32])).size = (monoT l k).length + 1 := by rw [S_size, List.length_append]; rfl
              have z1 : (S (monoT l k ++ [32] ++ [120])).size = (monoT l k).length + 1 + 1 := by rw [S_size, List.length_append, List.length_append]; rfl
              have z2 : (S (monoT l k ++ [32] ++ [120] ++ decT ((k : Int) + 1))).size = (monoT l k).length + 1 + 1 + (decT ((k : Int) + 1)).length := by rw [S_size, List.length_append, List.length_append, List.length_append]; rfl
              have EX : S (monoT l k ++ [32] ++ [120] ++ decT ((k : Int) + 1) ++ expT x) = S (monoT l (k + 1)) := by rw [MN]; congr 1; simp [powT, List.append_assoc]
              obtain ⟨Q2, hQ2⟩ : ∃ Q, monoT l k ++ [32] ++ [120] ++ decT ((k : Int) + 1) = Q := ⟨_, rfl⟩
              rw [hQ2] at T2 z2 EX
              obtain ⟨Q1, hQ1⟩ : ∃ Q, monoT l k ++ [32] ++ [120] = Q := ⟨_, rfl⟩
              rw [hQ1] at T1 T2 z1
              obtain ⟨Q0, hQ0⟩ : ∃ Q, monoT l k ++ [32] = Q := ⟨_, rfl⟩
              rw [hQ0] at T0 T1 z00
              clear MN hp hQ2 hQ1 hQ0
              rw [expT_yes h1] at EX
              have T3 : S Q2 ++ ⟨#[94]⟩ = S (Q2 ++ [94]) := S_app _ [94]
              have T4 : S (Q2 ++ [94]) ++ S (decT x) = S (monoT l (k + 1)) := by rw [S_app, ← EX, List.append_assoc]
              have z3 : (S (Q2 ++ [94])).size = (S Q2).size + 1 := by rw [S_size, S_size, List.length_append]; rfl
              obtain ⟨Q3, hQ3⟩ : ∃ Q, Q2 ++ [94] = Q := ⟨_, rfl⟩
              rw [hQ3] at T3 T4 z3
              clear EX hQ3
              go_wp2_with fail
              refine (D1.out wr).mono ?_
              rintro e w2 ⟨rfl, b2⟩
              have c2 := (b2.cell (p := ⟨b, off + k, none⟩) (World.block_lt_of_cell? wr _ c1)).trans c1
              have B2 := Lib.hid (hB.out.step1 b2)
              go_wp2_with fail
              refine (D2.out w2).mono ?_
              rintro e w3 ⟨rfl, b3⟩
              have B3 := Lib.hid (B2.out.step1 b3)
              clear b2 b3 c2
              go_wp2_with fail
              go_roundw
              case rel => exact ⟨k + 1, by omega, by go_num, rfl, B3⟩
              case measure => simp [intOf]; omega
            · have NE : (S (monoT l k)).toList.isEmpty = false := S_ne (monoT_ne hp)
              have MN : monoT l (k + 1) = monoT l k ++ ([32] ++ powT k x) := by rw [← hx']; exact monoT_next hp (by rw [hx']; exact hx0)
              have T0 : S (monoT l k) ++ ⟨#[32]⟩ = S (monoT l k ++ [32]) := S_app _ [32]
              have T1 : S (monoT l k ++ [32]) ++ ⟨#[120]⟩ = S (monoT l k ++ [32] ++ [120]) := S_app _ [120]
              have T2 : S (monoT l k ++ [32] ++ [120]) ++ S (decT ((k : Int) + 1)) = S (monoT l k ++ [32] ++ [120] ++ decT ((k : Int) + 1)) := S_app _ _
              have z00 : (S (monoT l k ++ [32])).size = (monoT l k).length + 1 := by rw [S_size, List.length_append]; rfl
              have z1 : (S (monoT l k ++ [32] ++ [120])).size = (monoT l k).length + 1 + 1 := by rw [S_size, List.length_append, List.length_append]; rfl
              have z2 : (S (monoT l k ++ [32] ++ [120] ++ decT ((k : Int) + 1))).size = (monoT l k).length + 1 + 1 + (decT ((k : Int) + 1)).length := by rw [S_size, List.length_append, List.length_append, List.length_append]; rfl
              have EX : S (monoT l k ++ [32] ++ [120] ++ decT ((k : Int) + 1) ++ expT x) = S (monoT l (k + 1)) := by rw [MN]; congr 1; simp [powT, List.append_assoc]
              obtain ⟨Q2, hQ2⟩ : ∃ Q, monoT l k ++ [32] ++ [120] ++ decT ((k : Int) + 1) = Q := ⟨_, rfl⟩
              rw [hQ2] at T2 z2 EX
              obtain ⟨Q1, hQ1⟩ : ∃ Q, monoT l k ++ [32] ++ [120] = Q := ⟨_, rfl⟩
              rw [hQ1] at T1 T2 z1
              obtain ⟨Q0, hQ0⟩ : ∃ Q, monoT l k ++ [32] = Q := ⟨_, rfl⟩
              rw [hQ0] at T0 T1 z00
              clear MN hp hQ2 hQ1 hQ0
              rw [expT_no h1, List.append_nil] at EX
              go_wp2_with fail
              refine (D1.out wr).mono ?_
              rintro e w2 ⟨rfl, b2⟩
              have c2 := (b2.cell (p := ⟨b, off + k, none⟩) (World.block_lt_of_cell? wr _ c1)).trans c1
              have B2 := Lib.hid (hB.out.step1 b2)
              clear b2
              go_wp2_with fail
              go_roundw
              case rel => exact ⟨k + 1, by omega, by go_num, rfl, B2⟩
              case measure => simp [intOf]; omega
      · obtain rfl : k = l.length := by omega
        have ne := NEL.out
        have hnl : ¬ ((l.length : Int) < (l.length : Int)) := by omega
        clear hlt
        go_wp2_with fail
        go_ret
        exact ⟨by rw [DT.out]; rfl, hB.out⟩

theorem dtext_zero (V : Value) (X : Nat → List Int) (w : World) (h : RdSS w V 0 X) :
    Calls Tryd.prog 11 #[V] w fun e w' => e = .returned (.string (S (delT X 0))) ∧ Below w.heap.size w w' := by
  obtain ⟨⟨a, cap, rfl⟩, _⟩ := h
  go_enter Tryd.func11, Tryd.ntmps11
  go_wp2
  go_ret
  exact ⟨rfl, Below.refl _ _⟩

set_option maxHeartbeats 2000000 in
theorem dtext_some (V : Value) (m : Nat) (X : Nat → List Int) (w : World) (h : RdSS w V m X) (h0 : 0 < m) (hm : m ≤ 2000) (hX : ∀ i, i < m → Small (X i)) (hE : ∀ i, i < m → isE (X i)) :
    Calls Tryd.prog 11 #[V] w fun e w' => e = .returned (.string (S (delT X m))) ∧ Below w.heap.size w w' := by
  obtain ⟨⟨a, cap, rfl⟩, hsm, VS, hc, hr⟩ := h
  obtain ⟨b, off, ⟨cap', e⟩, hcell⟩ := hc.resolve_left (by omega)
  cases e
  have HC := Lib.hid hcell
  have HR := Lib.hid hr
  have HX := Lib.hid hX
  have HE := Lib.hid hE
  have hb : b < w.heap.size := World.block_lt_of_cell? w ⟨b, off + 0, none⟩ (hcell 0 h0)
  have ES : Hid (delT X m = dtsT X m) := Lib.hid (by unfold delT; rw [if_neg (by omega)])
  have hz : ((m : Int) == 0) = false := by rw [beq_eq_false_iff_ne]; omega
  clear hc hcell hr hX hE
  go_enter Tryd.func11, Tryd.ntmps11
  go_wp2
  go_loopw [3, 4] (fun t c wr => ∃ i : Nat, i ≤ m ∧ c = .int .i64 i ∧ t = .string (S (dtsT X i)) ∧ Hid (Below w.heap.size w wr)) (fun _ c _ => m - (intOf c).toNat)
  case atStart => exact ⟨0, by omega, rfl, rfl, Lib.hid (Below.refl _ _)⟩
  case round =>
    obtain ⟨i, hi, rfl, rfl, hB⟩ := hrel
    by_cases hlt : i < m
    · have hlt' : (i : Int) < (m : Int) := by omega
      obtain ⟨vk, hvk⟩ : ∃ v, VS i = v := ⟨_, rfl⟩
      have c1 : wr.cell? ⟨b, off + i, none⟩ = some vk := by rw [← hvk]; exact (hB.out.cell (p := ⟨b, off + i, none⟩) hb).trans (HC.out i hlt)
      have RK := (HR.out i hlt).below hB.out
      rw [hvk] at RK
      have LT := Lib.hid (l06Term_any vk (X i) wr RK (HX.out i hlt) (HE.out i hlt))
      have l0 : (dtsT X i).length ≤ 282000 := by have := dtsT_len X m i HX.out (by omega); have h3 : i * 141 ≤ 2000 * 141 := Nat.mul_le_mul_right _ (by omega); omega
      have l3 := dtT_len (HX.out i hlt)
      have TT : dtsT X (i + 1) = dtsT X i ++ sepT 43 i ++ dtT (X i) := by rw [dtsT_succ, List.append_assoc]
      obtain ⟨P, hP⟩ : ∃ P, dtsT X i ++ sepT 43 i = P := ⟨_, rfl⟩
      obtain ⟨N, hN⟩ : ∃ N, dtT (X i) = N := ⟨_, rfl⟩
      rw [hP, hN] at TT
      rw [hN] at LT l3
      have l1 : P.length ≤ 282001 := by have := sepT_len 43 i; rw [← hP, List.length_append]; omega
      have z0 := S_size (dtsT X i)
      have z1 := S_size P
      have z3 := S_size N
      have T3 : S P ++ S N = S (dtsT X (i + 1)) := by rw [TT]; exact S_app _ _
      clear RK hvk hN TT
      rcases Nat.eq_zero_or_pos i with hi0 | hi0
      · have e0 : ¬ (0 : Int) < (i : Int) := by omega
        have e1 : S (dtsT X i) = S P := by rw [← hP]; subst hi0; rfl
        rw [e1]
        clear e1 hi0 hP z0
        go_wp2_with fail
        refine LT.out.mono ?_
        rintro e w2 ⟨rfl, b2⟩
        go_wp2_with fail
        go_roundw
        case rel => exact ⟨i + 1, by omega, by go_num, rfl, Lib.hid (hB.out.trans (b2.mono hB.out.size))⟩
        case measure => simp [intOf]; omega
      · have e0 : (0 : Int) < (i : Int) := by omega
        have e1 : S (dtsT X i) ++ ⟨#[43]⟩ = S P := by rw [← hP, sepT_pos 43 hi0]; exact S_app _ [43]
        clear hi0 hP
        go_wp2_with fail
        refine LT.out.mono ?_
        rintro e w2 ⟨rfl, b2⟩
        go_wp2_with fail
        go_roundw
        case rel => exact ⟨i + 1, by omega, by go_num, rfl, Lib.hid (hB.out.trans (b2.mono hB.out.size))⟩
        case measure => simp [intOf]; omega
    · obtain rfl : i = m := by omega
      go_wp2
      go_ret
      exact ⟨by rw [ES.out]; rfl, hB.out⟩
theorem dtext_any (V : Value) (m : Nat) (X : Nat → List Int) (w : World) (h : RdSS w V m X) (hm : m ≤ 2000) (hX : ∀ i, i < m → goodE (X i)) :
    Calls Tryd.prog 11 #[V] w fun e w' => e = .returned (.string (S (delT X m))) ∧ Below w.heap.size w w' := by
  by_cases h0 : m = 0
  · subst h0; exact dtext_zero V X w h
  · exact dtext_some V m X w h (by omega) hm (fun i hi => goodE_small (hX i hi)) (fun i hi => (hX i hi).1)

/-- A text and a code. -/
def TextIsD (l : List UInt8) (cd : Int) (w : World) (e : Ending) (w' : World) : Prop := e = .returned (.tuple #[.string (S l), .int .i64 cd]) ∧ Below w.heap.size w w'
theorem specDText_no (V : Value) (m : Nat) (X : Nat → List Int) (w : World) (h : RdSS w V m X) (hok : ¬ okMl X m) :
    Calls Tryd.prog 5 #[.agg #[V]] w (TextIsD [] 1 w) := by
  obtain ⟨a, cap, rfl⟩ := h.head
  have t2 := Tryd.underlying28
  have B0 : Hid (Below w.heap.size w (w.alloc (.cells #[.slice a m cap] 28))) := Lib.hid ((Below.refl w.heap.size w).alloc (Nat.le_refl _) _)
  have A := Lib.hid ((isD_no X m hok).1 _ _ (h.below B0.out))
  clear h hok
  go_enter Tryd.func5, Tryd.ntmps5
  go_wp2_with fail
  refine A.out.mono ?_
  rintro e w2 ⟨rfl, b2⟩
  have B2 := Lib.hid (B0.out.step1 b2)
  clear b2
  go_wp2_with fail
  go_ret2
  exact ⟨rfl, B2.out⟩
theorem specDText_yes (V : Value) (m : Nat) (X : Nat → List Int) (w : World) (h : RdSS w V m X) (hok : okMl X m) :
    Calls Tryd.prog 5 #[.agg #[V]] w (TextIsD (delT X m) 0 w) := by
  obtain ⟨a, cap, rfl⟩ := h.head
  have t2 := Tryd.underlying28
  have B0 : Hid (Below w.heap.size w (w.alloc (.cells #[.slice a m cap] 28))) := Lib.hid ((Below.refl w.heap.size w).alloc (Nat.le_refl _) _)
  have BX : Hid (Box1 (w.alloc (.cells #[.slice a m cap] 28)) w.heap.size 28 (.slice a m cap)) := Lib.hid (Box1.new _ _ _)
  have A := Lib.hid ((isD_yes X m hok).1 _ _ (h.below B0.out))
  have TX := Lib.hid (fun wx (hx : Below w.heap.size w wx) => dtext_any _ m X wx (h.below hx) hok.1.1 (fun i hi => (hok.2 i hi).1))
  clear h hok
  go_enter Tryd.func5, Tryd.ntmps5
  go_wp2_with fail
  refine A.out.mono ?_
  rintro e w2 ⟨rfl, b2⟩
  have B2 := Lib.hid (B0.out.step1 b2)
  have c2 := (BX.out.up b2).c
  clear b2
  go_wp2_with fail
  refine (TX.out w2 B2.out).mono ?_
  rintro e w3 ⟨rfl, b3⟩
  have B3 := Lib.hid (B2.out.step1 b3)
  go_wp2_with fail
  go_ret2
  exact ⟨rfl, B3.out⟩
end Go.Proofs.YtcfgjbfgdlmilaaDoor.Dl
