/-
  impl.textOfMonomial, impl.DualText; both texts are the same.
-/
import Derived.Test.YtcfgjbfgdlmilaaDoorEDtS
import Derived.Laws.AppendOwn
import Derived.Maps.AppendAt
namespace Go.Proofs.YtcfgjbfgdlmilaaDoor.Dl
open Go.RowKit Go.Proofs.YtcfgjbfgdlmilaaDoor.Ml
set_option linter.unusedVariables false
set_option maxRecDepth 100000

theorem itoa_any (x : Int) (h0 : 0 ≤ x) (h1 : x < 100) (w : World) :
    Calls Tryd.prog 22 #[.int .i64 x] w fun e w' => e = .returned (.string (S (decT x))) ∧ w = w' := by
  obtain ⟨k, rfl⟩ := Int.eq_ofNat_of_zero_le h0
  exact (Go.Proofs.Tryd.strconv_Itoa_small k (by omega) w).mono fun e w' ⟨he, hw⟩ => ⟨by rw [he]; rfl, hw.symm⟩

/-- Texts as values. -/
def txtV (L : List (List UInt8)) : List Value := L.map fun t => Value.string (S t)
theorem txtV_snoc (L : List (List UInt8)) (t : List UInt8) : txtV (L ++ [t]) = txtV L ++ [.string (S t)] := by simp [txtV]
def getT (L : List (List UInt8)) (i : Nat) : List UInt8 := L[i]?.getD []
theorem getT_range (L : List (List UInt8)) : (List.range L.length).map (getT L) = L := by
  refine List.ext_getElem (by simp) fun i h1 h2 => ?_
  simp [getT, h2]
theorem txtV_strs (L : List (List UInt8)) : txtV L = strs (getT L) L.length L.length := by
  refine List.ext_getElem (by simp [txtV, strs]) fun i h1 h2 => ?_
  have h3 : i < L.length := by simpa [txtV] using h1
  simp [txtV, strs, getT, h3]
/-- strings.Join of a row of texts. -/
theorem join_texts {w : World} {B n : Nat} {v : Value} (L : List (List UInt8)) (c : UInt8) (h : w.ownsRow B 9 1 v n (txtV L)) (hn : n = L.length) (h0 : L ≠ []) (h1 : L.length ≤ 100000) (hl : (Lib.join L [c]).length ≤ 1000000) :
    Calls Tryd.prog 15 #[v, .string ⟨#[c]⟩] w fun e w' => e = .returned (.string (S (Lib.join L [c]))) ∧ Below w.heap.size w w' := by
  subst hn
  rcases h.2 with ⟨_, e⟩ | ⟨g, cap, cur, rfl, _⟩
  · exact absurd (List.eq_nil_of_length_eq_zero e) h0
  · rw [txtV_strs] at h
    have := join_row (getT L) c h h1 (by rw [getT_range]; exact hl)
    rw [getT_range] at this
    exact this

theorem tom_nil (a : Option Addr) (cap : Nat) (w : World) :
    Calls Tryd.prog 14 #[.slice a 0 cap] w fun e w' => e = .returned (.string (S [49])) ∧ Below w.heap.size w w' := by
  go_enter Tryd.func14, Tryd.ntmps14
  go_wp2
  go_ret
  exact ⟨rfl, Below.refl _ _⟩

set_option maxHeartbeats 2000000 in
theorem tom_any (v : Value) (l : List Int) (w : World) (h : RdI w v l.length (fun j => l[j]?.getD 0)) (hs : Small l) (hE : isE l) :
    Calls Tryd.prog 14 #[v] w fun e w' => e = .returned (.string (S (dtT l))) ∧ Below w.heap.size w w' := by
  obtain ⟨i0, hi, hz0, hz1, hz2⟩ := info_parts Tryd.infoStr
  obtain ⟨a, cap, rfl, hm, hc⟩ := h
  by_cases h0 : l.length = 0
  · rw [dtT_nil h0, h0]
    exact tom_nil a cap w
  · obtain ⟨b, off, rfl, hcell⟩ := hc.resolve_left h0
    have HC := Lib.hid hcell
    have HS := Lib.hid hs
    have DT : Hid (dtT l = Lib.join (powsT l l.length) [32]) := Lib.hid (dtT_pos h0)
    have PN : Hid (powsT l l.length ≠ []) := Lib.hid (powsT_some h0 (by
      have := hE.2.1.resolve_left h0
      rw [List.getD_eq_getElem?_getD]
      exact this))
    have ML : Hid ((Lib.join (powsT l l.length) [32]).length ≤ 1000000) := Lib.hid (by have h1 := monoT_len hs l.length (Nat.le_refl _); have := hs.1; unfold monoT at h1; omega)
    have hl20 := hs.1
    have hz : ((l.length : Int) == 0) = false := by rw [beq_eq_false_iff_ne]; omega
    have O0 : Hid (w.ownsRow w.heap.size 9 1 (.slice none 0 0) (powsT l 0).length (txtV (powsT l 0))) := Lib.hid (World.ownsRow_nil _ _ _ _)
    clear hc hcell hs hE h0
    go_enter Tryd.func14, Tryd.ntmps14
    go_wp2_with fail
    go_loopw [3, 4, 5, 6, 12] (fun s _ _ _ c wr => ∃ k : Nat, k ≤ l.length ∧ c = .int .i64 k ∧ Hid (wr.ownsRow w.heap.size 9 1 s (powsT l k).length (txtV (powsT l k))) ∧ Hid (Below w.heap.size w wr)) (fun _ _ _ _ c _ => l.length - (intOf c).toNat)
    case atStart => exact ⟨0, by omega, rfl, O0, Lib.hid (Below.refl _ _)⟩
    case round =>
      clear O0
      obtain ⟨k, hk, rfl, hO, hB⟩ := hrel
      by_cases hlt : k < l.length
      · have hlt' : (k : Int) < (l.length : Int) := by omega
        obtain ⟨x, hx⟩ : ∃ x, l[k]?.getD 0 = x := ⟨_, rfl⟩
        have c1 : wr.cell? ⟨b, off + k, none⟩ = some (.int .i64 x) := by rw [← hx]; exact (hB.out.cell (p := ⟨b, off + k, none⟩) (World.block_lt_of_cell? w _ (HC.out k hlt))).trans (HC.out k hlt)
        have hx' : l.getD k 0 = x := by rw [List.getD_eq_getElem?_getD]; exact hx
        have hx2 := HS.out.2 k hlt
        rw [hx'] at hx2
        by_cases hx0 : x = 0
        · have O1 : Hid (wr.ownsRow w.heap.size 9 1 u3 (powsT l (k + 1)).length (txtV (powsT l (k + 1)))) := Lib.hid (by rw [powsT_zero (by rw [hx']; exact hx0)]; exact hO.out)
          subst hx0
          clear hx hx' hx2 hO
          go_wp2_with fail
          go_roundw
          case rel => exact ⟨k + 1, by omega, by go_num, O1, hB⟩
          case measure => simp [intOf]; omega
        · have hne : (x == 0) = false := by rw [beq_eq_false_iff_ne]; exact hx0
          have D1 := Lib.hid fun wy => itoa_any ((k : Int) + 1) (by omega) (by omega) wy
          have D2 := Lib.hid fun wy => fmt_any x hx2.1 hx2.2 wy
          have l1 := decT_len (n := (k : Int) + 1) (by omega) (by omega)
          have l2 := decT_len hx2.1 hx2.2
          have z8 := S_size (decT ((k : Int) + 1))
          have z9 := S_size (decT x)
          have lp := powsT_len l k
          have PS : Hid (powsT l (k + 1) = powsT l k ++ [powT k x]) := Lib.hid (by rw [← hx']; exact powsT_succ (by rw [hx']; exact hx0))
          have T1 : (⟨#[120]⟩ : ByteArray) ++ S (decT ((k : Int) + 1)) = S ([120] ++ decT ((k : Int) + 1)) := S_app [120] _
          have z1 : (S ([120] ++ decT ((k : Int) + 1))).size = 1 + (decT ((k : Int) + 1)).length := by rw [S_size, List.length_append]; rfl
          have OA : Hid (∀ t : List UInt8, (wr.alloc (.cells #[.string (S t)] 9)).ownsRow w.heap.size 9 1 u3 (powsT l k).length (txtV (powsT l k))) := Lib.hid fun t => hO.out.alloc _
          have SA : Hid (∀ t : List UInt8, w.heap.size ≤ (wr.alloc (.cells #[.string (S t)] 9)).heap.size) := Lib.hid fun t => by have := hB.out.size; simp; omega
          have FN : Hid (∀ v' w', w'.ownsRow w.heap.size 9 1 v' ((powsT l k).length + 1) (txtV (powsT l k) ++ [.string (S (powT k x))]) → (wr.alloc (.cells #[.string (S (powT k x))] 9)).grownBy w' u3.ownBlock → w'.ownsRow w.heap.size 9 1 v' (powsT l (k + 1)).length (txtV (powsT l (k + 1))) ∧ Below w.heap.size w w') := Lib.hid fun v' w' h1 h2 =>
            ⟨by rw [PS.out, List.length_append, txtV_snoc]; exact h1, (hB.out.alloc hB.out.size _).grown h2 (by have := hB.out.size; simp; omega) (fun q hq => (hO.out.lt q hq).1)⟩
          by_cases h1 : 1 < x
          · have T3 : (⟨#[94]⟩ : ByteArray) ++ S (decT x) = S ([94] ++ decT x) := S_app [94] _
            have T4 : S ([120] ++ decT ((k : Int) + 1)) ++ S ([94] ++ decT x) = S (powT k x) := by rw [S_app]; unfold powT; rw [expT_yes h1]
            have z3 : (S ([94] ++ decT x)).size = 1 + (decT x).length := by rw [S_size, List.length_append]; rfl
            obtain ⟨P1, hP1⟩ : ∃ P, [120] ++ decT ((k : Int) + 1) = P := ⟨_, rfl⟩
            obtain ⟨P2, hP2⟩ : ∃ P, [94] ++ decT x = P := ⟨_, rfl⟩
            rw [hP1] at T1 T4 z1
            rw [hP2] at T3 T4 z3
            clear hP1 hP2
            clear hx hx' hx2 hO PS
            go_wp2_with (first
              | (go_at_call 22; refine (D1.out wr).mono ?_; rintro e w' ⟨rfl, rfl⟩)
              | (go_at_call 23; refine (D2.out wr).mono ?_; rintro e w' ⟨rfl, rfl⟩)
              | (at_builtin; refine wpList_append_own _ rfl _ _ 36 rfl w.heap.size 9 i0 (.string ⟨#[]⟩) 1 16 Tryd.underlying36 hi hz0 hz1 hz2 rfl (by decide) _ _ _ rfl (OA.out (powT k x)) ⟨wr.heap.size, 0, none⟩ 1 1 [.string (S (powT k x))] rfl rfl (cell_one_new _ _ _) (by simp [Value.oneCell']) (by unfold maxLen; omega) (by omega) (SA.out _) ?_; intro v3 w3 ho3 hg3 _; have F3 := Lib.hid (FN.out v3 w3 ho3 hg3); clear ho3 hg3))
            go_roundw
            case rel => exact ⟨k + 1, by omega, by go_num, Lib.hid F3.out.1, Lib.hid F3.out.2⟩
            case measure => simp [intOf]; omega
          · have T4 : S ([120] ++ decT ((k : Int) + 1)) = S (powT k x) := by unfold powT; rw [expT_no h1, List.append_nil]
            obtain ⟨P1, hP1⟩ : ∃ P, [120] ++ decT ((k : Int) + 1) = P := ⟨_, rfl⟩
            rw [hP1] at T1 T4 z1
            clear hP1
            clear hx hx' hx2 hO PS
            go_wp2_with (first
              | (go_at_call 22; refine (D1.out wr).mono ?_; rintro e w' ⟨rfl, rfl⟩)
              | (at_builtin; refine wpList_append_own _ rfl _ _ 36 rfl w.heap.size 9 i0 (.string ⟨#[]⟩) 1 16 Tryd.underlying36 hi hz0 hz1 hz2 rfl (by decide) _ _ _ rfl (OA.out (powT k x)) ⟨wr.heap.size, 0, none⟩ 1 1 [.string (S (powT k x))] rfl rfl (cell_one_new _ _ _) (by simp [Value.oneCell']) (by unfold maxLen; omega) (by omega) (SA.out _) ?_; intro v3 w3 ho3 hg3 _; have F3 := Lib.hid (FN.out v3 w3 ho3 hg3); clear ho3 hg3))
            go_roundw
            case rel => exact ⟨k + 1, by omega, by go_num, Lib.hid F3.out.1, Lib.hid F3.out.2⟩
            case measure => simp [intOf]; omega
      · obtain rfl : k = l.length := by omega
        have lp := powsT_len l l.length
        have JN := Lib.hid (join_texts (powsT l l.length) 32 hO.out rfl PN.out (by omega) ML.out)
        have hnl : ¬ ((l.length : Int) < (l.length : Int)) := by omega
        clear hlt hO
        go_wp2_with fail
        refine JN.out.mono ?_
        rintro e w2 ⟨rfl, b2⟩
        have B2 := Lib.hid (hB.out.step1 b2)
        go_wp2_with fail
        go_ret
        exact ⟨by rw [DT.out]; rfl, B2.out⟩
end Go.Proofs.YtcfgjbfgdlmilaaDoor.Dl
