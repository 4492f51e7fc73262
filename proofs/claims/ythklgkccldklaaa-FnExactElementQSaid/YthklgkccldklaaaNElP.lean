/-
  spec.ElementP and impl.ElementP answer the same.
-/
import Derived.Test.YthklgkccldklaaaNRes
import Derived.Test.YthklgkccldklaaaNIs
import Derived.Test.YthklgkccldklaaaWCount
import Derived.Test.YthklgkccldklaaaWIn
import Derived.Test.YthklgkccldklaaaWToSS
import Derived.Test.YthklgkccldklaaaSBoxR
import Derived.Test.YthklgkccldklaaaKFam
import Derived.Deep.DeepCutAuto
namespace Go.Proofs.Ythklgkccldklaaa.Ml
open Go.RowKit
set_option linter.unusedVariables false
set_option maxRecDepth 100000

/-- The exponents of P(s, t). -/
def ePl (s t : Nat) : List Int := (List.replicate t (0 : Int)).set (t - 1) ((2 ^ s : Nat) : Int)
theorem ePl_len (s t : Nat) : (ePl s t).length = t := by simp [ePl]
def okP (s t : Nat) : Bool := decide (dgr (fun i => (ePl s t)[i]?.getD 0) t = (((2 ^ t - 1) * 2 ^ s : Nat) : Int)) && decide ((2 ^ t - 1) * 2 ^ s ≤ 1047552 ∧ 1 ≤ 2 ^ s ∧ 2 ^ s ≤ 1024 ∧ 2 ^ t - 1 ≤ 1023)
theorem okP_b : ∀ s, s < 11 → ∀ t, t < 11 → okP s t = true := by decide +kernel
theorem okP_all {s t : Nat} (hs : s ≤ 10) (ht : t ≤ 10) : dgr (fun i => (ePl s t)[i]?.getD 0) t = (((2 ^ t - 1) * 2 ^ s : Nat) : Int) ∧ (2 ^ t - 1) * 2 ^ s ≤ 1047552 ∧ 1 ≤ 2 ^ s ∧ 2 ^ s ≤ 1024 ∧ 2 ^ t - 1 ≤ 1023 := by
  have h := okP_b s (by omega) t (by omega)
  unfold okP at h
  obtain ⟨a, b⟩ := Bool.and_eq_true_iff.1 h
  exact ⟨of_decide_eq_true a, of_decide_eq_true b⟩

/-- The result's struct was stored into its variable, which lies ahead of all else. -/
theorem fin1 {w w5 : World} {g : Nat} {V x : Value} {VS : Nat → Value} {L : List (List Int)} (hF : FamL w5 g V VS L) (hBe : Below w.heap.size w w5) (h1 : w.heap.size < g) (BR : Box1 w5 w.heap.size 24 x) :
    Box1 (w5.setCell ⟨w.heap.size, 0, none⟩ V) w.heap.size 24 V ∧ FamL (w5.setCell ⟨w.heap.size, 0, none⟩ V) w.heap.size V VS L ∧ Below w.heap.size w (w5.setCell ⟨w.heap.size, 0, none⟩ V) :=
  ⟨BR.set V, (Fam.same hF fun q hq hlt => heap_setCell_other _ _ _ _ (by simp; omega)).base (by omega), hBe.setCell (p := ⟨w.heap.size, 0, none⟩) (Nat.le_refl _) V⟩
/-- One list in a list. -/
theorem one_fam {w3 : World} {B : Nat} {v : Value} {x : List Int} (h : w3.ownsRow B 2 1 v x.length (x.map (Value.int .i64))) (hB : B ≤ w3.heap.size) : FamL (w3.alloc (.cells #[v] 41)) B (.slice (some ⟨w3.heap.size, 0, none⟩) 1 1) (fun _ => v) [x] := by
  refine ⟨⟨rfl, .inr ⟨w3.heap.size, 1, #[v], rfl, hB, heap_alloc_new w3 _, Nat.le_refl _, by unfold maxLen; omega, rfl, by simp [List.range_succ]⟩⟩, fun i hi => ?_⟩
  obtain rfl : i = 0 := by simp at hi; exact hi
  exact h.alloc _
theorem one_sep (v : Value) (x : List Int) : Sep [x].length (fun _ => v) := fun i j hi hj hij => by simp at hi hj; omega

theorem implP_range (s t : Int) (w : World) (h : ¬ ((0 ≤ s ∧ s ≤ 10) ∧ (1 ≤ t ∧ t ≤ 10))) : Calls Try.prog 8 #[.int .i64 s, .int .i64 t] w (ResS [] 2 w) := by
  have t2 := Try.underlying24
  have B0 : Hid (Below w.heap.size w (w.alloc (.cells #[.slice none 0 0] 24))) := Lib.hid ((Below.refl _ w).alloc (Nat.le_refl _) _)
  have BX : Hid (Box1 (w.alloc (.cells #[.slice none 0 0] 24)) w.heap.size 24 (.slice none 0 0)) := Lib.hid (Box1.new _ _ _)
  have FIN := Lib.hid (fin1 (famNil _ (w.heap.size + 1)) B0.out (by omega) BX.out)
  have hcase : s < 0 ∨ (0 ≤ s ∧ 10 < s) ∨ (0 ≤ s ∧ s ≤ 10 ∧ t < 1) ∨ (0 ≤ s ∧ s ≤ 10 ∧ 1 ≤ t ∧ 10 < t) := by omega
  clear h
  have c0 := BX.out.c
  have f0 := BX.out.fr 0
  rcases hcase with h1 | ⟨h1, h2⟩ | ⟨h1, h2, h3⟩ | ⟨h1, h2, h3, h4⟩
  all_goals
    go_enter Try.func8, Try.ntmps8
    go_wp2_with fail
    refine bodyPost_ret (results_box1_tmp rfl _ _ w.heap.size _ _ rfl (by first | exact FIN.out.1 | exact BX.out) t2 (by kernel_rfl)) rfl ?_
    first
      | exact ⟨_, _, rfl, FIN.out.2.1, sepNil, FIN.out.2.2⟩
      | exact ⟨_, _, rfl, famNil _ _, sepNil, B0.out⟩

set_option maxHeartbeats 1000000 in
theorem implP_ok (s t : Nat) (w : World) (hs : s ≤ 10) (ht0 : 1 ≤ t) (ht : t ≤ 10) :
    Calls Try.prog 8 #[.int .i64 s, .int .i64 t] w (ResS (if 40 < (2 ^ t - 1) * 2 ^ s then [] else [ePl s t]) (if 40 < (2 ^ t - 1) * 2 ^ s then 3 else 0) w) := by
  obtain ⟨i0, hi, hz0, hz1, hz2⟩ := info_parts Try.info2
  have t2 := Try.underlying24
  have h1 : (s : Int) ≤ 10 := by omega
  have h2 : (1 : Int) ≤ (t : Int) := by omega
  have h3 : (t : Int) ≤ 10 := by omega
  have h0 : (0 : Int) ≤ (s : Int) := by omega
  have B0 : Hid (Below w.heap.size w (w.alloc (.cells #[.slice none 0 0] 24))) := Lib.hid ((Below.refl _ w).alloc (Nat.le_refl _) _)
  have BX : Hid (Box1 (w.alloc (.cells #[.slice none 0 0] 24)) w.heap.size 24 (.slice none 0 0)) := Lib.hid (Box1.new _ _ _)
  obtain ⟨a1, a2, a3, a4, a5⟩ := okP_all hs ht
  have SPK := Lib.hid (fun wx => spikeNumber_any t wx (by omega))
  have EL : Hid (ePl s t = (List.replicate t (0 : Int)).set (t - 1) ((2 ^ s : Nat) : Int)) := Lib.hid rfl
  have eQ : ((2 ^ s : Nat) : Int) = (2 : Int) ^ s := by simp
  have hk : wrap64 (((2 ^ t - 1 : Nat) : Int) * 2 ^ s) = (((2 ^ t - 1) * 2 ^ s : Nat) : Int) := by
    rw [← eQ, ← Int.natCast_mul]
    generalize (2 ^ t - 1) * 2 ^ s = K at a2 ⊢
    unfold wrap64; omega
  have hq : wrap64 ((2 : Int) ^ s) = ((2 ^ s : Nat) : Int) := by
    rw [← eQ]
    generalize 2 ^ s = K at a4 ⊢
    unfold wrap64; omega
  generalize (2 ^ t - 1) * 2 ^ s = K at *
  generalize 2 ^ t - 1 = P at *
  generalize hQ : (2 ^ s : Nat) = Q at *
  clear hQ eQ a1 a2 a3 a4 a5
  obtain ⟨u, rfl⟩ : ∃ u, t = u + 1 := ⟨t - 1, by omega⟩
  have hut : ((u + 1 : Nat) : Int) = (u : Int) + 1 := by omega
  rw [hut] at h2 h3 SPK ⊢
  rw [Nat.add_sub_cancel] at EL
  clear hut
  have HK := Lib.hid hk
  have HQ := Lib.hid hq
  clear hk hq
  by_cases hbig : 40 < K
  · have hb : (40 : Int) < (K : Int) := by omega
    rw [if_pos hbig, if_pos hbig]
    have FIN := Lib.hid (fin1 (famNil _ (w.heap.size + 1)) B0.out (by omega) BX.out)
    go_enter Try.func8, Try.ntmps8
    go_wp2_with fail
    refine (SPK.out _).mono ?_
    rintro e w2 ⟨rfl, rfl⟩
    have hk := HK.out
    have c0 := BX.out.c
    have f0 := BX.out.fr 0
    go_wp2_with fail
    refine bodyPost_ret (results_box1_tmp rfl _ _ w.heap.size _ _ rfl (by first | exact FIN.out.1 | exact BX.out) t2 (by kernel_rfl)) rfl ?_
    first
      | exact ⟨_, _, rfl, FIN.out.2.1, sepNil, FIN.out.2.2⟩
      | exact ⟨_, _, rfl, famNil _ _, sepNil, B0.out⟩
  · have hb : ¬ (40 : Int) < (K : Int) := by omega
    rw [if_neg hbig, if_neg hbig]
    clear hbig
    go_enter Try.func8, Try.ntmps8
    go_wp2_with fail
    refine (SPK.out _).mono ?_
    rintro e w2 ⟨rfl, rfl⟩
    have hk := HK.out
    have HB := Lib.hid hb
    go_upto_region 6 with (at_make; refine wpList_make_full _ rfl _ _ 41 rfl (w.alloc (.cells #[.slice none 0 0] 24)).heap.size 2 i0 (.int .i64 0) 1 Try.underlying41 hi hz0 hz1 .i64 .i64 ((u : Int) + 1) ((u : Int) + 1) (u + 1) rfl rfl (by simp) (by simp) (by rw [hz2]; omega) (by unfold maxLen; omega) (Nat.le_refl _) ?_; intro w5 hown hgrow; rw [made_list0] at hown; have H5 := Lib.hid hown; have G5 := Lib.hid hgrow; clear hown hgrow)
    have hsz0 : (w.alloc (.cells #[.slice none 0 0] 24)).heap.size = w.heap.size + 1 := by simp
    rw [hsz0] at H5
    have b5 : Below (w.heap.size + 1) (w.alloc (.cells #[.slice none 0 0] 24)) w5 := by
      have := (Below.refl (w.alloc (.cells #[.slice none 0 0] 24)).heap.size (w.alloc (.cells #[.slice none 0 0] 24))).grown G5.out (Nat.le_refl _) (by intro k hk; cases hk)
      rwa [hsz0] at this
    obtain ⟨st1, _⟩ := World.ownsRow.stored H5.out u (.int .i64 (Q : Int))
    rw [← List.map_set, ← EL.out] at st1
    have c5 := World.ownsRow.cellAt H5.out u (by omega)
    rw [List.getElem?_map, List.getElem?_replicate, if_pos (by omega)] at c5
    simp only [Option.map_some] at c5
    have f5 := World.ownsRow.frozenAt H5.out u
    have b6 : Below (w.heap.size + 1) (w.alloc (.cells #[.slice none 0 0] 24)) (w5.setCell ⟨w.heap.size + 1, u, none⟩ (.int .i64 (Q : Int))) := b5.setCell (p := ⟨w.heap.size + 1, u, none⟩) (Nat.le_refl _) _
    have bx6 : Box1 (w5.setCell ⟨w.heap.size + 1, u, none⟩ (.int .i64 (Q : Int))) w.heap.size 24 (.slice none 0 0) := (b6.block _ (by omega)).trans BX.out
    have HBX := Lib.hid bx6
    have Bw : Hid (Below w.heap.size w (w5.setCell ⟨w.heap.size + 1, u, none⟩ (.int .i64 (Q : Int)))) := Lib.hid (B0.out.trans (b6.mono (by omega)))
    have hsz6 : w.heap.size + 1 ≤ (w5.setCell ⟨w.heap.size + 1, u, none⟩ (.int .i64 (Q : Int))).heap.size := by have := b6.size; rw [hsz0] at this; exact this
    have ST := Lib.hid st1
    have hq := HQ.out
    clear b5 st1 b6 bx6 H5 G5 BX B0 hk HK HB HQ hsz0
    have ON := Lib.hid (one_fam (B := w.heap.size + 1) (x := ePl s (u + 1)) (v := .slice (some ⟨w.heap.size + 1, 0, none⟩) (u + 1) (u + 1)) (by rw [ePl_len]; exact ST.out) hsz6)
    have bn := (Below.refl (w5.setCell ⟨w.heap.size + 1, u, none⟩ (.int .i64 (Q : Int))).heap.size (w5.setCell ⟨w.heap.size + 1, u, none⟩ (.int .i64 (Q : Int)))).alloc (Nat.le_refl _) (.cells #[.slice (some ⟨w.heap.size + 1, 0, none⟩) (u + 1) (u + 1)] 41)
    have B9 := Lib.hid (Bw.out.step1 bn)
    have X9 := Lib.hid (HBX.out.up bn)
    have c0 := X9.out.c
    have f0 := X9.out.fr 0
    have hs9 : (w5.setCell ⟨w.heap.size + 1, u, none⟩ (.int .i64 (Q : Int))).heap.size = w5.heap.size := by simp [World.setCell]
    rw [hs9] at ON
    have FIN := fin1 ON.out B9.out (by omega) X9.out
    have HFIN := Lib.hid FIN
    clear bn FIN ON ST
    go_wp2_with fail
    refine bodyPost_ret (results_box1_tmp rfl _ _ w.heap.size _ _ rfl HFIN.out.1 t2 (by kernel_rfl)) rfl ?_
    exact ⟨_, _, rfl, HFIN.out.2.1, one_sep _ _, HFIN.out.2.2⟩
end Go.Proofs.Ythklgkccldklaaa.Ml
