/-
  The walk of laws.FnSpikes.
-/
import Derived.Test.YtfhfnjcfkpcmnaaWDraws
import Derived.Test.YtfhfnjcfkpcmnaaWBoth
import Derived.Test.YtfhfnjcfkpcmnaaWSpkFacts
namespace Go.Proofs.Ytfhfnjcfkpcmnaa
open Go.RowKit
set_option linter.unusedVariables false

theorem u8_bounds {n : Int} (h : (Lit.int .u8 n).wf = true) : 0 ≤ n ∧ n ≤ 255 := by
  simpa [Lit.wf, IntKind.min, IntKind.max, IntKind.signed, IntKind.bits] using h

theorem Code.up {w w' : World} {a : Option Addr} {m : Nat} (h : Code w w.heap.size a m) (k : Below w.heap.size w w') : Code w' w'.heap.size a m := by
  have h2 := h.below k
  rcases h2 with h2 | ⟨b, off, rfl, hb, hc⟩
  · exact .inl h2
  · exact .inr ⟨b, off, rfl, Nat.lt_of_lt_of_le hb k.size, hc⟩

theorem IsRow.code {w : World} {a : Option Addr} {n cap : Nat} {zs : List Int} (h : IsRow .u8 w a n cap zs) : Code w w.heap.size a n ∧ n ≤ maxLen := by
  rcases h with ⟨rfl, rfl, rfl, _⟩ | ⟨x, rfl, h1, h2, h3, h4, h5⟩
  · exact ⟨.inl rfl, Nat.zero_le _⟩
  · refine ⟨?_, Nat.le_trans h1 h2⟩
    by_cases h0 : n = 0
    · exact .inl h0
    · obtain ⟨b, off, spot⟩ := x
      have hc := h4 0 (by omega)
      have hs : spot = none := by simpa [Addr.add] using World.cell?_spot hc
      subst hs
      have hcell : ∀ i, i < n → w.cell? ⟨b, off + i, none⟩ = some (.int .u8 (zs.getD i 0)) := by
        intro i hi
        have h6 := h4 i (by omega)
        have e : (⟨b, off, none⟩ : Addr).add i = ⟨b, off + i, none⟩ := by
          by_cases h7 : i = 0
          · subst h7; simp [Addr.add]
          · simp [Addr.add, h7]
        rw [← e]
        exact h6
      refine .inr ⟨b, off, rfl, World.block_lt_of_cell? w _ (hcell 0 (by omega)), fun i hi => ⟨zs.getD i 0, ?_, ?_, hcell i hi⟩⟩
      all_goals
        have hm : zs.getD i 0 ∈ zs := by
          rw [List.getD_eq_getElem?_getD, List.getElem?_eq_getElem (by omega)]
          exact List.getElem_mem _
        have h8 := u8_bounds (h5 _ hm)
        omega

theorem least_at (n : Nat) (hn : n ≤ 40) (w : World) : Calls Try.prog 44 #[.int .i64 (n : Int)] w fun e w' => e = .returned (.tuple #[.int .i64 (lst n), .int .i64 0]) ∧ w' = w := by
  have HL := (spk_facts n hn).1
  generalize lst n = l at HL
  refine (implLeastSpike_any n w (by omega)).mono ?_
  rintro e w' ⟨s, hs, _, rfl, rfl⟩
  obtain rfl : s = l := hs.unique HL
  exact ⟨rfl, rfl⟩

theorem spk_sizes (n : Nat) (hn : n ≤ 40) : (spk 40 [] n n).length ≤ 1099511627776 ∧ lst n ≤ 40 ∧ ∀ j, j < (spk 40 [] n n).length → (rowsOf (spk 40 [] n n) j).length ≤ 40 := by
  have e : skOf (n : Int) = spk 40 [] n n := by
    unfold skOf
    rw [if_pos (by omega)]
    rfl
  have h := skOf_len (n : Int)
  rw [e] at h
  obtain ⟨HL, hpos, hmt, hrow⟩ := spk_facts n hn
  have hs : ∀ j, j < (spk 40 [] n n).length → (rowsOf (spk 40 [] n n) j).length ≤ 40 := fun j hj => h.2 _ (rowsOf_mem _ j hj)
  exact ⟨h.1, Nat.le_trans (hrow 0 hpos).1 (hs 0 hpos), hs⟩

/-- What the law asks of the lists of n, under one name. -/
def RowsOk (n m l : Nat) (xss : List (List Int)) : Prop :=
  m = xss.length ∧ 0 < m ∧ m ≤ 1099511627776 ∧ l ≤ 40 ∧ mt xss l m = true ∧
  ∀ j, j < m → (rowsOf xss j).length ≤ 40 ∧ l ≤ (rowsOf xss j).length ∧ smr (fun i => (rowsOf xss j)[i]?.getD 0) (rowsOf xss j).length = (n : Int) ∧
    ∀ i, i < (rowsOf xss j).length → OkE ((rowsOf xss j)[i]?.getD 0)

theorem rows_ok (n : Nat) (hn : n ≤ 40) : RowsOk n (spk 40 [] n n).length (lst n) (spk 40 [] n n) := by
  obtain ⟨HL, hpos, hmt, hrow⟩ := spk_facts n hn
  obtain ⟨h1, h2, h3⟩ := spk_sizes n hn
  exact ⟨rfl, hpos, h1, h2, hmt, fun j hj => ⟨h3 j hj, hrow j hj⟩⟩

/-- What the round of the law's loop asks of row j. -/
theorem row_law (xss : List (List Int)) (n m l j p b : Nat) (VSg : Nat → Value) (w3 wr : World) (hlt : j < m) (R : RowsOk n m l xss)
    (HRD : ∀ j, j < m → RdI w3 (VSg j) (rowsOf xss j).length (fun i => (rowsOf xss j)[i]?.getD 0)) (HC : ∀ i, i < m → w3.cell? ⟨b, i, none⟩ = some (VSg i)) (hw : wr = w3.drewN p) :
    ∃ (nj : Nat) (aj : Option Addr) (cj : Nat), Hid (mt xss l (j + 1) = (mt xss l j || decide (nj = l))) ∧ nj ≤ 40 ∧ l ≤ nj ∧ wr.cell? ⟨b, j, none⟩ = some (.slice aj nj cj) ∧
      Hid (Calls Try.prog 45 #[.slice aj nj cj] wr fun e w' => e = .returned (.int .i64 (n : Int)) ∧ wr = w') ∧
      Hid (∀ wq p2, wq = w3.drewN p2 → wq.cell? ⟨b, j, none⟩ = some (.slice aj nj cj) ∧ ∀ i, i < nj → ∃ (e : Int) (bj oj : Nat), OkE e ∧ aj = some ⟨bj, oj, none⟩ ∧ wq.cell? ⟨bj, oj + i, none⟩ = some (.int .i64 e)) := by
  obtain ⟨_, _, _, _, _, hr⟩ := R
  obtain ⟨h40, hl, hsum, hel⟩ := hr j hlt
  obtain ⟨aj, cj, ev, hmx, hc⟩ := HRD j hlt
  have hcell := HC j hlt
  have hrd := HRD j hlt
  rw [ev] at hcell hrd
  refine ⟨(rowsOf xss j).length, aj, cj, Lib.hid rfl, h40, hl, by rw [hw]; exact hcell, Lib.hid ?_, Lib.hid ?_⟩
  · subst hw
    refine (sum_any _ _ _ _ (hrd.drewN p)).mono ?_
    rintro e w' ⟨rfl, rfl⟩
    rw [hsum]
    exact ⟨rfl, rfl⟩
  · rintro wq p2 rfl
    refine ⟨hcell, fun i hi => ?_⟩
    rcases hc with h0 | ⟨bj, oj, rfl, hcj⟩
    · omega
    · exact ⟨_, bj, oj, hel i hi, rfl, hcj i hi⟩

theorem sk_in (n : Nat) (hn : n ≤ 40) : skOf (n : Int) = spk 40 [] n n ∧ pcOf (n : Int) = 0 := by
  unfold skOf pcOf
  rw [if_pos (by omega), if_pos (by omega)]
  exact ⟨rfl, rfl⟩
theorem sk_out (d : Int) (h : ¬ (0 ≤ d ∧ d ≤ 40)) : skOf d = [] ∧ pcOf d = 2 := by
  unfold skOf pcOf
  rw [if_neg h, if_neg h]
  exact ⟨rfl, rfl⟩
end Go.Proofs.Ytfhfnjcfkpcmnaa
