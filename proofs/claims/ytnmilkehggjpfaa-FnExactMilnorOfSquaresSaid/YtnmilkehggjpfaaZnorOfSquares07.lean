/-
  Joined: NMosB.
-/
import Derived.Test.YtnmilkehggjpfaaZnorOfSquares06
import Derived.Test.YtnmilkehggjpfaaZBMil43
import Derived.Test.YtnmilkehggjpfaaZBMil24
section
namespace Go.Proofs.Ytnmilkehggjpfaa.Ml
open Go.RowKit Go.Maps
set_option linter.unusedVariables false
set_option maxRecDepth 100000

theorem rowsL_at (X : Nat → List Int) (m i : Nat) (hi : i < m) : (rowsL X m)[i]?.getD [] = X i := by
  unfold rowsL
  rw [List.getElem?_map, List.getElem?_range hi]
  rfl
theorem fam_rdw {w : World} {B : Nat} {V : Value} {m : Nat} {VS : Nat → Value} {X : Nat → List Int} (h : Fam w B V m VS X) : RdW w V (rowsL X m) := by
  obtain ⟨a, cap, e, hm, hc⟩ := h.head
  have hl : (rowsL X m).length = m := rowsL_len X m
  unfold RdW
  rw [hl]
  refine ⟨⟨a, cap, e⟩, hm, VS, ?_, fun i hi => ?_⟩
  · rcases hc with h0 | ⟨b, rfl, hc⟩
    · exact .inl h0
    · exact .inr ⟨b, 0, ⟨cap, e⟩, fun i hi => by rw [Nat.zero_add]; exact hc i hi⟩
  · rw [rowsL_at X m i hi]
    exact RdN.of_own (h.inn i hi)
theorem MilnorOfSquares_both (m : Nat) (X : Nat → List Int) :
    ∃ (L : List (List Int)) (cd : Int), L.length ≤ 15000 ∧ (∀ i, (rowsOf L i).length ≤ 20) ∧
      (∀ va w, RdSS w va m X → Calls Try.prog 39 #[.agg #[va]] w (ResS L cd w)) ∧
      (∀ va VA Ba w, Fam w Ba va m VA X → Calls Try.prog 41 #[.agg #[va]] w (ResS L cd w)) := by
  by_cases h : okSq X m
  · have hw : ∀ l ∈ rowsL X m, okW l ∧ l.sum = sumL (X 0) := fun l hl => by
      obtain ⟨i, hi, rfl⟩ := mem_rowsL hl
      exact okSq_words h i hi
    have hd : 0 < m → sumL (X 0) ≤ 40 := fun hm => by
      have h1 := okSq_words h 0 hm
      rw [← h1.2]
      exact h1.1.2
    refine ⟨sumW (rowsL X m), 0, by have := okMl_few (sumW_el hw); omega, rows_short (sumW_short hw), fun va w ha => ?_, fun va VA Ba w ha => ?_⟩
    · obtain ⟨a, cap, rfl⟩ := ha.head
      exact specMOS_ok a m cap X w ha h
    · obtain ⟨a, cap, rfl, _, _⟩ := ha.head
      refine implMOS_ok a m cap X w ha.rdss h fun wx hb => ?_
      have hR : RdW wx (.slice a m cap) (rowsL X m) := fam_rdw (ha.below hb)
      have hn : (rowsL X m).Nodup := (asc_rows X m h.1.2.2).nodup
      have hl : (rowsL X m).length ≤ 100000 := by rw [rowsL_len]; have := h.1.1; omega
      by_cases hm : 0 < m
      · exact sumOver_any _ (rowsL X m) (sumL (X 0)) _ wx (Nat.le_refl _) (hd hm) hw hn hl hR
      · obtain rfl : m = 0 := by omega
        exact sumOver_any _ (rowsL X 0) 0 _ wx (Nat.le_refl _) (by omega) (fun l hl => by cases hl) hn hl hR
  · refine ⟨[], 1, Nat.zero_le _, fun i => Nat.zero_le _, fun va w ha => ?_, fun va VA Ba w ha => ?_⟩
    · obtain ⟨a, cap, rfl⟩ := ha.head
      exact specMOS_no a m cap X w ha h
    · obtain ⟨a, cap, rfl, _, _⟩ := ha.head
      exact implMOS_no a m cap X w ha.rdss h
end Go.Proofs.Ytnmilkehggjpfaa.Ml
end
