/-
  Joined: KSumT.
-/
import Derived.Test.YtachdmklkkakbaaZactAddMilnor29
import Derived.Test.YtachdmklkkakbaaZactAddMilnor30
import Derived.Test.YtachdmklkkakbaaZactAddMilnor31
import Derived.Test.YtachdmklkkakbaaZactAddMilnor28
section
namespace Go.Proofs.Ytachdmklkkakbaa
open Go.RowKit Go.Maps
set_option linter.unusedVariables false
set_option maxRecDepth 100000

theorem flat_at (s : Nat) : ∀ (ks : List (Array Value)), (∀ k ∈ ks, k.size = s) → ∀ i, i < ks.length → ∀ j, j < s → (ks.flatMap Array.toList)[i * s + j]? = (ks[i]?.getD #[]).toList[j]?
  | [], _, i, hi, _, _ => absurd hi (Nat.not_lt_zero _)
  | k :: ks, h, 0, _, j, hj => by
    have hk := h k List.mem_cons_self
    rw [List.flatMap_cons, List.getElem?_append_left (by rw [Array.length_toList]; omega)]
    simp
  | k :: ks, h, i + 1, hi, j, hj => by
    have hk := h k List.mem_cons_self
    have e : (i + 1) * s + j = s + (i * s + j) := by rw [Nat.succ_mul]; omega
    rw [List.flatMap_cons, List.getElem?_append_right (by rw [Array.length_toList, e]; omega), Array.length_toList, hk, e, Nat.add_sub_cancel_left]
    have := flat_at s ks (fun k' hk' => h k' (List.mem_cons_of_mem _ hk')) i (by simpa using hi) j hj
    simpa using this

theorem rdK_of_own {w : World} {B : Nat} {T : TypeId} {s : Nat} {v : Value} {ks : List (Array Value)} (h : w.ownsRow B T s v ks.length (ks.flatMap Array.toList)) (hk : ∀ k ∈ ks, k.size = s) :
    ∃ a cap, v = .slice a ks.length cap ∧ ks.length ≤ maxLen ∧ (ks.length = 0 ∨ ∃ b off, a = some ⟨b, off, none⟩ ∧ b < w.heap.size ∧ ∀ i, i < ks.length → w.rangeAt b (off + i * s) (ks[i]?.getD #[]).toList) := by
  rcases h.2 with ⟨rfl, h0⟩ | ⟨g, cap, cur, rfl, hb, hg, h1, h2, h3, h4⟩
  · exact ⟨none, 0, by rw [h0], by rw [h0]; exact Nat.zero_le _, .inl h0⟩
  · refine ⟨_, cap, rfl, Nat.le_trans h1 h2, .inr ⟨g, 0, rfl, (Array.getElem?_eq_some_iff.1 hg).1, fun i hi j u hj => ?_⟩⟩
    have hks : (ks[i]?.getD #[]).size = s := by
      rw [List.getElem?_eq_getElem hi]
      exact hk _ (List.getElem_mem hi)
    have hjs : j < s := by
      have := (List.getElem?_eq_some_iff.1 hj).1
      rw [Array.length_toList, hks] at this
      exact this
    have e := flat_at s ks hk i hi j hjs
    rw [hj] at e
    have hlen : i * s + j < (ks.flatMap Array.toList).length := (List.getElem?_eq_some_iff.1 e).1
    rw [Nat.zero_add, h.cellAt (i * s + j) (by have := h.1; omega)]
    exact e
theorem rdP_of_own {w : World} {B : Nat} {v : Value} {ks : List (Array Value)} (h : OwnP w B v ks) (hk : ∀ k ∈ ks, KOKP k) : RdP w v ks := rdK_of_own h (fun k hk' => (hk k hk').size)
theorem rdW_of_own {w : World} {B : Nat} {v : Value} {ks : List (Array Value)} (h : OwnW w B v ks) (hk : ∀ k ∈ ks, KOKW k) : RdW w v ks := rdK_of_own h (fun k hk' => (hk k hk').size)

theorem pkL_ok (l : List (List Int)) : ∀ k ∈ pkL l, KOKP k := by
  intro k hk
  obtain ⟨x, hx, rfl⟩ := List.mem_map.1 hk
  exact packK_ok x (of_decide_eq_true (List.mem_filter.1 hx).2)
theorem wdL_ok (l : List (List Int)) (h20 : ∀ x ∈ l, x.length ≤ 20) (hwf : ∀ x ∈ l, ∀ z ∈ x, (Lit.int .i64 z).wf = true) : ∀ k ∈ wdL l, KOKW k := by
  intro k hk
  obtain ⟨x, hx, rfl⟩ := List.mem_map.1 hk
  have := (List.mem_filter.1 hx).1
  exact wideK_ok x (h20 x this) (hwf x this)

theorem packK_inj (x y : List Int) (hx : fits x) (hy : fits y) (h : packK x = packK y) : x = y := by
  have key : ∀ j, j < 8 → (if j < x.length then x[j]?.getD 0 + 1 else 0) = (if j < y.length then y[j]?.getD 0 + 1 else (0 : Int)) := by
    intro j hj
    have h1 := packK_at x hx j hj
    rw [h, packK_at y hy j hj] at h1
    simpa using h1.symm
  have hl : ∀ (x y : List Int), fits x → fits y → (∀ j, j < 8 → (if j < x.length then x[j]?.getD 0 + 1 else 0) = (if j < y.length then y[j]?.getD 0 + 1 else (0 : Int))) → ¬ x.length < y.length := by
    intro x y hx hy key hlt
    have h8 := hy.1
    have h1 := key x.length (by omega)
    rw [if_neg (Nat.lt_irrefl _), if_pos hlt] at h1
    have := (hy.2 x.length hlt).1
    omega
  have h1 := hl x y hx hy key
  have h2 := hl y x hy hx (fun j hj => (key j hj).symm)
  have e : x.length = y.length := by omega
  refine List.ext_getElem e fun i h3 h4 => ?_
  have h8 := hx.1
  have h5 := key i (by omega)
  rw [if_pos h3, if_pos h4, List.getElem?_eq_getElem h3, List.getElem?_eq_getElem h4] at h5
  simpa using h5
theorem wideK_inj (x y : List Int) (hx : x.length ≤ 20) (hy : y.length ≤ 20) (h : wideK x = wideK y) : x = y := by
  have h0 := wideK_zero x
  rw [h, wideK_zero y] at h0
  have e : x.length = y.length := by
    have := h0
    simp at this
    omega
  refine List.ext_getElem e fun i h3 h4 => ?_
  have h5 := wideK_at x i h3
  rw [h, wideK_at y i h4, List.getElem?_eq_getElem h3, List.getElem?_eq_getElem h4] at h5
  simpa using h5.symm

/-- What the sorting is asked. -/
def SortAll : Prop := ∀ (w : World) (B : Nat) (V : Value) (VS : Nat → Value) (L : List (List Int)), FamL w B V VS L → Sep L.length VS → L.Nodup → L.length ≤ 100000 → B ≤ w.heap.size →
  Calls Try.prog 90 #[V, .func (.func 70) #[] #[]] w fun e w' => e = .returned (.tuple #[]) ∧ ∃ VS' zs, FamL w' B V VS' zs ∧ Sep zs.length VS' ∧ Asc zs ∧ (∀ x, x ∈ zs ↔ x ∈ L) ∧ Below B w w'

end Go.Proofs.Ytachdmklkkakbaa
end
