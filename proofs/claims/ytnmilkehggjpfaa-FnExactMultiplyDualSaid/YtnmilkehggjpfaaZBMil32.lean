/-
  Joined: KTermW, KSumT.
-/
import Derived.Test.YtnmilkehggjpfaaZBMil31
import Derived.Test.YtnmilkehggjpfaaZBMil03
import Derived.Test.YtnmilkehggjpfaaZBMil05
section
namespace Go.Proofs.Ytnmilkehggjpfaa
open Go.RowKit Go.Maps
set_option linter.unusedVariables false
set_option maxRecDepth 100000

theorem cloneRd (b off : Nat) (xs : List Int) (cap : Nat) (w : World) (hn : xs.length ≤ 1000000) (h : ∀ j, j < xs.length → w.cell? ⟨b, off + j, none⟩ = some (.int .i64 (xs[j]?.getD 0))) :
    Calls Try.prog 121 #[.slice (some ⟨b, off, none⟩) xs.length cap] w fun e w' => ∃ u, e = .returned u ∧ w'.ownsRow w.heap.size 2 1 u xs.length (xs.map (Value.int .i64)) ∧ Below w.heap.size w w' := by
  obtain ⟨i0, hi, hz0, hz1, hz2⟩ := info_parts Try.info2
  have H : Hid (∀ j u, (xs.map (Value.int .i64))[j]? = some u → (w.alloc (.cells #[] 2)).cell? ((⟨b, off, none⟩ : Addr).add j) = some u) := by
    refine Lib.hid fun j u hu => ?_
    rw [Addr.add_mid]
    rw [List.getElem?_map] at hu
    cases hx : xs[j]? with
    | none => rw [hx] at hu; cases hu
    | some x =>
      rw [hx] at hu
      have hj : j < xs.length := (List.getElem?_eq_some_iff.1 hx).1
      have h1 := h j hj
      simp only [hx, Option.getD_some] at h1
      have hbl := World.block_lt_of_cell? w _ h1
      rw [← Option.some.inj hu]
      exact (((Below.refl _ w).alloc (Nat.le_refl _) _).cell (p := ⟨b, off + j, none⟩) hbl).trans h1
  have q22 : ∀ (w : World) (a : Option Addr) (n c n' c' : Nat), (binOp .eql 65 (.slice a n c) (.slice none n' c')).run Try.prog w = .ok (.bool a.isNone) w := fun w a n c n' c' => Lib.run_eql_slice_nil w _ _ a n c n' c' Try.underlying65
  clear h
  go_enter Try.func121, Try.ntmps121
  go_wp2_with (at_builtin; refine wpList_append_own _ rfl _ _ 65 rfl w.heap.size 2 i0 (.int .i64 0) 1 8 Try.underlying65 hi hz0 hz1 hz2 rfl (by decide) _ _ _ rfl (World.ownsRow_made w #[] 0 (Nat.le_refl _) (Nat.zero_le _) (by simp)) ⟨b, off, none⟩ xs.length cap (xs.map (Value.int .i64)) rfl ?qc1 ?qc2 ?qc3 ?qc4 ?qc5 ?qc6 ?_)
  case qc1 => simp
  case qc2 => exact H.out
  case qc3 => exact ints_one xs
  case qc4 => unfold maxLen; omega
  case qc5 => omega
  case qc6 => simp
  intro v' w1 hown hgrow hnil
  have HO := Lib.hid hown
  have HG := Lib.hid hgrow
  clear hown hgrow hnil
  go_wp2
  go_ret
  refine ⟨v', rfl, by simpa using HO.out, ?_⟩
  exact ((Below.refl _ w).alloc (Nat.le_refl _) _).grown HG.out (by simp) (by intro k hk; simp [Value.ownBlock] at hk; omega)

theorem wideK_zero (xs : List Int) : (wideK xs)[0]? = some (.int .i64 xs.length) := by simp [wideK, wdA, wdI]
theorem wideK_at (xs : List Int) (j : Nat) (hj : j < xs.length) : (wideK xs)[1 + j]? = some (.int .i64 (xs[j]?.getD 0)) := by
  have e : (wideK xs)[1 + j]? = (xs.map (Value.int .i64) ++ List.replicate (20 - xs.length) (Value.int .i64 0))[j]? := by simp [wideK, wdA, wdI, Nat.add_comm 1 j]
  rw [e, List.getElem?_append_left (by simpa using hj)]
  simp [hj]

theorem termW_any (xs : List Int) (w : World) (h20 : xs.length ≤ 20) :
    Calls Try.prog 144 #[.agg (wideK xs)] w fun e w' => ∃ v, e = .returned v ∧ w'.ownsRow w.heap.size 2 1 v xs.length (xs.map (Value.int .i64)) ∧ Below w.heap.size w w' := by
  have c0 : (w.alloc (.cells (wideK xs) 161)).cell? ⟨w.heap.size, 0, none⟩ = some (.int .i64 xs.length) := by
    rw [cell_of_row _ w.heap.size 0 _ 161 (0, 0) (heap_alloc_new w _)]
    exact wideK_zero xs
  have CL := Lib.hid (cloneRd w.heap.size 1 xs 20 (w.alloc (.cells (wideK xs) 161)) (by omega) (fun j hj => by
    rw [cell_of_row _ w.heap.size (1 + j) _ 161 (0, 0) (heap_alloc_new w _)]
    exact wideK_at xs j hj))
  have HB := Lib.hid ((Below.refl _ w).alloc (Nat.le_refl _) (.cells (wideK xs) 161))
  obtain ⟨K, hK⟩ : ∃ K, wideK xs = K := ⟨_, rfl⟩
  rw [hK] at c0 CL HB ⊢
  clear hK
  have hl : (xs.length : Int) ≤ 20 := by omega
  generalize xs.length = n at *
  go_enter Try.func144, Try.ntmps144
  go_wp2_with (go_at_call 121; refine CL.out.mono ?_; rintro e w' ⟨u, rfl, ho, hb⟩)
  have HO := Lib.hid ho
  have HB2 := Lib.hid hb
  clear ho hb
  go_wp2
  go_ret
  exact ⟨_, rfl, own_base HO.out (by simp), HB.out.trans (HB2.out.mono (by simp))⟩
end Go.Proofs.Ytnmilkehggjpfaa
end
section
namespace Go.Proofs.Ytnmilkehggjpfaa
open Go.RowKit Go.Maps
set_option linter.unusedVariables false
set_option maxRecDepth 100000

theorem flat_at (s : Nat) : ∀ (ks : List (Array Value)), (∀ k ∈ ks, k.size = s) → ∀ i, i < ks.length → ∀ j, j < s → (ks.flatMap Array.toList)[i * s + j]? = (ks[i]?.getD #[]).toList[j]?
  | [], _, i, hi, _, _ => absurd hi (Nat.not_lt_zero _)
  | k :: ks, h, 0, _, j, hj => by
    have hk := h k List.mem_cons_self
    rw [List.flatMap_cons, List.getElem?_append_left (by rw [Array.length_toList]; omega)]
    simp
  | k :: ks, h, i + 1, hi, j, hj => by
    have hk := h k List.mem_cons_self
    have e : (i + 1) * s + j = s + (i * s + j) := by rw [Nat.succ_mul]; omega
    rw [List.flatMap_cons, List.getElem?_append_right (by rw [Array.length_toList, e]; omega), Array.length_toList, hk, e, Nat.add_sub_cancel_left]
    have := flat_at s ks (fun k' hk' => h k' (List.mem_cons_of_mem _ hk')) i (by simpa using hi) j hj
    simpa using this

theorem rdK_of_own {w : World} {B : Nat} {T : TypeId} {s : Nat} {v : Value} {ks : List (Array Value)} (h : w.ownsRow B T s v ks.length (ks.flatMap Array.toList)) (hk : ∀ k ∈ ks, k.size = s) :
    ∃ a cap, v = .slice a ks.length cap ∧ ks.length ≤ maxLen ∧ (ks.length = 0 ∨ ∃ b off, a = some ⟨b, off, none⟩ ∧ b < w.heap.size ∧ ∀ i, i < ks.length → w.rangeAt b (off + i * s) (ks[i]?.getD #[]).toList) := by
  rcases h.2 with ⟨rfl, h0⟩ | ⟨g, cap, cur, rfl, hb, hg, h1, h2, h3, h4⟩
  · exact ⟨none, 0, by rw [h0], by rw [h0]; exact Nat.zero_le _, .inl h0⟩
  · refine ⟨_, cap, rfl, Nat.le_trans h1 h2, .inr ⟨g, 0, rfl, (Array.getElem?_eq_some_iff.1 hg).1, fun i hi j u hj => ?_⟩⟩
    have hks : (ks[i]?.getD #[]).size = s := by
      rw [List.getElem?_eq_getElem hi]
      exact hk _ (List.getElem_mem hi)
    have hjs : j < s := by
      have := (List.getElem?_eq_some_iff.1 hj).1
      rw [Array.length_toList, hks] at this
      exact this
    have e := flat_at s ks hk i hi j hjs
    rw [hj] at e
    have hlen : i * s + j < (ks.flatMap Array.toList).length := (List.getElem?_eq_some_iff.1 e).1
    rw [Nat.zero_add, h.cellAt (i * s + j) (by have := h.1; omega)]
    exact e
theorem rdP_of_own {w : World} {B : Nat} {v : Value} {ks : List (Array Value)} (h : OwnP w B v ks) (hk : ∀ k ∈ ks, KOKP k) : RdP w v ks := rdK_of_own h (fun k hk' => (hk k hk').size)
theorem rdW_of_own {w : World} {B : Nat} {v : Value} {ks : List (Array Value)} (h : OwnW w B v ks) (hk : ∀ k ∈ ks, KOKW k) : RdW w v ks := rdK_of_own h (fun k hk' => (hk k hk').size)

theorem pkL_ok (l : List (List Int)) : ∀ k ∈ pkL l, KOKP k := by
  intro k hk
  obtain ⟨x, hx, rfl⟩ := List.mem_map.1 hk
  exact packK_ok x (of_decide_eq_true (List.mem_filter.1 hx).2)
theorem wdL_ok (l : List (List Int)) (h20 : ∀ x ∈ l, x.length ≤ 20) (hwf : ∀ x ∈ l, ∀ z ∈ x, (Lit.int .i64 z).wf = true) : ∀ k ∈ wdL l, KOKW k := by
  intro k hk
  obtain ⟨x, hx, rfl⟩ := List.mem_map.1 hk
  have := (List.mem_filter.1 hx).1
  exact wideK_ok x (h20 x this) (hwf x this)

theorem packK_inj (x y : List Int) (hx : fits x) (hy : fits y) (h : packK x = packK y) : x = y := by
  have key : ∀ j, j < 8 → (if j < x.length then x[j]?.getD 0 + 1 else 0) = (if j < y.length then y[j]?.getD 0 + 1 else (0 : Int)) := by
    intro j hj
    have h1 := packK_at x hx j hj
    rw [h, packK_at y hy j hj] at h1
    simpa using h1.symm
  have hl : ∀ (x y : List Int), fits x → fits y → (∀ j, j < 8 → (if j < x.length then x[j]?.getD 0 + 1 else 0) = (if j < y.length then y[j]?.getD 0 + 1 else (0 : Int))) → ¬ x.length < y.length := by
    intro x y hx hy key hlt
    have h8 := hy.1
    have h1 := key x.length (by omega)
    rw [if_neg (Nat.lt_irrefl _), if_pos hlt] at h1
    have := (hy.2 x.length hlt).1
    omega
  have h1 := hl x y hx hy key
  have h2 := hl y x hy hx (fun j hj => (key j hj).symm)
  have e : x.length = y.length := by omega
  refine List.ext_getElem e fun i h3 h4 => ?_
  have h8 := hx.1
  have h5 := key i (by omega)
  rw [if_pos h3, if_pos h4, List.getElem?_eq_getElem h3, List.getElem?_eq_getElem h4] at h5
  simpa using h5
theorem wideK_inj (x y : List Int) (hx : x.length ≤ 20) (hy : y.length ≤ 20) (h : wideK x = wideK y) : x = y := by
  have h0 := wideK_zero x
  rw [h, wideK_zero y] at h0
  have e : x.length = y.length := by
    have := h0
    simp at this
    omega
  refine List.ext_getElem e fun i h3 h4 => ?_
  have h5 := wideK_at x i h3
  rw [h, wideK_at y i h4, List.getElem?_eq_getElem h3, List.getElem?_eq_getElem h4] at h5
  simpa using h5.symm

/-- What the sorting is asked. -/
def SortAll : Prop := ∀ (w : World) (B : Nat) (V : Value) (VS : Nat → Value) (L : List (List Int)), FamL w B V VS L → Sep L.length VS → L.Nodup → L.length ≤ 100000 → B ≤ w.heap.size →
  Calls Try.prog 105 #[V, .func (.func 101) #[] #[]] w fun e w' => e = .returned (.tuple #[]) ∧ ∃ VS' zs, FamL w' B V VS' zs ∧ Sep zs.length VS' ∧ Asc zs ∧ (∀ x, x ∈ zs ↔ x ∈ L) ∧ Below B w w'

end Go.Proofs.Ytnmilkehggjpfaa
end
