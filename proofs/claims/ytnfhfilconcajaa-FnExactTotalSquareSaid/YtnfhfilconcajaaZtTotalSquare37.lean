/-
  Joined: YPad.
-/
import Derived.Test.YtnfhfilconcajaaZtTotalSquare20
import Derived.Test.YtnfhfilconcajaaZtTotalSquare29
import Derived.Test.YtnfhfilconcajaaZtTotalSquare22
import Derived.Test.YtnfhfilconcajaaZtTotalSquare27
section
namespace Go.Proofs.Ytnfhfilconcajaa
open Go.RowKit
set_option linter.unusedVariables false
set_option maxRecDepth 100000

theorem isX_sm {xs : List Int} (h : isX xs) (h4 : xs.length ≤ 4) : SmL xs := by
  refine ⟨h4, fun j => ?_⟩
  by_cases hj : j < xs.length
  · have := (isX_iff.1 h).1 j hj
    unfold gOf at this
    omega
  · rw [List.getElem?_eq_none (by omega)]
    simp
theorem pad_mono {xs : List Int} (h : isX xs) (h4 : xs.length ≤ 4) : Mono4 (sumL xs).toNat (padY xs) := by
  have h1 := (isX_iff.1 h).1
  match xs, h4, h1 with
  | [], _, _ => exact ⟨0, 0, 0, 0, rfl, by simp [sumL, dsum]⟩
  | [a], _, h1 =>
    have ha := (h1 0 (by simp)).1
    simp [gOf] at ha
    exact ⟨a.toNat, 0, 0, 0, by simp [padY, List.replicate]; omega, by simp [sumL, dsum, gOf]⟩
  | [a, b], _, h1 =>
    have ha := (h1 0 (by simp)).1
    have hb := (h1 1 (by simp)).1
    simp [gOf] at ha hb
    exact ⟨a.toNat, b.toNat, 0, 0, by simp [padY, List.replicate]; omega, by simp [sumL, dsum, gOf]; omega⟩
  | [a, b, c], _, h1 =>
    have ha := (h1 0 (by simp)).1
    have hb := (h1 1 (by simp)).1
    have hc := (h1 2 (by simp)).1
    simp [gOf] at ha hb hc
    exact ⟨a.toNat, b.toNat, c.toNat, 0, by simp [padY]; omega, by simp [sumL, dsum, gOf]; omega⟩
  | [a, b, c, d], _, h1 =>
    have ha := (h1 0 (by simp)).1
    have hb := (h1 1 (by simp)).1
    have hc := (h1 2 (by simp)).1
    have hd := (h1 3 (by simp)).1
    simp [gOf] at ha hb hc hd
    exact ⟨a.toNat, b.toNat, c.toNat, d.toNat, by simp [padY]; omega, by simp [sumL, dsum, gOf]; omega⟩
theorem pad_plus {r s : List Int} (h : r.length = s.length) (h4 : r.length ≤ 4) : padY (plusL r s) = addY (padY r) (padY s) := by
  match r, s, h, h4 with
  | [], [], _, _ => simp [padY, plusL, plusTo, List.replicate, addY_lit]
  | [a], [a'], _, _ => simp [padY, plusL, plusTo, List.replicate, addY_lit, List.range_succ]
  | [a, b], [a', b'], _, _ => simp [padY, plusL, plusTo, List.replicate, addY_lit, List.range_succ]
  | [a, b, c], [a', b', c'], _, _ => simp [padY, plusL, plusTo, addY_lit, List.range_succ]
  | [a, b, c, d], [a', b', c', d'], _, _ => simp [padY, plusL, plusTo, addY_lit, List.range_succ]
theorem take_pad {k : Nat} {xs : List Int} (h : xs.length = k) : (padY xs).take k = xs := by
  unfold padY
  rw [← h]
  exact List.take_left' rfl
theorem lexLt_append : ∀ (xs ys zs : List Int), xs.length = ys.length → lexLt (xs ++ zs) (ys ++ zs) = lexLt xs ys
  | [], [], zs, _ => by rw [List.nil_append]; rw [lexLt_irrefl]; rfl
  | x :: xs, y :: ys, zs, h => by
    rw [List.cons_append, List.cons_append, lexLt, lexLt, lexLt_append xs ys zs (by simpa using h)]
theorem pad_inj {k : Nat} (xs ys : List Int) (hx : xs.length = k) (hy : ys.length = k) (h : padY xs = padY ys) : xs = ys := by
  rw [← take_pad hx, ← take_pad hy, h]
theorem oddY_pad {k : Nat} (T : List (List Int)) (h : ∀ t ∈ T, t.length = k) : oddY (T.map padY) = (oddY T).map padY := by
  refine (oddY_eq ?_ fun z => ?_).symm
  · unfold Asc
    rw [List.pairwise_map]
    refine (oddY_spec T).1.imp_of_mem ?_
    intro a b ha hb hab
    have e1 := h a (oddY_mem ha)
    have e2 := h b (oddY_mem hb)
    unfold padY
    rw [e1, e2, lexLt_append _ _ _ (e1.trans e2.symm)]
    exact hab
  · constructor
    · intro hz
      obtain ⟨t, ht, rfl⟩ := List.mem_map.1 hz
      have hp := ((oddY_spec T).2 t).1 ht
      exact (par_map padY (fun t => t.length = k) (fun x y hx hy e => pad_inj x y hx hy e) t (h t (par_mem _ _ hp)) T h).2 hp
    · intro hz
      obtain ⟨t, ht, rfl⟩ := List.mem_map.1 (par_mem _ _ hz)
      exact List.mem_map.2 ⟨t, ((oddY_spec T).2 t).2 ((par_map padY (fun t => t.length = k) (fun x y hx hy e => pad_inj x y hx hy e) t (h t ht) T h).1 hz), rfl⟩
theorem take_pads {k : Nat} (T : List (List Int)) (h : ∀ t ∈ T, t.length = k) : (T.map padY).map (List.take k) = T := by
  rw [List.map_map]
  conv => rhs; rw [← List.map_id T]
  exact List.map_congr_left fun t ht => take_pad (h t ht)
/-- The program's sum, cut to its variables, is the specification's. -/
theorem take_odd {k : Nat} (T : List (List Int)) (h : ∀ t ∈ T, t.length = k) : (oddY (T.map padY)).map (List.take k) = oddY T := by
  rw [oddY_pad T h, take_pads _ fun t ht => h t (oddY_mem ht)]
theorem prodY_pad {k : Nat} (h4 : k ≤ 4) (U V : List (List Int)) (hU : ∀ t ∈ U, t.length = k) (hV : ∀ t ∈ V, t.length = k) : prodY (U.map padY) (V.map padY) = (sumsY U V).map padY := by
  unfold prodY sumsY
  rw [List.flatMap_map, List.map_flatMap]
  have : ∀ r ∈ U, List.map (addY (padY r)) (V.map padY) = (V.map (plusL r)).map padY := fun r hr => by
    rw [List.map_map, List.map_map]
    exact List.map_congr_left fun s hs => by
      show addY (padY r) (padY s) = padY (plusL r s)
      rw [pad_plus ((hU r hr).trans (hV s hs).symm) (by rw [hU r hr]; exact h4)]
  clear hU
  induction U with
  | nil => rfl
  | cons r U ih =>
    rw [List.flatMap_cons, List.flatMap_cons, this r List.mem_cons_self, ih fun r' hr' => this r' (List.mem_cons_of_mem _ hr')]
theorem plusL_len (r s : List Int) : (plusL r s).length = r.length := plusTo_len _ _ _
theorem sumsY_row {k : Nat} {U V : List (List Int)} (hU : ∀ t ∈ U, t.length = k) : ∀ t ∈ sumsY U V, t.length = k := fun t ht => by
  obtain ⟨r, hr, ht⟩ := List.mem_flatMap.1 ht
  obtain ⟨s, _, rfl⟩ := List.mem_map.1 ht
  rw [plusL_len, hU r hr]
end Go.Proofs.Ytnfhfilconcajaa
end
