/-
  Joined: PAll, PArr.
-/
import Derived.Test.YtnmilkehggjpfaaZBMil18
import Derived.Test.YtnmilkehggjpfaaZBMil14
import Derived.Deep.MidRow
import Derived.Deep.WholeRow
import Derived.ChangeKeysEq
section
namespace Go.Proofs.Ytnmilkehggjpfaa
set_option linter.unusedVariables false
set_option maxRecDepth 100000

/-- A table of n rows and m columns with small numbers. -/
structure Nice (n m : Nat) (y : Tab) : Prop where
  ok : okT y
  inn : inn y n m
  sm : ∀ a b, 0 ≤ y a b ∧ y a b ≤ 1000000
theorem Nice.move {n m : Nat} {y : Tab} (h : Nice n m y) {p : Nat × Nat} (hp : inP p) (h0 : y p.1 p.2 = 0) {v : Nat} (hv : v ≤ mx p y) : Nice n m (mv p.1 p.2 (v : Int) y) := by
  obtain ⟨k1, k2⟩ := (le_mx h.ok v).1 hv
  have k3 := mv_ok hp h.ok hv
  have k4 : (0 : Int) ≤ (v : Int) * 2 ^ p.2 := Int.mul_nonneg (by omega) (Int.le_of_lt (pow_pos' _))
  by_cases hz : v = 0
  · subst hz; rw [show ((0 : Nat) : Int) = 0 from rfl, mv_zero]; exact h
  have q1 : p.1 ≤ n := by
    apply Classical.byContradiction
    intro c
    have e := h.inn p.1 0 (Or.inl (by omega))
    have : (1 : Int) * 2 ^ p.2 ≤ (v : Int) * 2 ^ p.2 := Int.mul_le_mul_of_nonneg_right (by omega) (Int.le_of_lt (pow_pos' _))
    have := pow_pos' p.2
    omega
  have q2 : p.2 ≤ m := by
    apply Classical.byContradiction
    intro c
    have e := h.inn 0 p.2 (Or.inr (by omega))
    omega
  refine ⟨k3, fun a b hab => ?_, fun a b => ?_⟩
  · unfold mv
    rw [if_neg (by omega)]
    by_cases e2 : a = p.1 ∧ b = 0
    · omega
    · rw [if_neg e2]
      by_cases e3 : a = 0 ∧ b = p.2
      · omega
      · rw [if_neg e3]; exact h.inn a b hab
  · unfold mv
    by_cases e1 : a = p.1 ∧ b = p.2
    · rw [if_pos e1, h0]
      have := (h.sm 0 p.2).2
      omega
    · rw [if_neg e1]
      by_cases e2 : a = p.1 ∧ b = 0
      · rw [if_pos e2]
        have := (h.sm p.1 0).2
        omega
      · rw [if_neg e2]
        by_cases e3 : a = 0 ∧ b = p.2
        · rw [if_pos e3]
          have := (h.sm 0 p.2).2
          omega
        · rw [if_neg e3]; exact h.sm a b
theorem allE_nice {n m : Nat} : ∀ (ps : List (Nat × Nat)) (T : Tab), (∀ p ∈ ps, inP p) → ps.Nodup → Nice n m T → (∀ p ∈ ps, T p.1 p.2 = 0) → ∀ y ∈ allE ps T, Nice n m y
  | [], T, _, _, hT, _, y, hy => by rw [List.mem_singleton.1 hy]; exact hT
  | p :: ps, T, hin, hn, hT, h0, y, hy => by
    obtain ⟨n1, n2⟩ := List.nodup_cons.1 hn
    have hps : ∀ q ∈ ps, inP q := fun q hq => hin q (List.mem_cons_of_mem _ hq)
    obtain ⟨u, hu, hy⟩ := List.mem_flatMap.1 hy
    obtain ⟨v, hv, rfl⟩ := List.mem_map.1 hy
    have hv' := List.mem_range.1 hv
    have h1 := allE_nice ps T hps n2 hT (fun q hq => h0 q (List.mem_cons_of_mem _ hq)) u hu
    have h2 := (allE_ok ps T hps hT.ok u hu).2 p (hin p List.mem_cons_self) n1
    exact h1.move (hin p List.mem_cons_self) (by rw [h2]; exact h0 p List.mem_cons_self) (by omega)
theorem T0_inn (r s : List Int) : inn (T0 r s) r.length s.length := fun i j h => by
  match i, j with
  | 0, 0 => rfl
  | 0, j + 1 => rw [T0_col, List.getElem?_eq_none (by omega)]; rfl
  | i + 1, 0 => rw [T0_row, List.getElem?_eq_none (by omega)]; rfl
  | _ + 1, _ + 1 => rfl
theorem T0_nice {r s : List Int} (hr : goodE r) (hs : goodE s) : Nice r.length s.length (T0 r s) := ⟨T0_ok hr hs, T0_inn r s, T0_bound (good_small hr) (good_small hs)⟩
theorem posI_low : ∀ p ∈ posI, p.1 + p.2 ≤ 5 := by decide
theorem posI_all : ∀ i j, 0 < i → 0 < j → (i, j) ∈ posI → i + j ≤ 5 := fun i j _ _ h => posI_low (i, j) h

/-- The counter's tables. -/
theorem tabs_nice {r s : List Int} (hr : goodE r) (hs : goodE s) (ps : List (Nat × Nat)) (e : ps = posI) : ∀ y ∈ allE ps (T0 r s), Nice r.length s.length y :=
  allE_nice ps (T0 r s) (fun p h => posI_in p (e ▸ h)) (e ▸ posI_nodup) (T0_nice hr hs) (fun p h => T0_pos r s p (e ▸ h))
theorem tabs_far {r s : List Int} (hr : goodE r) (hs : goodE s) (ps : List (Nat × Nat)) (e : ps = posI) : ∀ y ∈ allE ps (T0 r s), ∀ i j, 6 ≤ i + j → y i j = 0 := fun y hy i j h => by
  have N := tabs_nice hr hs ps e y hy
  have r5 := good_len hr
  have s5 := good_len hs
  by_cases hi : i = 0
  · exact N.inn i j (Or.inr (by omega))
  · by_cases hj : j = 0
    · exact N.inn i j (Or.inl (by omega))
    · rw [(allE_ok ps (T0 r s) (fun p h => posI_in p (e ▸ h)) (T0_ok hr hs) y hy).2 (i, j) ⟨by omega, by omega⟩ (fun h1 => by have := posI_low (i, j) (e ▸ h1); simp only at this; omega)]
      exact T0_in r s (i, j) (by simp only; omega) (by simp only; omega)
theorem tabs_res {r s : List Int} (hr : goodE r) (hs : goodE s) (ps : List (Nat × Nat)) (e : ps = posI) : ∀ y ∈ allE ps (T0 r s), resS r.length s.length y = resI y := fun y hy =>
  resS_resI (tabs_nice hr hs ps e y hy).inn (tabs_far hr hs ps e y hy) (tabs_nice hr hs ps e y hy).sm
theorem filterMap_same {α β : Type} {f g : α → Option β} : ∀ {l : List α}, (∀ x ∈ l, f x = g x) → l.filterMap f = l.filterMap g
  | [], _ => rfl
  | x :: l, h => by
    have ih := filterMap_same fun y hy => h y (List.mem_cons_of_mem _ hy)
    rw [List.filterMap_cons, List.filterMap_cons, h x List.mem_cons_self, ih]
/-- All results of the counter, in its order. -/
noncomputable def cntL (r s : List Int) : List (List Int) := (allE posI (T0 r s)).filterMap resI
theorem cntL_par {r s : List Int} (hr : goodE r) (hs : goodE s) (hd : dgL r + dgL s ≤ 40) (z : List Int) : par (cntL r s) z ↔ par (prodL r s) z := by
  unfold cntL
  rw [← filterMap_same (tabs_res hr hs posI rfl)]
  exact prodL_par hr hs hd z

/-- The counter counts on from a place. -/
def restP (i j : Nat) : List (Nat × Nat) := posI.filter fun p => decide (i < p.1 ∨ (i = p.1 ∧ j ≤ p.2))
def okRest (i j : Nat) : Bool := if i = 0 then true else if j = 0 then true else if i + j < 6 then restP i j == (i, j) :: restP i (j + 1) else restP i j == restP (i + 1) 1
theorem okRest_b : ∀ i, i < 6 → ∀ j, j < 7 → okRest i j = true := by decide
theorem restP_all {i j : Nat} (hi : 0 < i) (hj : 0 < j) (h : i + j < 6) : restP i j = (i, j) :: restP i (j + 1) := by
  have := okRest_b i (by omega) j (by omega)
  unfold okRest at this
  rw [if_neg (by omega), if_neg (by omega), if_pos h] at this
  exact eq_of_beq this
theorem restP_next {i j : Nat} (hi : 0 < i) (hi6 : i < 6) (hj : 0 < j) (hj7 : j < 7) (h : 6 ≤ i + j) : restP i j = restP (i + 1) 1 := by
  have := okRest_b i hi6 j hj7
  unfold okRest at this
  rw [if_neg (by omega), if_neg (by omega), if_neg (by omega)] at this
  exact eq_of_beq this
theorem restP_one : restP 1 1 = posI := by decide
theorem restP_end : restP 6 1 = [] := by decide
end Go.Proofs.Ytnmilkehggjpfaa
end
section
namespace Go.Proofs.Ytnmilkehggjpfaa
open Go.RowKit
set_option linter.unusedVariables false
set_option maxRecDepth 100000

/-- The 36 numbers of a table. -/
def tabL (T : Tab) : List Int := (List.range 36).map fun k => T (k / 6) (k % 6)
def tabA (T : Tab) : Array Value := ((tabL T).map (Value.int .i64)).toArray
theorem tabA_size (T : Tab) : (tabA T).size = 36 := by simp [tabA, tabL]
theorem tabA_one (T : Tab) : (tabA T).all (·.oneCell') = true := by
  refine Array.all_eq_true_iff_forall_mem.2 fun v hv => ?_
  unfold tabA at hv
  rw [List.mem_toArray] at hv
  obtain ⟨z, _, rfl⟩ := List.mem_map.1 hv
  rfl
theorem tabA_at (T : Tab) (i j : Nat) (hi : i < 6) (hj : j < 6) : (tabA T)[i * 6 + j]? = some (.int .i64 (T i j)) := by
  unfold tabA tabL
  rw [List.getElem?_toArray, List.getElem?_map, List.getElem?_map, List.getElem?_range (by omega)]
  have e1 : (i * 6 + j) / 6 = i := by omega
  have e2 : (i * 6 + j) % 6 = j := by omega
  simp [e1, e2]
theorem tabA_upd (T : Tab) (i j : Nat) (hi : i < 6) (hj : j < 6) (x : Int) : (tabA T).set! (i * 6 + j) (.int .i64 x) = tabA (updT T i j x) := by
  apply Array.ext_getElem?
  intro k
  rw [Array.set!_eq_setIfInBounds, Array.getElem?_setIfInBounds]
  by_cases hk : k < 36
  · obtain ⟨a, b, ha, hb, rfl⟩ : ∃ a b, a < 6 ∧ b < 6 ∧ k = a * 6 + b := ⟨k / 6, k % 6, by omega, by omega, by omega⟩
    rw [tabA_at _ a b ha hb, tabA_at _ a b ha hb]
    unfold updT
    by_cases e : a = i ∧ b = j
    · rw [if_pos (by rw [e.1, e.2]), if_pos e, if_pos (by rw [tabA_size]; omega)]
    · rw [if_neg (by omega), if_neg e]
  · rw [if_neg (by omega), Array.getElem?_eq_none (by rw [tabA_size]; omega), Array.getElem?_eq_none (by rw [tabA_size]; omega)]
theorem sizeT : (Try.prog.info? 147).map (·.size) = some 36 := by kernel_rfl
theorem zeroT : (Try.prog.info? 147).map (fun i => (i.zero, i.size)) = some (some (.agg (tabA fun _ _ => 0)), 36) := by kernel_rfl

/-- The table T lies in block b. -/
def TabAt (w : World) (b : Nat) (T : Tab) : Prop := w.heap[b]? = some (.cells (tabA T) 147 (0, 0))
section
variable {w w' : World} {b : Nat} {T : Tab}
theorem TabAt.lt (h : TabAt w b T) : b < w.heap.size := (Array.getElem?_eq_some_iff.1 h).1
theorem TabAt.cell (h : TabAt w b T) (i j : Nat) (hi : i < 6) (hj : j < 6) : w.cell? ⟨b, i * 6 + j, none⟩ = some (.int .i64 (T i j)) := by
  rw [cell_of_row w b (i * 6 + j) _ _ _ h, tabA_at T i j hi hj]
theorem TabAt.fr (h : TabAt w b T) (k : Nat) : w.frozen? ⟨b, k, none⟩ = false := by
  simp [World.frozen?, show w.heap[b]? = _ from h]
theorem TabAt.set (h : TabAt w b T) (i j : Nat) (hi : i < 6) (hj : j < 6) (x : Int) : TabAt (w.setCell ⟨b, i * 6 + j, none⟩ (.int .i64 x)) b (updT T i j x) := by
  have := heap_setCell_same w b (i * 6 + j) _ _ (.int .i64 x) h
  rw [← Array.set!_eq_setIfInBounds, tabA_upd T i j hi hj] at this
  exact this
theorem TabAt.up (h : TabAt w b T) (k : Below w.heap.size w w') : TabAt w' b T := (k.block _ h.lt).trans h
theorem TabAt.range (h : TabAt w b T) : w.rangeAt b 0 (tabA T).toList := fun j v hv => by
  rw [Nat.zero_add, cell_of_row w b j _ _ _ h]
  simpa using hv
end

/-- A table is loaded whole. -/
theorem ldT {ops : Array Oper} {rest : List Oper} {op : Oper} {a : Act} {w : World} {Q : Exit → Act → World → Prop} (hgd : op.guard = none) (x : Operand) (ho : op.op = .load 147 x)
    (b : Nat) (hx : a.eval x = .pointer (some ⟨b, 0, none⟩)) (T : Tab) (hc : TabAt w b T) (h : wpList Try.prog ops Q rest (a.put op.dst (.agg (tabA T))) w) : wpList Try.prog ops Q (op :: rest) a w :=
  wpList_load_mid hgd 147 x ho b 0 hx (tabA T).toList _ hc.range Try.underlying147 rfl (by rw [sizeT, Array.length_toList, tabA_size]) (by simpa using h)

/-! ### Comparing -/
theorem eqItems_all (P : Program) (d : Nat) (e : TypeId) (c : Nat) (xs ys : Array Value) (w : World) (f : Nat → Bool) : ∀ is : List Nat,
    (∀ i ∈ is, ∃ a b, (part e xs (i * c)).run P w = .ok a w ∧ (part e ys (i * c)).run P w = .ok b w ∧ (Op.equalIn d e a b).run P w = .ok (f i) w) → (Op.eqItems d e c xs ys is).run P w = .ok (is.all f) w
  | [], _ => by simp [Op.eqItems]
  | i :: is, h => by
    obtain ⟨a, b, h1, h2, h3⟩ := h i List.mem_cons_self
    have ih := eqItems_all P d e c xs ys w f is fun j hj => h j (List.mem_cons_of_mem _ hj)
    simp only [Op.eqItems, Sem.run_bind, h1, h2, h3, Result.andThen_ok, List.all_cons]
    cases f i
    · simp
    · simpa using ih
theorem infoR : (Try.prog.info? 145).map (·.size) = some 6 := by kernel_rfl
theorem infoZ : (Try.prog.info? 2).map (·.size) = some 1 := by kernel_rfl
theorem info_has {t : TypeId} {n : Nat} (h : (Try.prog.info? t).map (·.size) = some n) : ∃ i, Try.prog.info? t = some i ∧ Try.prog.cellsOf t = n := by
  cases hq : Try.prog.info? t with
  | none => simp [hq] at h
  | some i => refine ⟨i, rfl, ?_⟩; simp [Program.cellsOf, hq] at h ⊢; exact h
theorem aggR (w : World) (xs : Array Value) (o : Nat) : (part 145 xs o).run Try.prog w = .ok (.agg (xs.extract o (o + 6))) w := by
  obtain ⟨i, hi, _⟩ := info_has infoR
  have hs : i.size = 6 := by have := infoR; simpa [hi] using this
  have hagg : (isAgg 145).run Try.prog w = .ok true w := by
    unfold isAgg
    rw [Sem.run_bind, run_underlying Try.underlying145 w]
    rfl
  simp [part, Sem.run_bind, hagg, sizeOf, typeInfo, hi, hs]
theorem intZ (w : World) (xs : Array Value) (o : Nat) (v : Value) (h : xs[o]? = some v) : (part 2 xs o).run Try.prog w = .ok v w :=
  run_part_plain w (by simp [Program.plainKey, Try.underlying2]) h
/-- Are two tables equal? -/
def sameTab (T T' : Tab) : Bool := (List.range 6).all fun i => (List.range 6).all fun j => T i j == T' i j
theorem row_eq (d : Nat) (T T' : Tab) (w : World) (i : Nat) (hi : i < 6) : (Op.equalIn (d + 2) 145 (.agg ((tabA T).extract (i * 6) (i * 6 + 6))) (.agg ((tabA T').extract (i * 6) (i * 6 + 6)))).run Try.prog w = .ok ((List.range 6).all fun j => T i j == T' i j) w := by
  obtain ⟨z, hz, hc⟩ := info_has infoZ
  rw [run_equalIn_array w (d + 1) _ _ Try.underlying145 hz, hc]
  refine eqItems_all _ _ _ _ _ _ w _ _ fun j hj => ?_
  have hj := List.mem_range.1 hj
  have at_ : ∀ T : Tab, ((tabA T).extract (i * 6) (i * 6 + 6))[j * 1]? = some (.int .i64 (T i j)) := fun T => by
    rw [Array.getElem?_extract, if_pos (by rw [tabA_size]; omega), Nat.mul_one, tabA_at T i j hi hj]
  exact ⟨_, _, intZ w _ _ _ (at_ T), intZ w _ _ _ (at_ T'), run_equalIn_int w d 2 .i64 .i64 _ _ Try.underlying2⟩
theorem tab_eq (T T' : Tab) (w : World) : (binOp .eql 147 (.agg (tabA T)) (.agg (tabA T'))).run Try.prog w = .ok (.bool (sameTab T T')) w := by
  obtain ⟨z, hz, hc⟩ := info_has infoR
  rw [run_eql_struct, run_equalIn_array w 9999 _ _ Try.underlying147 hz, hc]
  rw [eqItems_all _ _ _ _ _ _ w (fun i => (List.range 6).all fun j => T i j == T' i j) _ fun i hi => ⟨_, _, aggR w _ _, aggR w _ _, row_eq 9997 T T' w i (List.mem_range.1 hi)⟩]
  rfl
theorem sameTab_iff (T T' : Tab) : sameTab T T' = true ↔ ∀ i, i < 6 → ∀ j, j < 6 → T i j = T' i j := by
  unfold sameTab
  rw [List.all_eq_true]
  constructor
  · intro h i hi j hj
    have := List.all_eq_true.1 (h i (List.mem_range.2 hi)) j (List.mem_range.2 hj)
    simpa using this
  · intro h i hi
    rw [List.all_eq_true]
    intro j hj
    simpa using h i (List.mem_range.1 hi) j (List.mem_range.1 hj)
end Go.Proofs.Ytnmilkehggjpfaa
end
