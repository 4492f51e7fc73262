/-
  Joined: PFill, PProd.
-/
import Derived.Test.YtggebkcmokpcmaaZBHit36
import Derived.BigRegion
import Derived.Deep.DeepCutAuto
import Derived.Test.YtggebkcmokpcmaaZBHit02
import Derived.Test.YtggebkcmokpcmaaZBHit20
section
namespace Go.Proofs.Ytggebkcmokpcmaa
open Go.RowKit
set_option linter.unusedVariables false
set_option maxRecDepth 100000

theorem trimTo_len (l : List Int) : ∀ j, (trimTo l j).length ≤ j
  | 0 => Nat.le_refl _
  | j + 1 => by
    unfold trimTo
    split
    · have := trimTo_len l j; omega
    · rw [List.length_take]; omega
theorem resS_len {n m : Nat} {T : Tab} {l : List Int} (h : resS n m T = some l) : l.length ≤ n + m := by
  unfold resS at h
  split at h
  · cases h
    have := trimTo_len (outs T n m (n + m)) (outs T n m (n + m)).length
    rw [outs_len] at this
    unfold trim
    rw [outs_len]
    exact this
  · cases h

def FillPost (B : Nat) (w : World) (L R : List (List Int)) (e : Ending) (w' : World) : Prop :=
  ∃ O OS M, e = .returned O ∧ FamL w' B O OS M ∧ Sep M.length OS ∧ Asc M ∧ Below w.heap.size w w' ∧ (∀ z, M.count z % 2 = (L.count z + R.count z) % 2) ∧ M.length ≤ L.length + R.length
theorem mx_iff {i j : Nat} {T : Tab} (hT : ∀ a b, 0 ≤ T a b ∧ T a b ≤ 1000000) (x : Nat) : x ≤ mx (i, j) T ↔ ((x * 2 ^ j : Nat) : Int) ≤ T i 0 ∧ (x : Int) ≤ T 0 j := by
  rw [le_mx (fun k => ⟨(hT k 0).1, (hT 0 k).1⟩) x, show ((x * 2 ^ j : Nat) : Int) = (x : Int) * 2 ^ j by simp]
theorem mv_bound {i j : Nat} (hi : 0 < i) (hj : 0 < j) {T : Tab} (hT : ∀ a b, 0 ≤ T a b ∧ T a b ≤ 1000000) (h0 : T i j = 0) (x : Nat) (hx : x ≤ mx (i, j) T) : ∀ a b, 0 ≤ mv i j (x : Int) T a b ∧ mv i j (x : Int) T a b ≤ 1000000 := by
  intro a b
  have h1 := (mx_iff hT x).1 hx
  rw [show ((x * 2 ^ j : Nat) : Int) = (x : Int) * 2 ^ j by simp] at h1
  have h2 : (0 : Int) ≤ (x : Int) * 2 ^ j := Int.mul_nonneg (by omega) (Int.le_of_lt (pow_pos' _))
  have h3 := hT i 0
  have h4 := hT 0 j
  unfold mv
  split
  · rw [h0]; omega
  · split
    · omega
    · split
      · omega
      · exact hT a b
theorem shl_ok (x j y : Nat) (hj : j ≤ 5) (hx : x ≤ 1000001) (hy : x * 2 ^ j = y) : wrap64 ((x : Int) * 2 ^ j) = (y : Int) ∧ y ≤ 1000001 * 32 := by
  have h1 : x * 2 ^ j ≤ 1000001 * 2 ^ 5 := Nat.mul_le_mul hx (Nat.pow_le_pow_right (by omega) hj)
  rw [← show ((x * 2 ^ j : Nat) : Int) = (x : Int) * 2 ^ j by simp, hy]
  unfold wrap64
  omega

theorem tab_cell {w : World} {B n m i g q : Nat} {U : Value} {US : Nat → Value} {T : Tab} (h : Fam w B U n US (tabX T m)) (hi : i < n) (e : US i = .slice (some ⟨g, 0, none⟩) (m + 1) q) (j : Nat) (hj : j ≤ m) : w.cell? ⟨g, j, none⟩ = some (.int .i64 (T i j)) ∧ w.frozen? ⟨g, j, none⟩ = false := by
  have o := h.inn i hi
  rw [e, tabX_len] at o
  refine ⟨?_, World.ownsRow.frozenAt o j⟩
  rw [o.cellAt j (by omega)]
  unfold tabX
  rw [List.getElem?_map, List.getElem?_map, List.getElem?_range (by omega)]
  rfl
/-- The copy of a table, with x at (i, j), in three steps. -/
def put1 (w2 : World) (gt j : Nat) (a : Int) : World := (w2.setCell ⟨gt, j, none⟩ (.int .i64 a)).drew
def put2 (w2 : World) (gt gr j : Nat) (a b : Int) : World := (put1 w2 gt j a).setCell ⟨gr, 0, none⟩ (.int .i64 b)
def put3 (w2 : World) (gt gr j : Nat) (a b c : Int) : World := (put2 w2 gt gr j a b).setCell ⟨gr, j, none⟩ (.int .i64 c)
structure Copied (w1 w2 : World) (U : Value) (US : Nat → Value) (n m i j x : Nat) (T : Tab) (t0 ti y : Int) (bu cu gt qt gr qr : Nat) : Prop where
  u : U = .slice (some ⟨bu, 0, none⟩) (n + 1) cu
  c0 : w2.cell? ⟨bu, 0, none⟩ = some (.slice (some ⟨gt, 0, none⟩) (m + 1) qt)
  ci : w2.cell? ⟨bu, i, none⟩ = some (.slice (some ⟨gr, 0, none⟩) (m + 1) qr)
  d0 : w2.cell? ⟨gt, j, none⟩ = some (.int .i64 t0) ∧ w2.frozen? ⟨gt, j, none⟩ = false
  d1 : (put1 w2 gt j (t0 - x)).cell? ⟨gr, 0, none⟩ = some (.int .i64 ti) ∧ (put1 w2 gt j (t0 - x)).frozen? ⟨gr, 0, none⟩ = false
  d2 : (put2 w2 gt gr j (t0 - x) (ti - y)).cell? ⟨gr, j, none⟩ = some (.int .i64 0) ∧ (put2 w2 gt gr j (t0 - x) (ti - y)).frozen? ⟨gr, j, none⟩ = false
  fam : Fam (put3 w2 gt gr j (t0 - x) (ti - y) x) w1.heap.size U (n + 1) US (tabX (mv i j (x : Int) T) m)
  bel : Below w1.heap.size w1 (put3 w2 gt gr j (t0 - x) (ti - y) x)
theorem fill_copy {w1 w2 : World} {n m i j x : Nat} {U : Value} {US : Nat → Value} {T : Tab} {t0 ti y : Int} (FU : Fam w2 w1.heap.size U (n + 1) US (tabX T m)) (hUS : Sep (n + 1) US) (hb2 : Below w1.heap.size w1 w2)
    (h1 : 1 ≤ i) (h2 : 1 ≤ j) (hi : i ≤ n) (hj : j ≤ m) (ht0 : T 0 j = t0) (hti : T i 0 = ti) (h0 : T i j = 0) (hy : (x : Int) * 2 ^ j = y) :
    ∃ bu cu gt qt gr qr, Copied w1 w2 U US n m i j x T t0 ti y bu cu gt qt gr qr := by
  obtain ⟨gt, qt, et, zt⟩ := row_at FU 0 (by omega)
  obtain ⟨gr, qr, er, zr⟩ := row_at FU i (by omega)
  obtain ⟨au, cu, rfl, hmu, hcu⟩ := FU.head
  obtain ⟨bu, rfl, hcu2⟩ := hcu.resolve_left (by omega)
  have c0 := hcu2 0 (by omega)
  have ci := hcu2 i (by omega)
  rw [et] at c0
  rw [er] at ci
  obtain ⟨S0, l1⟩ := Fam.stored FU hUS 0 (by omega) et j hj (t0 - x)
  have S1 : Fam (put1 w2 gt j (t0 - x)) w1.heap.size _ (n + 1) US (tabX (updT T 0 j (t0 - x)) m) := S0.below ((Below.refl _ _).drew)
  have d1 := tab_cell S1 (by omega) er 0 (by omega)
  obtain ⟨S2, l2⟩ := Fam.stored S1 hUS i (by omega) er 0 (by omega) (ti - y)
  have d2 := tab_cell S2 (by omega) er j hj
  obtain ⟨S3, l3⟩ := Fam.stored S2 hUS i (by omega) er j hj x
  have EQ := mv_upd (i := i) (j := j) (by omega) (by omega) (x : Int) T h0
  rw [ht0, hti, hy] at EQ
  rw [EQ] at S3
  have d0 := tab_cell FU (by omega) et j hj
  have e1 : updT T 0 j (t0 - x) i 0 = ti := by unfold updT; rw [if_neg (by omega), hti]
  have e2 : updT (updT T 0 j (t0 - x)) i 0 (ti - y) i j = 0 := by unfold updT; rw [if_neg (by omega), if_neg (by omega), h0]
  rw [ht0] at d0
  rw [e1] at d1
  rw [e2] at d2
  exact ⟨bu, cu, gt, qt, gr, qr, rfl, c0, ci, d0, d1, d2, S3, (((hb2.setCell l1 _).drew).setCell l2 _).setCell l3 _⟩

theorem fill_round {res : Tab → Option (List Int)} {i j x : Nat} {qs : List (Nat × Nat)} {T : Tab} {L M M' : List (List Int)} (hC : ∀ z, M.count z % 2 = (L.count z + (resTo res (i, j) qs T x).count z) % 2) (hN : M.length ≤ L.length + (resTo res (i, j) qs T x).length)
    (k5 : ∀ z, M'.count z % 2 = (M.count z + (resF res qs (mv i j (x : Int) T)).count z) % 2) (k6 : M'.length ≤ M.length + (resF res qs (mv i j (x : Int) T)).length) :
    (∀ z, M'.count z % 2 = (L.count z + (resTo res (i, j) qs T (x + 1)).count z) % 2) ∧ M'.length ≤ L.length + (resTo res (i, j) qs T (x + 1)).length := by
  have e : resTo res (i, j) qs T (x + 1) = resTo res (i, j) qs T x ++ resF res qs (mv i j (x : Int) T) := resTo_succ res (i, j) qs T x
  rw [e]
  refine ⟨fun z => ?_, ?_⟩
  · have h1 := k5 z
    have h2 := hC z
    rw [List.count_append]
    omega
  · rw [List.length_append]
    omega

theorem five (j : Nat) (h1 : 1 ≤ j) (h5 : j ≤ 5) : (j = 1 ∧ (j : Int) + 1 = 2) ∨ (j = 2 ∧ (j : Int) + 1 = 3) ∨ (j = 3 ∧ (j : Int) + 1 = 4) ∨ (j = 4 ∧ (j : Int) + 1 = 5) ∨ (j = 5 ∧ (j : Int) + 1 = 6) := by omega

end Go.Proofs.Ytggebkcmokpcmaa
end
section
namespace Go.Proofs.Ytggebkcmokpcmaa
open Go.RowKit
set_option linter.unusedVariables false
set_option maxRecDepth 100000

/-- The table at the start: only its edges. -/
def T0 (r s : List Int) : Tab := fun a b => match a, b with
  | 0, 0 => 0
  | 0, b + 1 => s[b]?.getD 0
  | a + 1, 0 => r[a]?.getD 0
  | _ + 1, _ + 1 => 0
theorem tab_top (r s : List Int) : tabX (T0 r s) s.length 0 = 0 :: s := by
  refine List.ext_getElem? fun k => ?_
  unfold tabX
  rw [List.getElem?_map]
  cases k with
  | zero => simp [T0]
  | succ k =>
    rw [List.getElem?_cons_succ]
    by_cases h : k < s.length
    · rw [List.getElem?_range (by omega), List.getElem?_eq_getElem h]
      simp [T0, h]
    · rw [List.getElem?_eq_none (by rw [List.length_range]; omega), List.getElem?_eq_none (by omega)]
      rfl
theorem tab_row (r s : List Int) (i : Nat) : tabX (T0 r s) s.length (i + 1) = (List.replicate (s.length + 1) (0 : Int)).set 0 (r[i]?.getD 0) := by
  refine List.ext_getElem? fun k => ?_
  unfold tabX
  rw [List.getElem?_map, List.getElem?_set, List.length_replicate]
  cases k with
  | zero => simp [T0]
  | succ k =>
    rw [if_neg (by omega), List.getElem?_replicate]
    by_cases h : k + 1 < s.length + 1
    · rw [List.getElem?_range h, if_pos h]
      rfl
    · rw [List.getElem?_eq_none (by rw [List.length_range]; omega), if_neg h]
      rfl
theorem T0_in (r s : List Int) (p : Nat × Nat) (h1 : 1 ≤ p.1) (h2 : 1 ≤ p.2) : T0 r s p.1 p.2 = 0 := by
  obtain ⟨a, b⟩ := p
  obtain ⟨a, rfl⟩ : ∃ c, a = c + 1 := ⟨a - 1, by simp only at h1; omega⟩
  obtain ⟨b, rfl⟩ : ∃ c, b = c + 1 := ⟨b - 1, by simp only at h2; omega⟩
  rfl
theorem getD_bound {l : List Int} (h : ∀ z ∈ l, 0 ≤ z ∧ z ≤ 1000000) (i : Nat) : 0 ≤ l[i]?.getD 0 ∧ l[i]?.getD 0 ≤ 1000000 := by
  by_cases k : i < l.length
  · rw [List.getElem?_eq_getElem k]
    exact h _ (List.getElem_mem k)
  · rw [List.getElem?_eq_none (by omega)]
    exact ⟨by decide, by decide⟩
theorem T0_bound {r s : List Int} (hr : ∀ z ∈ r, 0 ≤ z ∧ z ≤ 1000000) (hs : ∀ z ∈ s, 0 ≤ z ∧ z ≤ 1000000) : ∀ a b, 0 ≤ T0 r s a b ∧ T0 r s a b ≤ 1000000
  | 0, 0 => ⟨Int.le_refl 0, by show (0 : Int) ≤ 1000000; omega⟩
  | 0, b + 1 => getD_bound hs b
  | a + 1, 0 => getD_bound hr a
  | _ + 1, _ + 1 => ⟨Int.le_refl 0, by show (0 : Int) ≤ 1000000; omega⟩

/-- A row as a source. -/
theorem src_of_own {w : World} {B n : Nat} {v : Value} {e : TypeId} {xs : List Value} (h : w.ownsRow B e 1 v n xs) : ∃ ap c, v = .slice ap n c ∧ ((ap = none ∧ n = 0 ∧ c = 0) ∨ ∃ ad, ap = some ad ∧ ∀ j u, xs[j]? = some u → w.cell? (ad.add j) = some u) := by
  rcases h.2 with ⟨rfl, rfl⟩ | ⟨g, cap, cur, rfl, _⟩
  · exact ⟨none, 0, rfl, .inl ⟨rfl, rfl, rfl⟩⟩
  · exact ⟨_, cap, rfl, .inr ⟨_, rfl, own_src h⟩⟩

theorem shape_pos {w : World} {B n : Nat} {v : Value} {xs : List Value} {e : TypeId} {s : Nat} (h : w.ownsRow B e s v n xs) (hn : 0 < n) : ∃ g cap, v = .slice (some ⟨g, 0, none⟩) n cap := by
  rcases h.2 with ⟨_, h1⟩ | ⟨g, cap, cur, h1, _⟩
  · omega
  · exact ⟨g, cap, h1⟩
theorem fam_one {w3 : World} {B : Nat} {v : Value} {x : List Int} (h : w3.ownsRow B 2 1 v x.length (x.map (Value.int .i64))) (hB : B ≤ w3.heap.size) : FamL (w3.alloc (.cells #[v] 42)) B (.slice (some ⟨w3.heap.size, 0, none⟩) 1 1) (fun _ => v) [x] := by
  refine ⟨own_base (by simpa [List.range_succ] using own_one w3 v 42) hB, fun i hi => ?_⟩
  obtain rfl : i = 0 := by simp at hi; exact hi
  exact h.alloc _

end Go.Proofs.Ytggebkcmokpcmaa
end
