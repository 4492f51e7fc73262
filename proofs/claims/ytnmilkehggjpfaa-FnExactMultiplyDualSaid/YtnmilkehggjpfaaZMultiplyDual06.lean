/-
  Joined: EPlain, EJoin, ETimes.
-/
import Derived.Test.YtnmilkehggjpfaaZMultiplyDual05
import Derived.Test.YtnmilkehggjpfaaZBMil38
import Derived.Test.YtnmilkehggjpfaaZBMil06
import Derived.Test.YtnmilkehggjpfaaZBMil39
import Derived.Test.YtnmilkehggjpfaaZBMil17
import Derived.Deep.RegionLaw
import Derived.Test.YtnmilkehggjpfaaZBMil27
section
namespace Go.Proofs.Ytnmilkehggjpfaa.Dl
open Go.RowKit Go.Proofs.Ytnmilkehggjpfaa.Ml
set_option linter.unusedVariables false
set_option maxRecDepth 100000

theorem padL_at {xs : List Int} (h : xs.length ≤ 5) (j : Nat) : (padL xs)[j]?.getD 0 = xs[j]?.getD 0 := by
  unfold padL
  by_cases hj : j < xs.length
  · rw [List.getElem?_append_left hj]
  · rw [List.getElem?_append_right (by omega), List.getElem?_replicate, List.getElem?_eq_none (by omega : xs.length ≤ j)]
    split <;> rfl
theorem addL_at (xs ys : List Int) (j : Nat) (hj : j < 5) : (addL xs ys)[j]?.getD 0 = xs[j]?.getD 0 + ys[j]?.getD 0 := by
  unfold addL
  rw [addTo_at _ _ _ _ hj, if_pos hj]
/-- A list is known by its numbers and that it does not end in 0. -/
theorem pad_inj : ∀ {x y : List Int}, lastOk x → lastOk y → (∀ j : Nat, x[j]?.getD 0 = y[j]?.getD 0) → x = y := fun {x y} hx hy h => by
  have hl : ∀ {x y : List Int}, lastOk x → (∀ j : Nat, x[j]?.getD 0 = y[j]?.getD 0) → x.length ≤ y.length := fun {x y} hx h => by
    rcases hx with rfl | hx
    · exact Nat.zero_le _
    · apply Classical.byContradiction
      intro hn
      rw [h, List.getElem?_eq_none (by omega)] at hx
      exact hx rfl
  have e : x.length = y.length := Nat.le_antisymm (hl hx h) (hl hy fun j => (h j).symm)
  refine List.ext_getElem e fun i h1 h2 => ?_
  have := h i
  rw [List.getElem?_eq_getElem h1, List.getElem?_eq_getElem h2] at this
  exact this
/-- The product of two exponent lists. -/
def joinL (r s : List Int) : List Int := trim (addL (padL r) (padL s))
/-- The sums of the first k numbers, as the specification makes them. -/
def joinI (r s : List Int) (k : Nat) : List Int := (List.range k).map fun i => r[i]?.getD 0 + s[i]?.getD 0
theorem joinI_len (r s : List Int) (k : Nat) : (joinI r s k).length = k := by simp [joinI]
theorem joinI_at (r s : List Int) (k j : Nat) : (joinI r s k)[j]?.getD 0 = if j < k then r[j]?.getD 0 + s[j]?.getD 0 else 0 := by
  unfold joinI
  rw [List.getElem?_map]
  by_cases h : j < k
  · rw [List.getElem?_range h, if_pos h]; rfl
  · rw [List.getElem?_eq_none (by rw [List.length_range]; omega), if_neg h]; rfl
theorem lastOk_of {xs : List Int} (h : isE xs) : lastOk xs := by
  rcases h.2.1 with e | e
  · exact .inl (List.eq_nil_of_length_eq_zero e)
  · exact .inr e
theorem trim_at {l : List Int} (h : l.length = 5) (j : Nat) : (trim l)[j]?.getD 0 = l[j]?.getD 0 := by
  conv => rhs; rw [← pad_trim h]
  exact (padL_at (trim_len5 h) j).symm
theorem join_eq {r s : List Int} (hr : goodE r) (hs : goodE s) : joinI r s (max r.length s.length) = joinL r s := by
  have lr := good_len hr
  have ls := good_len hs
  have A5 : (addL (padL r) (padL s)).length = 5 := addTo_len _ _ _
  have nn : ∀ (x : List Int) (j : Nat), goodE x → 0 ≤ x[j]?.getD 0 := fun x j h => (good_part h j).1
  refine pad_inj ?_ ?_ fun j => ?_
  · by_cases h0 : max r.length s.length = 0
    · left; rw [h0]; rfl
    · right
      rw [joinI_len, joinI_at, if_pos (by omega)]
      rcases Nat.le_total r.length s.length with h | h
      · rw [Nat.max_eq_right h] at h0 ⊢
        have h1 := (lastOk_of hs.1).resolve_left (by intro e; rw [e] at h0; exact h0 rfl)
        have h2 := nn s (s.length - 1) hs
        have h3 := nn r (s.length - 1) hr
        omega
      · rw [Nat.max_eq_left h] at h0 ⊢
        have h1 := (lastOk_of hr.1).resolve_left (by intro e; rw [e] at h0; exact h0 rfl)
        have h2 := nn r (r.length - 1) hr
        have h3 := nn s (r.length - 1) hs
        omega
  · exact (trim_ok (addL (padL r) (padL s)) _ (Nat.le_refl _)).2
  · rw [joinI_at]
    unfold joinL
    rw [trim_at A5]
    by_cases h5 : j < 5
    · rw [addL_at _ _ _ h5, padL_at lr, padL_at ls]
      split
      · rfl
      · rw [List.getElem?_eq_none (by omega), List.getElem?_eq_none (by omega)]; rfl
    · rw [if_neg (by omega), List.getElem?_eq_none (by omega)]; rfl
theorem ok5_pad {r : List Int} (h : goodE r) : Ok5 1000000 (padL r) := ⟨padL_len (good_len h), fun z hz => by
  rcases List.mem_append.1 hz with hz | hz
  · exact good_small h z hz
  · rw [(List.mem_replicate.1 hz).2]; omega⟩
theorem trimTo_memD (l : List Int) : ∀ (j : Nat) (z : Int), z ∈ trimTo l j → z ∈ l
  | 0, z, h => by cases h
  | j + 1, z, h => by
    rw [trimTo] at h
    split at h
    · exact trimTo_memD l j z h
    · exact List.mem_of_mem_take h
theorem joinL_ok {r s : List Int} (hr : goodE r) (hs : goodE s) : (joinL r s).length ≤ 5 ∧ ∀ z ∈ joinL r s, 0 ≤ z ∧ z ≤ 2000000 :=
  ⟨trim_len5 (addTo_len _ _ _), fun z hz => ((ok5_pad hr).add (by omega) (by omega) (ok5_pad hs)).2 z (trimTo_memD _ _ z hz)⟩
theorem joinL_good {r s : List Int} (hr : goodE r) (hs : goodE s) (hd : dgL r + dgL s ≤ 40) : goodE (joinL r s) ∧ dgL (joinL r s) = dgL r + dgL s := by
  have lr := good_len hr
  have ls := good_len hs
  have h1 := joinL_ok hr hs
  obtain ⟨k1, k2⟩ := trim_ok (addL (padL r) (padL s)) _ (Nat.le_refl _)
  have hE : isE (joinL r s) := isE_of h1.1 (fun z hz => by have := h1.2 z hz; omega) k2
  have e : dgL (joinL r s) = dgL r + dgL s := by
    rw [dgL_wt hE, dgL_wt hr.1, dgL_wt hs.1]
    have A5 : (addL (padL r) (padL s)).length = 5 := addTo_len _ _ _
    rw [List.take_length] at k1
    show wt 0 (trimTo _ _) = _
    rw [k1, wt5 r lr, wt5 s ls, wt5 _ (by omega)]
    rw [addL_at _ _ 0 (by omega), addL_at _ _ 1 (by omega), addL_at _ _ 2 (by omega), addL_at _ _ 3 (by omega), addL_at _ _ 4 (by omega)]
    simp only [padL_at lr, padL_at ls]
    omega
  exact ⟨⟨hE, by rw [e]; exact hd⟩, e⟩

/-- All products of lists of both, with repetitions. -/
def joins (A B : List (List Int)) : List (List Int) := A.flatMap fun r => B.map (joinL r)
theorem joins_snoc (A B : List (List Int)) (r : List Int) : joins (A ++ [r]) B = joins A B ++ B.map (joinL r) := by simp [joins]
theorem joins_trim (A B : List (List Int)) : (prodK (A.map padL) (B.map padL)).map trim = joins A B := by
  unfold prodK joins
  rw [List.map_flatMap, List.flatMap_map]
  congr 1
  funext r
  rw [List.map_map, List.map_map]
  rfl
theorem prodK_five (A B : List (List Int)) : ∀ k ∈ prodK A B, k.length = 5 := fun k hk => by
  obtain ⟨x, hx, hk⟩ := List.mem_flatMap.1 hk
  obtain ⟨y, hy, rfl⟩ := List.mem_map.1 hk
  exact addTo_len _ _ _
/-- What the program's sum of products has. -/
theorem joins_par (A B : List (List Int)) (z : List Int) : (∃ k, par (prodK (A.map padL) (B.map padL)) k ∧ trim k = z) ↔ par (joins A B) z := by
  rw [← joins_trim]
  have inj : ∀ x y : List Int, x.length = 5 → y.length = 5 → trim x = trim y → x = y := fun x y hx hy e => trim_inj hx hy e
  constructor
  · rintro ⟨k, hk, rfl⟩
    exact (par_map trim (fun l => l.length = 5) inj k (prodK_five _ _ k (par_mem _ _ hk)) _ (prodK_five _ _)).2 hk
  · intro h
    obtain ⟨k, hk, rfl⟩ := List.mem_map.1 (par_mem _ _ h)
    exact ⟨k, (par_map trim (fun l => l.length = 5) inj k (prodK_five _ _ k hk) _ (prodK_five _ _)).1 h, rfl⟩
end Go.Proofs.Ytnmilkehggjpfaa.Dl
end
section
namespace Go.Proofs.Ytnmilkehggjpfaa.Dl
open Go.RowKit Go.Proofs.Ytnmilkehggjpfaa.Ml
set_option linter.unusedVariables false
set_option maxRecDepth 100000

theorem rowsL_ofE (zs : List (List Int)) : rowsL (rowsOf zs) zs.length = zs := by
  apply List.ext_getElem
  · simp [rowsL]
  · intro i h1 h2
    simp [rowsL, rowsOf, h2]
theorem joinI_succ (r s : List Int) (k : Nat) : joinI r s (k + 1) = joinI r s k ++ [r[k]?.getD 0 + s[k]?.getD 0] := by simp [joinI, List.range_succ]

set_option maxHeartbeats 1000000 in
theorem l06Join_any (v u : Value) (r s : List Int) (w : World) (hv : RdL w v r) (hu : RdL w u s) (hr : r.length ≤ 100) (hs : s.length ≤ 100) (hb : ∀ j : Nat, 0 ≤ r[j]?.getD 0 ∧ r[j]?.getD 0 ≤ 10000000 ∧ 0 ≤ s[j]?.getD 0 ∧ s[j]?.getD 0 ≤ 10000000) :
    Calls Try.prog 102 #[v, u] w (RowRes (joinI r s (max r.length s.length)) w) := by
  obtain ⟨a, cap, rfl, hm, hc⟩ := hv
  obtain ⟨a2, cap2, rfl, hm2, hc2⟩ := hu
  have HC := Lib.hid hc
  have HC2 := Lib.hid hc2
  have HB := Lib.hid hb
  obtain ⟨M, hM⟩ : ∃ M, max r.length s.length = M := ⟨_, rfl⟩
  rw [hM]
  have O0 : Hid ((w.alloc (.cells #[] 2)).ownsRow w.heap.size 2 1 (.slice (some ⟨w.heap.size, 0, none⟩) 0 0) 0 ((joinI r s 0).map (Value.int .i64))) := Lib.hid (World.ownsRow_made w #[] 0 (Nat.le_refl _) (Nat.zero_le _) (by simp))
  have B0 : Hid (Below w.heap.size w (w.alloc (.cells #[] 2))) := Lib.hid ((Below.refl _ _).alloc (Nat.le_refl _) _)
  clear hc hc2 hb hm hm2
  go_enter Try.func102, Try.ntmps102
  go_wp2_with fail
  go_loopw [5, 6, 7] (fun S c _ wr => ∃ k : Nat, k ≤ M ∧ c = .int .i64 k ∧ Hid (wr.ownsRow w.heap.size 2 1 S k ((joinI r s k).map (Value.int .i64))) ∧ Hid (Below w.heap.size w wr)) (fun _ c _ _ => M - (intOf c).toNat)
  case atStart => exact ⟨0, by omega, rfl, O0, B0⟩
  case round =>
    clear O0 B0
    obtain ⟨k, hk, rfl, hO, hB⟩ := hrel
    have hM2 : M ≤ 100 := by omega
    have hb := HB.out k
    have NX : Hid ((joinI r s (k + 1)).map (Value.int .i64) = (joinI r s k).map (Value.int .i64) ++ [.int .i64 (r[k]?.getD 0 + s[k]?.getD 0)]) := Lib.hid (by rw [joinI_succ, List.map_append]; rfl)
    have C1 : Hid (k < r.length → ∃ b off, a = some ⟨b, off, none⟩ ∧ wr.cell? ⟨b, off + k, none⟩ = some (.int .i64 (r[k]?.getD 0))) := Lib.hid fun h => by
      obtain ⟨b, off, rfl, hc⟩ := HC.out.resolve_left (by omega)
      exact ⟨b, off, rfl, (hB.out.cell (p := ⟨b, off + k, none⟩) (World.block_lt_of_cell? w _ (hc k h))).trans (hc k h)⟩
    have C2 : Hid (k < s.length → ∃ b off, a2 = some ⟨b, off, none⟩ ∧ wr.cell? ⟨b, off + k, none⟩ = some (.int .i64 (s[k]?.getD 0))) := Lib.hid fun h => by
      obtain ⟨b, off, rfl, hc⟩ := HC2.out.resolve_left (by omega)
      exact ⟨b, off, rfl, (hB.out.cell (p := ⟨b, off + k, none⟩) (World.block_lt_of_cell? w _ (hc k h))).trans (hc k h)⟩
    have Z1 : Hid (¬ k < r.length → r[k]?.getD 0 = 0) := Lib.hid fun h => by rw [List.getElem?_eq_none (by omega)]; rfl
    have Z2 : Hid (¬ k < s.length → s[k]?.getD 0 = 0) := Lib.hid fun h => by rw [List.getElem?_eq_none (by omega)]; rfl
    have AP : Hid (∀ (x : Int) v' w', w'.ownsRow w.heap.size 2 1 v' (k + 1) ((joinI r s k).map (Value.int .i64) ++ [.int .i64 x]) → (wr.alloc (.cells #[.int .i64 x] 2)).grownBy w' u5.ownBlock → x = r[k]?.getD 0 + s[k]?.getD 0 → w'.ownsRow w.heap.size 2 1 v' (k + 1) ((joinI r s (k + 1)).map (Value.int .i64)) ∧ Below w.heap.size w w') := Lib.hid fun x v' w' h1 h2 h3 => by
      refine ⟨by rw [NX.out, ← h3]; exact h1, ?_⟩
      exact (hB.out.alloc hB.out.size _).grown h2 (by have := hB.out.size; simp; omega) (fun q hq => (hO.out.lt q hq).1)
    have OA : Hid (∀ x : Int, (wr.alloc (.cells #[.int .i64 x] 2)).ownsRow w.heap.size 2 1 u5 k ((joinI r s k).map (Value.int .i64))) := Lib.hid fun x => hO.out.alloc _
    have SA : Hid (∀ x : Int, w.heap.size ≤ (wr.alloc (.cells #[.int .i64 x] 2)).heap.size) := Lib.hid fun x => by have := hB.out.size; simp; omega
    have hw1 : wrap64 (r[k]?.getD 0) = r[k]?.getD 0 := wrap_same (by omega) (by omega)
    have hw2 : wrap64 (r[k]?.getD 0 + s[k]?.getD 0) = r[k]?.getD 0 + s[k]?.getD 0 := wrap_same (by omega) (by omega)
    have hw3 : wrap64 (s[k]?.getD 0) = s[k]?.getD 0 := wrap_same (by omega) (by omega)
    clear NX
    by_cases h1 : k < r.length
    · have h1' : (k : Int) < (r.length : Int) := by omega
      obtain ⟨b, off, rfl, c1⟩ := C1.out h1
      by_cases h2 : k < s.length
      · have h2' : (k : Int) < (s.length : Int) := by omega
        obtain ⟨b2, off2, rfl, c2⟩ := C2.out h2
        clear C1 C2 Z1 Z2 hO
        generalize r[k]?.getD 0 = p at *
        generalize s[k]?.getD 0 = q at *
        have hkM : k < M := by omega
        clear hM
        go_wp2_with (at_builtin; refine wpList_ints _ rfl _ _ rfl w.heap.size k _ _ rfl (OA.out (p + q)) (some ⟨wr.heap.size, 0, none⟩) 1 1 [Value.int .i64 (p + q)] rfl (.inr ⟨_, rfl, cell_one_new _ _ _⟩) rfl (by simp [Value.oneCell']) (by omega) (SA.out (p + q)) ?_; intro v3 w3 ho3 hg3; have P3 := Lib.hid (AP.out (p + q) v3 w3 ho3 hg3 (by omega)); clear ho3 hg3)
        go_roundw
        case rel => exact ⟨k + 1, by omega, by go_num, Lib.hid P3.out.1, Lib.hid P3.out.2⟩
        case measure => simp [intOf]; omega
      · have h2' : ¬ (k : Int) < (s.length : Int) := by omega
        have z2 := Z2.out h2
        rw [z2] at AP
        clear C1 C2 Z1 Z2 hO z2 hw2 hw3
        generalize r[k]?.getD 0 = p at *
        have hkM : k < M := by omega
        clear hM
        go_wp2_with (at_builtin; refine wpList_ints _ rfl _ _ rfl w.heap.size k _ _ rfl (OA.out (p)) (some ⟨wr.heap.size, 0, none⟩) 1 1 [Value.int .i64 (p)] rfl (.inr ⟨_, rfl, cell_one_new _ _ _⟩) rfl (by simp [Value.oneCell']) (by omega) (SA.out (p)) ?_; intro v3 w3 ho3 hg3; have P3 := Lib.hid (AP.out (p) v3 w3 ho3 hg3 (by omega)); clear ho3 hg3)
        go_roundw
        case rel => exact ⟨k + 1, by omega, by go_num, Lib.hid P3.out.1, Lib.hid P3.out.2⟩
        case measure => simp [intOf]; omega
    · have h1' : ¬ (k : Int) < (r.length : Int) := by omega
      have z1 := Z1.out h1
      by_cases h2 : k < s.length
      · have h2' : (k : Int) < (s.length : Int) := by omega
        obtain ⟨b2, off2, rfl, c2⟩ := C2.out h2
        rw [z1] at AP
        clear C1 C2 Z1 Z2 hO hw1 hw2 z1
        generalize s[k]?.getD 0 = q at *
        have hkM : k < M := by omega
        clear hM
        go_wp2_with (at_builtin; refine wpList_ints _ rfl _ _ rfl w.heap.size k _ _ rfl (OA.out (q)) (some ⟨wr.heap.size, 0, none⟩) 1 1 [Value.int .i64 (q)] rfl (.inr ⟨_, rfl, cell_one_new _ _ _⟩) rfl (by simp [Value.oneCell']) (by omega) (SA.out (q)) ?_; intro v3 w3 ho3 hg3; have P3 := Lib.hid (AP.out (q) v3 w3 ho3 hg3 (by omega)); clear ho3 hg3)
        go_roundw
        case rel => exact ⟨k + 1, by omega, by go_num, Lib.hid P3.out.1, Lib.hid P3.out.2⟩
        case measure => simp [intOf]; omega
      · have h2' : ¬ (k : Int) < (s.length : Int) := by omega
        obtain rfl : k = M := by omega
        have O9 : Hid (wr.ownsRow w.heap.size 2 1 u5 (joinI r s k).length ((joinI r s k).map (Value.int .i64))) := Lib.hid (by rw [joinI_len]; exact hO.out)
        clear C1 C2 Z1 Z2 hw1 hw2 hw3 z1 hO AP OA SA
        go_wp2_with fail
        go_ret
        exact ⟨_, rfl, O9.out, hB.out⟩
end Go.Proofs.Ytnmilkehggjpfaa.Dl
end
section
namespace Go.Proofs.Ytnmilkehggjpfaa.Dl
open Go.RowKit Go.Proofs.Ytnmilkehggjpfaa.Ml
set_option linter.unusedVariables false
set_option maxRecDepth 100000

theorem oddL_snoc (Z : List (List Int)) (x : List Int) : mrg (oddL Z) [x] = oddL (Z ++ [x]) := by
  have ha : Asc [x] := List.pairwise_singleton _ _
  obtain ⟨h1, h2⟩ := mrg_spec (oddL Z) [x] (oddL_spec Z).1 ha
  refine oddL_eq h1 fun z => ?_
  rw [h2, par_append, (oddL_spec Z).2, par_nodup [x] ha.nodup]
theorem oddL_le (Z : List (List Int)) : (oddL Z).length ≤ Z.length := nodup_len _ _ (oddL_spec Z).1.nodup fun x hx => par_mem _ _ (((oddL_spec Z).2 x).1 hx)
theorem oddL_memD {Z : List (List Int)} {x : List Int} (h : x ∈ oddL Z) : x ∈ Z := par_mem _ _ (((oddL_spec Z).2 x).1 h)

theorem joins_len (A B : List (List Int)) : (joins A B).length = A.length * B.length := by
  induction A with
  | nil => simp [joins]
  | cons x xs ih =>
    have e : joins (x :: xs) B = B.map (joinL x) ++ joins xs B := by simp [joins]
    rw [e, List.length_append, ih, List.length_map, List.length_cons, Nat.succ_mul]
    omega
structure TiI (w : World) (S : Value) (VS : Nat → Value) (Z : List (List Int)) (wr : World) : Prop where
  bel : Below w.heap.size w wr
  fam : FamL wr w.heap.size S VS (oddL Z)
  sep : Sep (oddL Z).length VS

def LPost (T : List (List Int)) (w : World) (e : Ending) (w' : World) : Prop := ∃ V VS, e = .returned V ∧ FamL w' w.heap.size V VS T ∧ Sep T.length VS ∧ Below w.heap.size w w'

theorem TiI.next {w wr w5 w7 : World} {S V : Value} {VS : Nat → Value} {Z : List (List Int)} {x : List Int} {o : Obj} (h : TiI w S VS Z wr) (b5 : Below wr.heap.size wr w5) (p : LPost (oddL (Z ++ [x])) (w5.alloc o) (.returned V) w7) : ∃ VS', TiI w V VS' (Z ++ [x]) w7 := by
  obtain ⟨V', VS', e, f, s, b⟩ := p
  cases e
  have b6 : Below wr.heap.size wr (w5.alloc o) := b5.alloc b5.size _
  exact ⟨VS', (h.bel.step1 b6).step1 b, f.base (Nat.le_trans h.bel.size b6.size), s⟩

/-- One more product. -/
theorem one_more (w wr w5 : World) (S : Value) (VS : Nat → Value) (Z : List (List Int)) (x : List Int) (ua : Option Addr) (uc : Nat) (h : TiI w S VS Z wr) (b5 : Below wr.heap.size wr w5) (ho : w5.ownsRow wr.heap.size 2 1 (.slice ua x.length uc) x.length (x.map (Value.int .i64))) (hZ : Z.length ≤ 2000000) (h5 : ∀ z ∈ Z, z.length ≤ 5) (hx : x.length ≤ 5) :
    Calls Try.prog 58 #[S, .slice (some ⟨w5.heap.size, 0, none⟩) 1 1] (w5.alloc (.cells #[.slice ua x.length uc] 65)) (LPost (oddL (Z ++ [x])) (w5.alloc (.cells #[.slice ua x.length uc] 65))) := by
  have F1 : FamL (w5.alloc (.cells #[.slice ua x.length uc] 65)) w.heap.size S VS (oddL Z) := (h.fam.below b5).below ((Below.refl _ _).alloc (Nat.le_refl _) _)
  have F2 := one_famP (B := wr.heap.size) ho b5.size
  have hl := oddL_le Z
  have k := l01Sum_any S _ (oddL Z).length 1 (rowsOf (oddL Z)) (rowsOf [x]) VS (fun _ => .slice ua x.length uc) _ _ _ F1 F2 (by omega) (by omega) (fun i hi => by
    unfold rowsOf
    rw [List.getElem?_eq_getElem hi]
    have := h5 _ (oddL_memD (List.getElem_mem hi))
    simp only [Option.getD_some]; omega) (fun i hi => by
    obtain rfl : i = 0 := by omega
    show x.length ≤ _
    omega)
  have e1 : rowsL (rowsOf (oddL Z)) (oddL Z).length = oddL Z := rowsL_ofE _
  have e2 : rowsL (rowsOf [x]) 1 = [x] := rowsL_ofE [x]
  rw [e1, e2, oddL_snoc] at k
  exact k

set_option maxHeartbeats 4000000 in
theorem l06Times_any (Va Vb : Value) (m n : Nat) (X Y : Nat → List Int) (w : World) (ha : RdSS w Va m X) (hb : RdSS w Vb n Y) (hX : ∀ i, i < m → goodE (X i)) (hY : ∀ i, i < n → goodE (Y i)) (hm : m ≤ 1000) (hn : n ≤ 1000) :
    Calls Try.prog 69 #[Va, Vb] w (LPost (oddL (joins (rowsL X m) (rowsL Y n))) w) := by
  obtain ⟨⟨a, cap, rfl⟩, hsm, VS, hc, hr⟩ := ha
  obtain ⟨⟨a2, cap2, rfl⟩, hsm2, VS2, hc2, hr2⟩ := hb
  have HC := Lib.hid hc
  have HC2 := Lib.hid hc2
  have HR := Lib.hid hr
  have HR2 := Lib.hid hr2
  have HX := Lib.hid hX
  have HY := Lib.hid hY
  have I0 : Hid (TiI w (.slice (some ⟨w.heap.size, 0, none⟩) 0 0) (fun _ => undef) (joins (rowsL X 0) (rowsL Y n)) (w.alloc (.cells #[] 65))) := Lib.hid ⟨(Below.refl _ _).alloc (Nat.le_refl _) _, ⟨World.ownsRow_made w #[] 0 (Nat.le_refl _) (Nat.zero_le _) (by simp), fun i hi => absurd hi (Nat.not_lt_zero _)⟩, fun i j hi => absurd hi (Nat.not_lt_zero _)⟩
  clear hc hc2 hr hr2 hX hY hsm hsm2
  go_enter Try.func69, Try.ntmps69
  go_wp2_with fail
  go_loopw [5, 6, 7] (fun S c _ wr => ∃ (i : Nat) (US : Nat → Value), i ≤ m ∧ c = .int .i64 i ∧ Hid (TiI w S US (joins (rowsL X i) (rowsL Y n)) wr)) (fun _ c _ _ => m - (intOf c).toNat)
  case atStart => exact ⟨0, _, by omega, rfl, I0⟩
  case round =>
    clear I0
    obtain ⟨i, US, hi, rfl, hI⟩ := hrel
    by_cases hlt : i < m
    · have hlt' : (i : Int) < (m : Int) := by omega
      have JS : Hid (joins (rowsL X (i + 1)) (rowsL Y n) = joins (rowsL X i) (rowsL Y n) ++ (rowsL Y n).map (joinL (X i))) := Lib.hid (by rw [rowsL_succ, joins_snoc])
      have JL : Hid ((joins (rowsL X i) (rowsL Y n)).length ≤ 1000000) := Lib.hid (by
        rw [joins_len, rowsL_len, rowsL_len]
        exact Nat.le_trans (Nat.mul_le_mul (by omega : i ≤ 1000) hn) (by decide))
      have J5 : Hid (∀ z ∈ joins (rowsL X i) (rowsL Y n), z.length ≤ 5) := Lib.hid fun z hz => by
        obtain ⟨r, hr, hz⟩ := List.mem_flatMap.1 hz
        obtain ⟨s, hs, rfl⟩ := List.mem_map.1 hz
        exact trim_len5 (addTo_len _ _ _)
      obtain ⟨b, off, ⟨cap', e⟩, hc'⟩ := HC.out.resolve_left (by omega)
      cases e
      have hcb := hc' i hlt
      have HCB := Lib.hid hcb
      have I1 : Hid (TiI w u5 US (joins (rowsL X i) (rowsL Y n) ++ (rowsL Y 0).map (joinL (X i))) wr) := Lib.hid (by
        have e0 : (rowsL Y 0).map (joinL (X i)) = [] := rfl
        rw [e0, List.append_nil]; exact hI.out)
      generalize joins (rowsL X i) (rowsL Y n) = Z at *
      clear hc' hcb hI
      go_wp2_with fail
      obtain ⟨wo, hwo⟩ : ∃ wo, wo = wr := ⟨_, rfl⟩
      subst hwo
      go_loopw [5, 7] (fun S c wr => ∃ (k : Nat) (US : Nat → Value), k ≤ n ∧ c = .int .i64 k ∧ Hid (TiI w S US (Z ++ (rowsL Y k).map (joinL (X i))) wr)) (fun _ c _ => n - (intOf c).toNat)
      case atStart => exact ⟨0, _, by omega, rfl, I1⟩
      case round =>
        clear I1
        obtain ⟨k, US2, hk, rfl, hI⟩ := hrel
        by_cases hkn : k < n
        · have hkn' : (k : Int) < (n : Int) := by omega
          obtain ⟨b2, off2, ⟨cap2', e⟩, hc2'⟩ := HC2.out.resolve_left (by omega)
          cases e
          have c1 : wr.cell? ⟨b, off + i, none⟩ = some (VS i) := (hI.out.bel.cell (p := ⟨b, off + i, none⟩) (World.block_lt_of_cell? w _ HCB.out)).trans HCB.out
          have c2 : wr.cell? ⟨b2, off2 + k, none⟩ = some (VS2 k) := (hI.out.bel.cell (p := ⟨b2, off2 + k, none⟩) (World.block_lt_of_cell? w _ (hc2' k hkn))).trans (hc2' k hkn)
          have GX := HX.out i hlt
          have GY := HY.out k hkn
          have JN := Lib.hid (l06Join_any (VS i) (VS2 k) (X i) (Y k) wr.drew ((HR.out i hlt).below (hI.out.bel.trans ((Below.refl _ wr).drew.mono hI.out.bel.size))) ((HR2.out k hkn).below (hI.out.bel.trans ((Below.refl _ wr).drew.mono hI.out.bel.size))) (by have := good_len GX; omega) (by have := good_len GY; omega) (fun j => by
            have h1 := (ok5_pad GX).at (by omega) j
            have h2 := (ok5_pad GY).at (by omega) j
            rw [padL_at (good_len GX)] at h1
            rw [padL_at (good_len GY)] at h2
            omega))
          rw [join_eq GX GY] at JN
          have H5 : Hid ((joinL (X i) (Y k)).length ≤ 5) := Lib.hid (joinL_ok GX GY).1
          have NXT : Hid (Z ++ (rowsL Y (k + 1)).map (joinL (X i)) = (Z ++ (rowsL Y k).map (joinL (X i))) ++ [joinL (X i) (Y k)]) := Lib.hid (by rw [rowsL_succ, List.map_append, List.append_assoc]; rfl)
          have ZL : Hid ((Z ++ (rowsL Y k).map (joinL (X i))).length ≤ 2000000) := Lib.hid (by rw [List.length_append, List.length_map, rowsL_len]; have := JL.out; omega)
          have Z5 : Hid (∀ z ∈ Z ++ (rowsL Y k).map (joinL (X i)), z.length ≤ 5) := Lib.hid fun z hz => by
            rcases List.mem_append.1 hz with hz | hz
            · exact J5.out z hz
            · obtain ⟨s, hs, rfl⟩ := List.mem_map.1 hz
              exact trim_len5 (addTo_len _ _ _)
          generalize Z ++ (rowsL Y k).map (joinL (X i)) = ZK at *
          generalize joinL (X i) (Y k) = x at *
          have MO := Lib.hid (fun w5 ua uc b5 ho => one_more w wr w5 u5 US2 ZK x ua uc hI.out b5 ho ZL.out Z5.out H5.out)
          have NE := Lib.hid (fun w5 V w7 o b5 p => TiI.next (w5 := w5) (V := V) (w7 := w7) (o := o) (x := x) hI.out b5 p)
          have hk5 : k < 1000 := by omega
          have hi5 : i < 1000 := by omega
          generalize VS i = va at c1 JN
          generalize VS2 k = vb at c2 JN
          clear GX GY hc2' hI
          go_wp2_with fail
          go_region_law (first
            | (go_simp; go_at_call 102; refine JN.out.mono ?_; rintro e w5 ⟨v5, rfl, o5, b5⟩; obtain ⟨ua, uc, rfl⟩ := own_shape5 o5; have B5 : Below wr.heap.size wr w5 := belD1 b5)
            | (go_simp; go_at_call 58; refine (MO.out w5 ua uc B5 o5).mono ?_; rintro e w7 ⟨V7, U7, rfl, f7, s7, b7⟩; have N7 := Lib.hid (NE.out w5 V7 w7 _ B5 ⟨V7, U7, rfl, f7, s7, b7⟩)))
          all_goals
            rw [← NXT.out] at N7
            obtain ⟨U9, N9⟩ := N7.out
            have I9 := Lib.hid N9
            clear N9 N7 f7 s7 b7 b5 o5 B5 JN MO NE c1 c2
            go_wp2_with fail
            go_roundw
            case rel => exact ⟨k + 1, _, by omega, by go_num, I9⟩
            case measure => simp [intOf]; omega
        · obtain rfl : k = n := by omega
          have I9 : Hid (TiI w u5 US2 (joins (rowsL X (i + 1)) (rowsL Y k)) wr) := Lib.hid (by rw [JS.out]; exact hI.out)
          clear hI
          go_wp2_with fail
          go_roundw
          case rel => exact ⟨i + 1, _, by omega, by go_num, I9⟩
          case measure => simp [intOf]; omega
    · obtain rfl : i = m := by omega
      have F9 := Lib.hid hI.out.fam
      have S9 := Lib.hid hI.out.sep
      have B9 := Lib.hid hI.out.bel
      clear hI
      go_wp2_with fail
      go_ret
      exact ⟨_, _, rfl, F9.out, S9.out, B9.out⟩
end Go.Proofs.Ytnmilkehggjpfaa.Dl
end
