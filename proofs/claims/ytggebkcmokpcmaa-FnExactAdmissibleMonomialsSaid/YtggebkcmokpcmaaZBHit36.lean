/-
  Joined: POwn2, PRes, PFillA.
-/
import Derived.Test.YtggebkcmokpcmaaZBHit17
import Derived.Test.YtggebkcmokpcmaaZBHit14
import Derived.Test.YtggebkcmokpcmaaZBHit21
import Derived.Test.YtggebkcmokpcmaaZBHit20
import Derived.Test.YtggebkcmokpcmaaZBHit34
import Derived.Test.YtggebkcmokpcmaaZBHit13
import Derived.Test.YtggebkcmokpcmaaZBHit05
import Derived.Test.YtggebkcmokpcmaaZBHit35
import Derived.Test.YtggebkcmokpcmaaZBHit19
section
namespace Go.Proofs.Ytggebkcmokpcmaa
open Go.RowKit
set_option linter.unusedVariables false
set_option maxRecDepth 100000

theorem one_src {w : World} {t : TypeId} (v : Value) : ∀ jj u, [v][jj]? = some u → (w.alloc (.cells #[v] t)).cell? ((⟨w.heap.size, 0, none⟩ : Addr).add jj) = some u := fun jj u hu => by
  have h0 : jj = 0 := by have := (List.getElem?_eq_some_iff.1 hu).1; simp at this; omega
  subst h0
  simp at hu
  subst hu
  exact cell_of_row _ w.heap.size 0 _ _ (0, 0) (heap_alloc_new w _)

theorem l01Own2_any (V : Value) (m B : Nat) (VS : Nat → Value) (X : Nat → List Int) (w : World) (h : Fam w B V m VS X) (hm : m ≤ 1000) (hX : ∀ i, i < m → (X i).length ≤ 1000) :
    Calls Try.prog 56 #[V] w fun e w' => ∃ U US, e = .returned U ∧ FamL w' w.heap.size U US (rowsL X m) ∧ Sep (rowsL X m).length US ∧ Below w.heap.size w w' := by
  have H := Lib.hid h
  have HX := Lib.hid hX
  obtain ⟨a, cap, rfl, hm0, hc⟩ := h.head
  have F0 : Hid (FamL (w.alloc (.cells #[] 42)) w.heap.size (.slice (some ⟨w.heap.size, 0, none⟩) 0 0) (fun _ => undef) (rowsL X 0)) := Lib.hid ⟨World.ownsRow_made w #[] 0 (Nat.le_refl _) (Nat.zero_le _) (by simp), fun i hi => absurd hi (Nat.not_lt_zero _)⟩
  have B0 : Hid (Below w.heap.size w (w.alloc (.cells #[] 42))) := Lib.hid ((Below.refl _ w).alloc (Nat.le_refl _) _)
  clear h hX hc hm0
  go_enter Try.func56, Try.ntmps56
  go_wp2_with fail
  go_loopw [3, 4] (fun S c wr => ∃ (k : Nat) (US : Nat → Value), k ≤ m ∧ c = .int .i64 k ∧ Hid (FamL wr w.heap.size S US (rowsL X k)) ∧ Hid (Sep (rowsL X k).length US) ∧ Hid (Below w.heap.size w wr)) (fun _ c _ => m - (intOf c).toNat)
  case atStart => exact ⟨0, _, by omega, rfl, F0, Lib.hid (fun i j hi => absurd hi (Nat.not_lt_zero _)), B0⟩
  case round =>
    clear F0 B0
    obtain ⟨k, US, hk, rfl, hF, hS, hB⟩ := hrel
    by_cases hlt : k < m
    · have hlt' : (k : Int) < (m : Int) := by omega
      have HW := H.out.below hB.out
      obtain ⟨a9, c9, e9, _, hc⟩ := HW.head
      cases e9
      obtain ⟨b, rfl, hc2⟩ := hc.resolve_left (by omega)
      have c1 := hc2 k hlt
      have OW := Lib.hid (ownAny (VS k) (X k) B wr (by have := HX.out k hlt; omega) (HW.inn k hlt))
      clear hc hc2 HW
      generalize VS k = v at c1 OW
      go_wp2_with fail
      refine OW.out.mono ?_
      rintro e w1 ⟨u, rfl, hu, hb⟩
      obtain ⟨ua, uc, eu, _⟩ := own_len hu
      have SR := Lib.hid (one_src (w := w1) (t := 42) u)
      have PT := Lib.hid (fun V3 w3 => fam_put (w3 := w3) (V3 := V3) hF.out hS.out hB.out.size hu rfl hb (.cells #[u] 42))
      have O1 := Lib.hid ((own_below hF.out.out hb).alloc (.cells #[u] 42))
      have Z1 : Hid (w.heap.size ≤ (w1.alloc (.cells #[u] 42)).heap.size) := Lib.hid (by have := hB.out.size; have := hb.size; simp; omega)
      have LN : (rowsL X k).length = k := rowsL_len X k
      rw [LN] at O1 PT
      have KB := Lib.hid hB.out
      subst eu
      clear hu hb LN
      go_wp2_with (at_builtin; refine wpList_rows_at _ rfl _ _ rfl w.heap.size k _ _ rfl O1.out ⟨w1.heap.size, 0, none⟩ 1 1 [.slice ua (X k).length uc] rfl SR.out rfl (by simp [Value.oneCell']) (by omega) Z1.out ?_; intro V3 w3 ho3 hg3 _; have P3 := Lib.hid (PT.out V3 w3 ho3 hg3); clear ho3 hg3)
      go_roundw
      case rel => exact ⟨k + 1, _, by omega, by go_num, Lib.hid (by rw [rowsL_succ]; exact P3.out.1), Lib.hid (by rw [rowsL_succ]; exact P3.out.2.1), Lib.hid (KB.out.trans P3.out.2.2)⟩
      case measure => simp [intOf]; omega
    · obtain rfl : k = m := by omega
      go_wp2_with fail
      go_ret
      exact ⟨_, US, rfl, hF.out, hS.out, hB.out⟩
end Go.Proofs.Ytggebkcmokpcmaa
end
section
namespace Go.Proofs.Ytggebkcmokpcmaa
open Go.RowKit
set_option linter.unusedVariables false
set_option maxRecDepth 100000

/-- The rows of a table with m columns besides the edge. -/
def tabX (T : Tab) (m : Nat) : Nat → List Int := fun i => (List.range (m + 1)).map (T i)
theorem tabX_len (T : Tab) (m i : Nat) : (tabX T m i).length = m + 1 := by simp [tabX]
theorem tabX_at (T : Tab) (m i j : Nat) (h : j ≤ m) : (tabX T m i)[j]?.getD 0 = T i j := by
  unfold tabX
  rw [List.getElem?_map, List.getElem?_range (by omega)]
  rfl
/-- The numbers of a diagonal, in the first i rows. -/
def sdgTo (T : Tab) (m k : Nat) : Nat → List Int
  | 0 => []
  | i + 1 => if i ≤ k ∧ k - i ≤ m then sdgTo T m k i ++ [T i (k - i)] else sdgTo T m k i
def sdg (T : Tab) (n m k : Nat) : List Int := sdgTo T m k (n + 1)
theorem sdgTo_len (T : Tab) (m k : Nat) : ∀ i, (sdgTo T m k i).length ≤ i
  | 0 => Nat.le_refl _
  | i + 1 => by
    have := sdgTo_len T m k i
    unfold sdgTo
    split
    · rw [List.length_append, List.length_singleton]; omega
    · omega
theorem sdgTo_mem (T : Tab) (m k : Nat) : ∀ i, ∀ z ∈ sdgTo T m k i, ∃ a b, z = T a b
  | 0, z, h => by cases h
  | i + 1, z, h => by
    unfold sdgTo at h
    split at h
    · rcases List.mem_append.1 h with h | h
      · exact sdgTo_mem T m k i z h
      · exact ⟨i, k - i, List.mem_singleton.1 h⟩
    · exact sdgTo_mem T m k i z h
/-- The sum of the first i numbers. -/
def smTo (l : List Int) : Nat → Int
  | 0 => 0
  | i + 1 => smTo l i + l[i]?.getD 0
def sm (l : List Int) : Int := smTo l l.length
theorem smTo_bound {l : List Int} (h : ∀ z ∈ l, 0 ≤ z ∧ z ≤ 1000000) : ∀ i, i ≤ l.length → 0 ≤ smTo l i ∧ smTo l i ≤ (i : Int) * 1000000
  | 0, _ => ⟨Int.le_refl _, by simp [smTo]⟩
  | i + 1, hi => by
    have h1 := smTo_bound h i (by omega)
    have h2 := h (l[i]'(by omega)) (List.getElem_mem _)
    unfold smTo
    rw [List.getElem?_eq_getElem (by omega)]
    simp only [Option.getD_some]
    omega
def apL (l : List Int) : Prop := apt (fun j => l[j]?.getD 0) l.length
/-- The sums of the first k diagonals. -/
def outs (T : Tab) (n m k : Nat) : List Int := (List.range k).map fun k' => sm (sdg T n m (k' + 1))
theorem outs_len (T : Tab) (n m k : Nat) : (outs T n m k).length = k := by simp [outs]
theorem outs_succ (T : Tab) (n m k : Nat) : outs T n m (k + 1) = outs T n m k ++ [sm (sdg T n m (k + 1))] := by simp [outs, List.range_succ]
/-- The exponent list of a table, if all numbers of ways are odd. -/
noncomputable def resS (n m : Nat) (T : Tab) : Option (List Int) :=
  @ite _ (∀ k, k < n + m → apL (sdg T n m (k + 1))) (Classical.propDecidable _) (some (trim (outs T n m (n + m)))) none

def ResPost (o : Option (List Int)) (w : World) (e : Ending) (w' : World) : Prop :=
  match o with
  | some l => ∃ u, e = .returned (.tuple #[u, .bool true]) ∧ w'.ownsRow w.heap.size 2 1 u l.length (l.map (Value.int .i64)) ∧ Below w.heap.size w w'
  | none => e = .returned (.tuple #[.slice none 0 0, .bool false]) ∧ Below w.heap.size w w'

/-- A row of a table. -/
theorem row_at {w : World} {B n m : Nat} {V : Value} {VS : Nat → Value} {T : Tab} (h : Fam w B V n VS (tabX T m)) (i : Nat) (hi : i < n) : ∃ g q, VS i = .slice (some ⟨g, 0, none⟩) (m + 1) q ∧ ∀ j, j ≤ m → w.cell? ⟨g, j, none⟩ = some (.int .i64 (T i j)) := by
  have h1 := h.inn i hi
  rw [tabX_len] at h1
  rcases h1.2 with ⟨_, h0⟩ | ⟨g, cap, cur, e, _⟩
  · omega
  · rw [e] at h1
    refine ⟨g, cap, e, fun j hj => ?_⟩
    rw [h1.cellAt j (by omega)]
    unfold tabX
    rw [List.getElem?_map, List.getElem?_map, List.getElem?_range (by omega)]
    rfl
theorem table_at {w : World} {B n m : Nat} {b cap : Nat} {VS : Nat → Value} {T : Tab} (h : Fam w B (.slice (some ⟨b, 0, none⟩) n cap) n VS (tabX T m)) (i : Nat) (hi : i < n) : w.cell? ⟨b, i, none⟩ = some (VS i) := by
  obtain ⟨a9, c9, e9, _, hc⟩ := h.head
  cases e9
  obtain ⟨b', e', hc2⟩ := hc.resolve_left (by omega)
  cases e'
  exact hc2 i hi

end Go.Proofs.Ytggebkcmokpcmaa
end
section
namespace Go.Proofs.Ytggebkcmokpcmaa
open Go.RowKit
set_option linter.unusedVariables false
set_option maxRecDepth 100000

/-- The places that are left at (i, j). -/
inductive Pl (n m : Nat) : Nat → Nat → List (Nat × Nat) → Prop
  | done : Pl n m (n + 1) 1 []
  | next (i : Nat) (qs : List (Nat × Nat)) : i ≤ n → Pl n m (i + 1) 1 qs → Pl n m i (m + 1) qs
  | place (i j : Nat) (qs : List (Nat × Nat)) : i ≤ n → j ≤ m → Pl n m i (j + 1) qs → Pl n m i j ((i, j) :: qs)
theorem Pl.row {n m i : Nat} {qs : List (Nat × Nat)} (hi : i ≤ n) (h : Pl n m (i + 1) 1 qs) : ∀ d j, j + d = m + 1 → Pl n m i j ((List.range' j d).map (fun b => (i, b)) ++ qs)
  | 0, j, e => by
    obtain rfl : j = m + 1 := by omega
    exact .next i qs hi h
  | d + 1, j, e => by
    rw [List.range'_succ, List.map_cons, List.cons_append]
    exact .place i j _ hi (by omega) (Pl.row hi h d (j + 1) (by omega))
theorem Pl.rows {n m : Nat} : ∀ d i, i + d = n + 1 → Pl n m i 1 ((List.range' i d).flatMap fun a => (List.range' 1 m).map (fun b => (a, b)))
  | 0, i, e => by
    obtain rfl : i = n + 1 := by omega
    exact .done
  | d + 1, i, e => by
    rw [List.range'_succ, List.flatMap_cons]
    exact Pl.row (by omega) (Pl.rows d (i + 1) (by omega)) m 1 (by omega)
theorem Pl.all (n m : Nat) : Pl n m 1 1 (rm n m) := by
  have h := Pl.rows (n := n) (m := m) n 1 (by omega)
  have e : rm n m = (List.range' 1 n).flatMap fun a => (List.range' 1 m).map (fun b => (a, b)) := by
    unfold rm
    rw [List.range'_eq_map_range, List.range'_eq_map_range, List.flatMap_map]
    congr 1
    funext a
    rw [List.map_map]
    refine List.map_congr_left fun b _ => ?_
    show (a + 1, b + 1) = (1 + a, 1 + b)
    rw [Nat.add_comm, Nat.add_comm b]
  rw [e]
  exact h
theorem Pl.ge {n m i j : Nat} {qs : List (Nat × Nat)} (h : Pl n m i j qs) : ∀ p ∈ qs, i < p.1 ∨ (p.1 = i ∧ j ≤ p.2) := by
  induction h with
  | done => intro p hp; cases hp
  | next i qs hi h ih =>
    intro p hp
    rcases ih p hp with k | k
    · left; omega
    · left; omega
  | place i j qs hi hj h ih =>
    intro p hp
    rcases List.mem_cons.1 hp with rfl | hp
    · right; exact ⟨rfl, Nat.le_refl _⟩
    · rcases ih p hp with k | k
      · left; exact k
      · right; exact ⟨k.1, by omega⟩

/-! ### Counts -/
theorem asc_count {L : List (List Int)} (h : Asc L) (z : List Int) : L.count z = if z ∈ L then 1 else 0 := h.nodup.count
theorem putL_count {L : List (List Int)} (h : Asc L) (x z : List Int) : (putL L x).count z % 2 = (L.count z + [x].count z) % 2 := by
  obtain ⟨h1, h2⟩ := putL_spec L x h
  rw [asc_count h1, asc_count h, List.count_singleton]
  by_cases e : x = z
  · subst e
    have := h2 x
    by_cases k : x ∈ L <;> simp [k, this]
  · have e1 : (x == z) = false := by rw [beq_eq_false_iff_ne]; exact e
    have e2 : z ≠ x := fun k => e k.symm
    have := h2 z
    by_cases k : z ∈ L <;> simp [k, this, e1, e2]
theorem putL_len (L : List (List Int)) (x : List Int) : (putL L x).length ≤ L.length + 1 := by
  have := firstZ_le L x
  unfold putL
  split
  · rename_i h
    rw [delL_len L _ h.1]; omega
  · rw [insL_len L _ x this]; exact Nat.le_refl _

/-- The results of the first x numbers at a place. -/
def resTo (res : Tab → Option (List Int)) (p : Nat × Nat) (qs : List (Nat × Nat)) (T : Tab) (x : Nat) : List (List Int) := (List.range x).flatMap fun v : Nat => resF res qs (mv p.1 p.2 (v : Int) T)
theorem resTo_zero (res : Tab → Option (List Int)) (p : Nat × Nat) (qs : List (Nat × Nat)) (T : Tab) : resTo res p qs T 0 = [] := rfl
theorem resTo_succ (res : Tab → Option (List Int)) (p : Nat × Nat) (qs : List (Nat × Nat)) (T : Tab) (x : Nat) : resTo res p qs T (x + 1) = resTo res p qs T x ++ resF res qs (mv p.1 p.2 (x : Int) T) := by
  unfold resTo
  rw [List.range_succ, List.flatMap_append]
  simp
theorem resTo_len (res : Tab → Option (List Int)) (p : Nat × Nat) (qs : List (Nat × Nat)) (T : Tab) (x : Nat) : ∀ y, x ≤ y → (resTo res p qs T x).length ≤ (resTo res p qs T y).length
  | 0, h => by obtain rfl : x = 0 := by omega
               exact Nat.le_refl _
  | y + 1, h => by
    by_cases e : x = y + 1
    · rw [e]; exact Nat.le_refl _
    · have := resTo_len res p qs T x y (by omega)
      rw [resTo_succ, List.length_append]; omega

/-! ### One number stored -/
def updT (T : Tab) (i j : Nat) (v : Int) : Tab := fun a b => if a = i ∧ b = j then v else T a b
theorem mv_upd {i j : Nat} (hi : 0 < i) (hj : 0 < j) (x : Int) (T : Tab) (h0 : T i j = 0) : updT (updT (updT T 0 j (T 0 j - x)) i 0 (T i 0 - x * 2 ^ j)) i j x = mv i j x T := by
  funext a b
  unfold updT mv
  by_cases h1 : a = i ∧ b = j
  · rw [if_pos h1, if_pos h1, h0]; omega
  · rw [if_neg h1, if_neg h1]
theorem tabX_upd (T : Tab) (m i j : Nat) (v : Int) (hj : j ≤ m) (a : Nat) : tabX (updT T i j v) m a = if a = i then (tabX T m i).set j v else tabX T m a := by
  split
  · rename_i e
    subst e
    refine List.ext_getElem? fun k => ?_
    unfold tabX
    rw [List.getElem?_set, List.getElem?_map, List.getElem?_map, List.length_map, List.length_range]
    by_cases hk : k < m + 1
    · rw [List.getElem?_range hk]
      by_cases e : j = k
      · subst e; simp [updT, hk]
      · have : ¬ k = j := fun h => e h.symm
        simp [updT, e, this]
    · rw [List.getElem?_eq_none (by rw [List.length_range]; omega)]
      have : ¬ j = k := by omega
      simp [this]
  · rename_i e
    unfold tabX
    refine List.map_congr_left fun b _ => ?_
    unfold updT
    rw [if_neg (fun h => e h.1)]
theorem Fam.stored {w : World} {B n m g cap : Nat} {U : Value} {US : Nat → Value} {T : Tab} (h : Fam w B U n US (tabX T m)) (hS : Sep n US) (i : Nat) (hi : i < n) (hU : US i = .slice (some ⟨g, 0, none⟩) (m + 1) cap) (j : Nat) (hj : j ≤ m) (v : Int) :
    Fam (w.setCell ⟨g, j, none⟩ (.int .i64 v)) B U n US (tabX (updT T i j v) m) ∧ B ≤ g := by
  have o := h.inn i hi
  rw [hU, tabX_len] at o
  obtain ⟨s1, s2⟩ := World.ownsRow.stored o j (.int .i64 v)
  have hg := (World.ownsRow.lt o g rfl).1
  refine ⟨⟨h.out.kept s2 (own_types h.out o (by decide)), fun a ha => ?_⟩, hg⟩
  by_cases e : a = i
  · subst e
    rw [tabX_upd T m a j v hj a, if_pos rfl, List.length_set, tabX_len, List.map_set, hU]
    exact s1
  · rw [tabX_upd T m i j v hj a, if_neg e]
    refine (h.inn a ha).kept s2 ?_
    have := hS a i ha hi e
    rw [hU] at this
    exact this
theorem Fam.ofRows {w : World} {B n m : Nat} {U : Value} {US : Nat → Value} {T : Tab} (h : FamL w B U US (rowsL (tabX T m) n)) : Fam w B U n US (tabX T m) := by
  have hl := rowsL_len (tabX T m) n
  have e : ∀ i, i < n → rowsOf (rowsL (tabX T m) n) i = tabX T m i := fun i hi => by
    unfold rowsOf rowsL
    rw [List.getElem?_map, List.getElem?_range hi]
    rfl
  have h1 := h.out
  have h2 := h.inn
  rw [hl] at h1 h2
  exact ⟨h1, fun i hi => by rw [← e i hi]; exact h2 i hi⟩
end Go.Proofs.Ytggebkcmokpcmaa
end
