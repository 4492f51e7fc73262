/-
  Joined: WPutB, WPutC.
-/
import Derived.Test.YtggebkcmokpcmaaZBHit18
import Derived.Deep.AppendLies
section
namespace Go.Proofs.Ytggebkcmokpcmaa
open Go.RowKit
set_option linter.unusedVariables false
set_option maxRecDepth 100000

/-- The heads that are kept. -/
def hd1 (VS : Nat → Value) (z : Nat) : List Value := (List.range z).map VS
def hd2 (VS : Nat → Value) (z n : Nat) : List Value := (List.range n).map fun i => VS (z + i)
theorem hd1_len (VS : Nat → Value) (z : Nat) : (hd1 VS z).length = z := by simp [hd1]
theorem hd2_len (VS : Nat → Value) (z n : Nat) : (hd2 VS z n).length = n := by simp [hd2]

/-- With one list more, or one less. -/
def insV (VS : Nat → Value) (z : Nat) (u : Value) : Nat → Value := fun i => if i < z then VS i else if i = z then u else VS (i - 1)
def delV (VS : Nat → Value) (z : Nat) : Nat → Value := fun i => if i < z then VS i else VS (i + 1)
def insL (L : List (List Int)) (z : Nat) (x : List Int) : List (List Int) := L.take z ++ x :: L.drop z
def delL (L : List (List Int)) (z : Nat) : List (List Int) := L.take z ++ L.drop (z + 1)
theorem insL_len (L : List (List Int)) (z : Nat) (x : List Int) (h : z ≤ L.length) : (insL L z x).length = L.length + 1 := by simp [insL]; omega
theorem delL_len (L : List (List Int)) (z : Nat) (h : z < L.length) : (delL L z).length = L.length - 1 := by simp [delL]; omega
theorem insL_at (L : List (List Int)) (z : Nat) (x : List Int) (h : z ≤ L.length) (i : Nat) : rowsOf (insL L z x) i = if i < z then rowsOf L i else if i = z then x else rowsOf L (i - 1) := by
  unfold rowsOf insL
  have hl : (L.take z).length = z := by rw [List.length_take]; omega
  by_cases h1 : i < z
  · rw [if_pos h1, List.getElem?_append_left (by omega), List.getElem?_take, if_pos h1]
  · rw [if_neg h1, List.getElem?_append_right (by omega), hl]
    by_cases h2 : i = z
    · subst h2; simp
    · rw [if_neg h2]
      obtain ⟨k, hk⟩ : ∃ k, i - z = k + 1 := ⟨i - z - 1, by omega⟩
      rw [hk, List.getElem?_cons_succ, List.getElem?_drop, show z + k = i - 1 by omega]
theorem delL_at (L : List (List Int)) (z : Nat) (h : z < L.length) (i : Nat) : rowsOf (delL L z) i = if i < z then rowsOf L i else rowsOf L (i + 1) := by
  unfold rowsOf delL
  have hl : (L.take z).length = z := by rw [List.length_take]; omega
  by_cases h1 : i < z
  · rw [if_pos h1, List.getElem?_append_left (by omega), List.getElem?_take, if_pos h1]
  · rw [if_neg h1, List.getElem?_append_right (by omega), hl, List.getElem?_drop, show z + 1 + (i - z) = i + 1 by omega]
theorem ins_heads (VS : Nat → Value) (z m : Nat) (u : Value) (h : z ≤ m) : hd1 VS z ++ ([u] ++ hd2 VS z (m - z)) = (List.range (m + 1)).map (insV VS z u) := by
  apply List.ext_getElem
  · simp [hd1, hd2]; omega
  · intro i h1 h2
    simp only [List.length_map, List.length_range] at h2
    simp only [List.getElem_map, List.getElem_range, insV]
    by_cases h3 : i < z
    · rw [if_pos h3, List.getElem_append_left (by rw [hd1_len]; exact h3)]
      simp [hd1]
    · rw [if_neg h3, List.getElem_append_right (by rw [hd1_len]; omega)]
      by_cases h4 : i = z
      · subst h4; simp [hd1_len]
      · rw [if_neg h4]
        obtain ⟨k, hk⟩ : ∃ k, i - z = k + 1 := ⟨i - z - 1, by omega⟩
        simp only [hd1_len, hk, List.singleton_append, List.getElem_cons_succ, hd2, List.getElem_map, List.getElem_range]
        rw [show z + k = i - 1 by omega]
theorem del_heads (VS : Nat → Value) (z m : Nat) (h : z < m) : hd1 VS z ++ hd2 VS (z + 1) (m - (z + 1)) = (List.range (m - 1)).map (delV VS z) := by
  apply List.ext_getElem
  · simp [hd1, hd2]; omega
  · intro i h1 h2
    simp only [List.length_map, List.length_range] at h2
    simp only [List.getElem_map, List.getElem_range, delV]
    by_cases h3 : i < z
    · rw [if_pos h3, List.getElem_append_left (by rw [hd1_len]; exact h3)]
      simp [hd1]
    · rw [if_neg h3, List.getElem_append_right (by rw [hd1_len]; omega)]
      simp only [hd1_len, hd2, List.getElem_map, List.getElem_range]
      rw [show z + 1 + (i - z) = i + 1 by omega]

theorem ins_fam {w w7 w' : World} {B C g cap : Nat} {V' u : Value} {VS : Nat → Value} {L : List (List Int)} {x : List Int} {z : Nat} (hF : FamL w B (.slice (some ⟨g, 0, none⟩) L.length cap) VS L) (hS : Sep L.length VS) (hz : z ≤ L.length)
    (hBw : B ≤ w.heap.size) (hC : w.heap.size ≤ C) (hu : w7.ownsRow C 2 1 u x.length (x.map (Value.int .i64))) (b7 : Below w7.heap.size w7 w') (bw : Below w.heap.size w w')
    (ho : w'.ownsRow w.heap.size 42 1 V' (L.length + 1) (hd1 VS z ++ ([u] ++ hd2 VS z (L.length - z)))) :
    FamL w' B V' (insV VS z u) (insL L z x) ∧ Sep (insL L z x).length (insV VS z u) := by
  rw [ins_heads VS z L.length u hz] at ho
  have hap : ∀ i, i < L.length → (VS i).ownBlock = none ∨ (VS i).ownBlock ≠ u.ownBlock := fun i hi => apart_new (hF.inn i hi) (fun k hk => Nat.le_trans hC (hu.lt k hk).1)
  refine ⟨⟨by rw [insL_len _ _ _ hz]; exact own_base ho hBw, fun i hi => ?_⟩, fun i j hi hj hij => ?_⟩
  · rw [insL_len _ _ _ hz] at hi
    rw [insL_at _ _ _ hz]
    unfold insV
    by_cases h1 : i < z
    · rw [if_pos h1, if_pos h1]; exact own_below (hF.inn i (by omega)) bw
    · rw [if_neg h1, if_neg h1]
      by_cases h2 : i = z
      · rw [if_pos h2, if_pos h2]; exact own_base (own_below hu b7) (by omega)
      · rw [if_neg h2, if_neg h2]; exact own_below (hF.inn (i - 1) (by omega)) bw
  · rw [insL_len _ _ _ hz] at hi hj
    unfold insV
    by_cases h1 : i < z
    · rw [if_pos h1]
      by_cases h3 : j < z
      · rw [if_pos h3]; exact hS i j (by omega) (by omega) hij
      · rw [if_neg h3]
        by_cases h4 : j = z
        · rw [if_pos h4]; exact hap i (by omega)
        · rw [if_neg h4]; exact hS i (j - 1) (by omega) (by omega) (by omega)
    · rw [if_neg h1]
      by_cases h2 : i = z
      · rw [if_pos h2]
        by_cases h3 : j < z
        · rw [if_pos h3]; exact apart_symm (hap j (by omega))
        · rw [if_neg h3, if_neg (by omega)]; exact apart_symm (hap (j - 1) (by omega))
      · rw [if_neg h2]
        by_cases h3 : j < z
        · rw [if_pos h3]; exact hS (i - 1) j (by omega) (by omega) (by omega)
        · rw [if_neg h3]
          by_cases h4 : j = z
          · rw [if_pos h4]; exact hap (i - 1) (by omega)
          · rw [if_neg h4]; exact hS (i - 1) (j - 1) (by omega) (by omega) (by omega)
theorem del_fam {w w' : World} {B g cap : Nat} {V' : Value} {VS : Nat → Value} {L : List (List Int)} {z : Nat} (hF : FamL w B (.slice (some ⟨g, 0, none⟩) L.length cap) VS L) (hS : Sep L.length VS) (hz : z < L.length)
    (hBw : B ≤ w.heap.size) (bw : Below w.heap.size w w') (ho : w'.ownsRow w.heap.size 42 1 V' (z + (L.length - (z + 1))) (hd1 VS z ++ hd2 VS (z + 1) (L.length - (z + 1)))) :
    FamL w' B V' (delV VS z) (delL L z) ∧ Sep (delL L z).length (delV VS z) := by
  rw [del_heads VS z L.length hz, show z + (L.length - (z + 1)) = L.length - 1 by omega] at ho
  refine ⟨⟨by rw [delL_len _ _ hz]; exact own_base ho hBw, fun i hi => ?_⟩, fun i j hi hj hij => ?_⟩
  · rw [delL_len _ _ hz] at hi
    rw [delL_at _ _ hz]
    unfold delV
    by_cases h1 : i < z
    · rw [if_pos h1, if_pos h1]; exact own_below (hF.inn i (by omega)) bw
    · rw [if_neg h1, if_neg h1]; exact own_below (hF.inn (i + 1) (by omega)) bw
  · rw [delL_len _ _ hz] at hi hj
    unfold delV
    by_cases h1 : i < z <;> by_cases h3 : j < z
    · rw [if_pos h1, if_pos h3]; exact hS i j (by omega) (by omega) hij
    · rw [if_pos h1, if_neg h3]; exact hS i (j + 1) (by omega) (by omega) (by omega)
    · rw [if_neg h1, if_pos h3]; exact hS (i + 1) j (by omega) (by omega) (by omega)
    · rw [if_neg h1, if_neg h3]; exact hS (i + 1) (j + 1) (by omega) (by omega) (by omega)

/-- The heads of a family as a source of an append. -/
theorem src_heads {w wx : World} {B g cap m : Nat} {VS : Nat → Value} {X : Nat → List Int} (hF : Fam w B (.slice (some ⟨g, 0, none⟩) m cap) m VS X) (b : Below w.heap.size w wx) (z k : Nat) (h : z + k ≤ m) :
    ∀ j u, (hd2 VS z k)[j]? = some u → wx.cell? ((⟨g, z, none⟩ : Addr).add j) = some u := by
  intro j u hu
  have hj : j < k := by have := (List.getElem?_eq_some_iff.1 hu).1; rw [hd2_len] at this; exact this
  rw [Addr.add_mid]
  obtain ⟨a', cap', e, _, hc⟩ := hF.head
  cases e
  obtain ⟨b', e2, hc⟩ := hc.resolve_left (by omega)
  cases e2
  have h1 := hc (z + j) (by omega)
  rw [(b.cell (p := ⟨g, z + j, none⟩) (World.block_lt_of_cell? w _ h1)).trans h1]
  simp [hd2, hj] at hu
  rw [hu]
theorem hd1_src {w wx : World} {B g cap m : Nat} {VS : Nat → Value} {X : Nat → List Int} (hF : Fam w B (.slice (some ⟨g, 0, none⟩) m cap) m VS X) (b : Below w.heap.size w wx) (z : Nat) (h : z ≤ m) :
    ∀ j u, (hd1 VS z)[j]? = some u → wx.cell? ((⟨g, 0, none⟩ : Addr).add j) = some u := by
  have := src_heads hF b 0 z (by omega)
  simpa [hd1, hd2] using this
theorem heads_one {w : World} {B g cap m : Nat} {VS : Nat → Value} {X : Nat → List Int} (hF : Fam w B (.slice (some ⟨g, 0, none⟩) m cap) m VS X) (z k : Nat) (h : z + k ≤ m) : ∀ u ∈ hd2 VS z k, u.oneCell' = true := by
  intro u hu
  obtain ⟨i, hi, rfl⟩ := List.mem_map.1 hu
  obtain ⟨a, c, e, _⟩ := own_len (hF.inn (z + i) (by have := List.mem_range.1 hi; omega))
  rw [e]; rfl
theorem hd1_one {w : World} {B g cap m : Nat} {VS : Nat → Value} {X : Nat → List Int} (hF : Fam w B (.slice (some ⟨g, 0, none⟩) m cap) m VS X) (z : Nat) (h : z ≤ m) : ∀ u ∈ hd1 VS z, u.oneCell' = true := by
  have := heads_one hF 0 z (by omega)
  simpa [hd1, hd2] using this

theorem src_cut {w wx : World} {B g cap m : Nat} {VS : Nat → Value} {X : Nat → List Int} (hF : Fam w B (.slice (some ⟨g, 0, none⟩) m cap) m VS X) (b : Below w.heap.size w wx) (z : Nat) (h : z ≤ m) (hc : m ≤ cap) :
    ∃ ad, (if cap = z then (some ⟨g, 0, none⟩ : Option Addr) else some ⟨g, z, none⟩) = some ad ∧ ∀ j u, (hd2 VS z (m - z))[j]? = some u → wx.cell? (ad.add j) = some u := by
  by_cases e : cap = z
  · rw [if_pos e]
    refine ⟨_, rfl, fun j u hu => ?_⟩
    have := (List.getElem?_eq_some_iff.1 hu).1
    rw [hd2_len] at this
    omega
  · rw [if_neg e]
    exact ⟨_, rfl, src_heads hF b z (m - z) (by omega)⟩

theorem own_one (w : World) (u : Value) (e : TypeId) : (w.alloc (.cells #[u] e)).ownsRow w.heap.size e 1 (.slice (some ⟨w.heap.size, 0, none⟩) 1 1) 1 [u] :=
  ⟨rfl, .inr ⟨w.heap.size, 1, #[u], rfl, Nat.le_refl _, heap_alloc_new w _, Nat.le_refl _, by unfold maxLen; omega, rfl, rfl⟩⟩
theorem own_src {w : World} {B g n cap : Nat} {e : TypeId} {xs : List Value} (h : w.ownsRow B e 1 (.slice (some ⟨g, 0, none⟩) n cap) n xs) : ∀ j u, xs[j]? = some u → w.cell? ((⟨g, 0, none⟩ : Addr).add j) = some u := by
  intro j u hu
  have hj := (List.getElem?_eq_some_iff.1 hu).1
  have e1 := h.1
  rw [Addr.add_mid, Nat.zero_add, h.cellAt j (by omega)]
  exact hu

end Go.Proofs.Ytggebkcmokpcmaa
end
section
namespace Go.Proofs.Ytggebkcmokpcmaa
open Go.RowKit
set_option linter.unusedVariables false
set_option maxRecDepth 100000

/-- The first place at which a list is not less. -/
def firstZ (L : List (List Int)) (x : List Int) : Nat := (L.takeWhile (fun y => lexLt y x)).length
def putL (L : List (List Int)) (x : List Int) : List (List Int) := if firstZ L x < L.length ∧ rowsOf L (firstZ L x) = x then delL L (firstZ L x) else insL L (firstZ L x) x

theorem split_at (L : List (List Int)) (x : List Int) : L.take (firstZ L x) = L.takeWhile (fun y => lexLt y x) ∧ L.drop (firstZ L x) = L.dropWhile (fun y => lexLt y x) := by
  have e := List.takeWhile_append_dropWhile (p := fun y => lexLt y x) (l := L)
  unfold firstZ
  generalize L.takeWhile (fun y => lexLt y x) = A at *
  generalize L.dropWhile (fun y => lexLt y x) = C at *
  subst e
  exact ⟨List.take_left' rfl, List.drop_left' rfl⟩
theorem firstZ_le (L : List (List Int)) (x : List Int) : firstZ L x ≤ L.length := by
  have := congrArg List.length (List.takeWhile_append_dropWhile (p := fun y => lexLt y x) (l := L))
  rw [List.length_append] at this
  unfold firstZ
  omega
theorem firstZ_lt (L : List (List Int)) (x : List Int) (i : Nat) (h : i < firstZ L x) : lexLt (rowsOf L i) x = true := by
  have hl := firstZ_le L x
  unfold rowsOf
  rw [List.getElem?_eq_getElem (by omega)]
  have h1 : L[i]'(by omega) ∈ L.take (firstZ L x) := List.mem_take_iff_getElem.2 ⟨i, by omega, rfl⟩
  rw [(split_at L x).1] at h1
  exact List.all_eq_true.1 (List.all_takeWhile (p := fun y => lexLt y x) (l := L)) _ h1
theorem firstZ_at (L : List (List Int)) (x : List Int) (h : firstZ L x < L.length) : lexLt (rowsOf L (firstZ L x)) x = false := by
  unfold rowsOf
  have h2 := (split_at L x).2
  rw [List.drop_eq_getElem_cons h] at h2
  rw [List.getElem?_eq_getElem h]
  have := List.head?_dropWhile_not (fun y => lexLt y x) L
  rw [← h2] at this
  simp only [List.head?_cons] at this
  exact this

/-- Put into an ascending list. -/
theorem putL_spec (L : List (List Int)) (x : List Int) (h : Asc L) : Asc (putL L x) ∧ ∀ y, y ∈ putL L x ↔ ((y ∈ L ∧ y ≠ x) ∨ (y ∉ L ∧ y = x)) := by
  obtain ⟨e1, e2⟩ := split_at L x
  have eL : L.takeWhile (fun y => lexLt y x) ++ L.dropWhile (fun y => lexLt y x) = L := List.takeWhile_append_dropWhile
  have ha : ∀ y ∈ L.takeWhile (fun y => lexLt y x), lexLt y x = true := fun y hy => List.all_eq_true.1 (List.all_takeWhile (p := fun y => lexLt y x) (l := L)) _ hy
  have hfz := firstZ_at L x
  have hdd : L.drop (firstZ L x + 1) = (L.drop (firstZ L x)).drop 1 := by rw [List.drop_drop]
  have hget : ∀ (hlt : firstZ L x < L.length), L.drop (firstZ L x) = rowsOf L (firstZ L x) :: L.drop (firstZ L x + 1) := fun hlt => by
    unfold rowsOf
    rw [List.getElem?_eq_getElem hlt]
    exact List.drop_eq_getElem_cons hlt
  unfold putL delL insL
  obtain ⟨T, hT⟩ : ∃ T, L.drop (firstZ L x + 1) = T := ⟨_, rfl⟩
  rw [hT] at hget ⊢
  clear hdd
  generalize hA : L.takeWhile (fun y => lexLt y x) = A at *
  generalize hB : L.dropWhile (fun y => lexLt y x) = C at *
  rw [e1]
  rw [← eL] at h
  obtain ⟨h1, h2, h3⟩ := List.pairwise_append.1 h
  have hxA : x ∉ A := fun hx => by have := ha x hx; rw [lexLt_irrefl] at this; cases this
  split
  · rename_i hc
    obtain ⟨hlt, hx⟩ := hc
    have hC := hget hlt
    rw [e2, hx] at hC
    obtain ⟨h4, h5⟩ := List.pairwise_cons.1 (hC ▸ h2)
    refine ⟨List.pairwise_append.2 ⟨h1, h5, fun a ha' b hb => h3 a ha' b (by rw [hC]; exact List.mem_cons_of_mem _ hb)⟩, fun y => ?_⟩
    have hxT : x ∉ T := fun hm => by have := h4 x hm; rw [lexLt_irrefl] at this; cases this
    rw [← eL, hC, List.mem_append, List.mem_append, List.mem_cons]
    by_cases e : y = x
    · rw [e]; simp [hxA, hxT]
    · simp [e]
  · rename_i hc
    rw [e2]
    have hxC : x ∉ C ∧ ∀ b ∈ C, lexLt x b = true := by
      by_cases hlt : firstZ L x < L.length
      · have hC := hget hlt
        rw [e2] at hC
        have hne : rowsOf L (firstZ L x) ≠ x := fun e => hc ⟨hlt, e⟩
        have hgt : lexLt x (rowsOf L (firstZ L x)) = true := by
          cases hb : lexLt x (rowsOf L (firstZ L x)) with
          | true => rfl
          | false => exact absurd (lexLt_total _ _ (hfz hlt) hb) hne
        obtain ⟨h4, h5⟩ := List.pairwise_cons.1 (hC ▸ h2)
        have hall : ∀ b ∈ C, lexLt x b = true := fun b hb => by
          rw [hC] at hb
          rcases List.mem_cons.1 hb with e | hb
          · subst e; exact hgt
          · exact lexLt_trans _ _ _ hgt (h4 b hb)
        exact ⟨fun hm => (by have := hall x hm; rw [lexLt_irrefl] at this; cases this), hall⟩
      · have : C = [] := by rw [← e2]; exact List.drop_eq_nil_of_le (by omega)
        subst this
        exact ⟨by simp, by simp⟩
    refine ⟨List.pairwise_append.2 ⟨h1, List.pairwise_cons.2 ⟨hxC.2, h2⟩, fun a ha' b hb => ?_⟩, fun y => ?_⟩
    · rcases List.mem_cons.1 hb with e | hb
      · subst e; exact ha a ha'
      · exact h3 a ha' b hb
    · rw [← eL, List.mem_append, List.mem_append, List.mem_cons]
      by_cases e : y = x
      · rw [e]; simp [hxA, hxC.1]
      · simp [e]
end Go.Proofs.Ytggebkcmokpcmaa
end
