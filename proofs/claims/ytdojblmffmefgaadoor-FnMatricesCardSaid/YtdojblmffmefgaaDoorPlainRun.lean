/-
  The runs: the rows of a matrix one after the other, in a list and in an array. No program in sight.
-/
import Derived.Test.YtdojblmffmefgaaDoorPlainKer
namespace Go.Proofs.YtdojblmffmefgaaDoor
set_option linter.unusedVariables false

/-- The list's family: rows done, and their traces. -/
def fam (D M : List Nat) : Nat → TR := fun k => (D.getD k 0, M.getD k 0)
def pvt (D : List Nat) : Nat → Nat := fun k => tz (D.getD k 0)
def rml (D M : List Nat) (r : TR) : TR := rmp (fam D M) (pvt D) r D.length

/-- One row more: what the list's way keeps (rows done, traces, traces of those that vanish). -/
structure KS where
  D : List Nat
  M : List Nat
  O : List Nat
def kst (st : KS) (r : TR) : KS :=
  if (rml st.D st.M r).1 = 0 then ⟨st.D, st.M, st.O ++ [(rml st.D st.M r).2]⟩ else ⟨st.D ++ [(rml st.D st.M r).1], st.M ++ [(rml st.D st.M r).2], st.O⟩

/-- What the list's family keeps. -/
structure KOk (st : KS) : Prop where
  len : st.M.length = st.D.length
  pos : ∀ k, k < st.D.length → st.D.getD k 0 ≠ 0
  lt : ∀ k, k < st.D.length → st.D.getD k 0 < 2 ^ 60
  tl : ∀ k, k < st.D.length → st.M.getD k 0 < 2 ^ 60
  fe : FE (fam st.D st.M) (pvt st.D) st.D.length

theorem getD_app {L : List Nat} {x : Nat} (k : Nat) : (L ++ [x]).getD k 0 = if k < L.length then L.getD k 0 else if k = L.length then x else 0 := by
  rw [List.getD_eq_getElem?_getD, List.getD_eq_getElem?_getD]
  by_cases h : k < L.length
  · rw [if_pos h, List.getElem?_append_left h]
  · rw [if_neg h, List.getElem?_append_right (by omega)]
    by_cases e : k = L.length
    · rw [if_pos e, e, Nat.sub_self]; rfl
    · rw [if_neg e, List.getElem?_eq_none (by simp; omega)]; rfl

theorem rml_lt {st : KS} (h : KOk st) (r : TR) (h1 : r.1 < 2 ^ 60) (h2 : r.2 < 2 ^ 60) : (rml st.D st.M r).1 < 2 ^ 60 ∧ (rml st.D st.M r).2 < 2 ^ 60 := by
  obtain ⟨m, _, _, he⟩ := rmp_comb (fam st.D st.M) (pvt st.D) r st.D.length
  unfold rml
  rw [he]
  exact ⟨Nat.xor_lt_two_pow h1 (comb_bound _ _ _ _ h.lt), Nat.xor_lt_two_pow h2 (comb_bound _ _ _ _ h.tl)⟩

theorem kst_zero {st : KS} {r : TR} (h : (rml st.D st.M r).1 = 0) : kst st r = ⟨st.D, st.M, st.O ++ [(rml st.D st.M r).2]⟩ := by unfold kst; rw [if_pos h]
theorem kst_more {st : KS} {r : TR} (h : (rml st.D st.M r).1 ≠ 0) : kst st r = ⟨st.D ++ [(rml st.D st.M r).1], st.M ++ [(rml st.D st.M r).2], st.O⟩ := by unfold kst; rw [if_neg h]

theorem fam_app {D M : List Nat} (hl : M.length = D.length) (x t k : Nat) : fam (D ++ [x]) (M ++ [t]) k = if k < D.length then fam D M k else if k = D.length then (x, t) else (0, 0) := by
  unfold fam
  rw [getD_app, getD_app, hl]
  split
  · rfl
  · split
    · rfl
    · rfl
theorem pvt_app (D : List Nat) (x k : Nat) (hk : k ≤ D.length) : pvt (D ++ [x]) k = if k < D.length then pvt D k else tz x := by
  unfold pvt
  rw [getD_app]
  split
  · rfl
  · rw [if_pos (by omega)]

theorem KOk.step {st : KS} (h : KOk st) (r : TR) (h1 : r.1 < 2 ^ 60) (h2 : r.2 < 2 ^ 60) : KOk (kst st r) := by
  by_cases h0 : (rml st.D st.M r).1 = 0
  · rw [kst_zero h0]; exact ⟨h.len, h.pos, h.lt, h.tl, h.fe⟩
  · rw [kst_more h0]
    obtain ⟨b1, b2⟩ := rml_lt h r h1 h2
    have hcl := rmp_clear h.fe r st.D.length (Nat.le_refl _)
    have hcl' : ∀ i, i < st.D.length → (rml st.D st.M r).1.testBit (pvt st.D i) = false := fun i hi => hcl i hi (h.pos i hi)
    obtain ⟨t1, t2⟩ := tz_spec _ h0 (Nat.lt_trans b1 (by decide))
    generalize rml st.D st.M r = res at *
    refine ⟨by simp [h.len], fun k hk => ?_, fun k hk => ?_, fun k hk => ?_, fun k hk _ => ?_, fun i k hik hk _ => ?_⟩
    · simp only [List.length_append, List.length_singleton] at hk
      rw [getD_app]
      split
      · rename_i hlt; exact h.pos k hlt
      · rw [if_pos (by omega)]; exact h0
    · simp only [List.length_append, List.length_singleton] at hk
      rw [getD_app]
      split
      · rename_i hlt; exact h.lt k hlt
      · rw [if_pos (by omega)]; exact b1
    · simp only [List.length_append, List.length_singleton] at hk
      rw [getD_app, h.len]
      split
      · rename_i hlt; exact h.tl k hlt
      · rw [if_pos (by omega)]; exact b2
    · simp only [List.length_append, List.length_singleton] at hk
      rw [fam_app h.len, pvt_app _ _ _ (by omega)]
      by_cases hlt : k < st.D.length
      · rw [if_pos hlt, if_pos hlt]; exact h.fe.own k hlt (h.pos k hlt)
      · rw [if_neg hlt, if_neg hlt, if_pos (by omega)]; exact t1
    · simp only [List.length_append, List.length_singleton] at hk
      rw [fam_app h.len, pvt_app _ _ i (by omega), if_pos (show i < st.D.length by omega)]
      by_cases hlt : k < st.D.length
      · rw [if_pos hlt]; exact h.fe.later i k hik hlt (h.pos i (by omega))
      · rw [if_neg hlt, if_pos (by omega)]; exact hcl' i (by omega)

/-- The traces of the rows that vanish, and the array, behind the first i rows with the traces 2^j. -/
def kruns (G : Nat → Nat) : Nat → KS
  | 0 => ⟨[], [], []⟩
  | i + 1 => kst (kruns G i) (G i, 2 ^ i)
def krunS (G : Nat → Nat) : Nat → (Nat → TR)
  | 0 => fun _ => (0, 0)
  | i + 1 => addS (krunS G i) (G i, 2 ^ i)
def ktr (G : Nat → Nat) : Nat → List Nat
  | 0 => []
  | i + 1 => ktr G i ++ (if (rmd (krunS G i) (G i, 2 ^ i) 60).1 = 0 then [(rmd (krunS G i) (G i, 2 ^ i) 60).2] else [])

theorem KOk.nil : KOk ⟨[], [], []⟩ := ⟨rfl, fun k hk => by simp at hk, fun k hk => by simp at hk, fun k hk => by simp at hk, ⟨fun k hk => by simp at hk, fun i k hik hk => by simp at hk⟩⟩

theorem pow_lt60 {i : Nat} (h : i < 60) : 2 ^ i < 2 ^ 60 := Nat.pow_lt_pow_right (by decide) h

theorem Tells.up {G : Nat → Nat} {i : Nat} {R : Nat → TR} {n : Nat} (h : Tells G i R n) (hs : InSp (fun k => (R k).1) n (G i)) : Tells G (i + 1) R n := by
  refine ⟨fun k hk => ?_, fun k hk => Nat.lt_trans (h.lt k hk) (Nat.pow_lt_pow_right (by decide) (by omega)), h.free, fun j hj => ?_⟩
  · rw [comb_high G (i + 1) i _ (h.lt k hk) (by omega)]; exact h.sum k hk
  · by_cases e : j = i
    · rw [e]; exact hs
    · exact h.all j (by omega)

/-- Facts on what remains of row i with the trace 2^i. -/
theorem Tells.res {G : Nat → Nat} {i : Nat} {R : Nat → TR} {n : Nat} {p : Nat → Nat} (h : Tells G i R n) (f : FE R p n) :
    ((rmp R p (G i, 2 ^ i) n).1 = 0 ↔ dep G i) ∧ comb G (i + 1) (rmp R p (G i, 2 ^ i) n).2 = (rmp R p (G i, 2 ^ i) n).1 ∧ (rmp R p (G i, 2 ^ i) n).2 < 2 ^ (i + 1) ∧
      (¬ dep G i → Go.Proofs.YtdojblmffmefgaaDoor.free G (rmp R p (G i, 2 ^ i) n).2) ∧ ∃ s, s < 2 ^ i ∧ Go.Proofs.YtdojblmffmefgaaDoor.free G s ∧ comb G i s = G i ^^^ (rmp R p (G i, 2 ^ i) n).1 ∧ (rmp R p (G i, 2 ^ i) n).2 = s ^^^ 2 ^ i := by
  obtain ⟨a, b, c, d⟩ := h.rem f (G i) (2 ^ i)
  generalize rmp R p (G i, 2 ^ i) n = res at *
  have e : res.2 = (res.2 ^^^ 2 ^ i) ^^^ 2 ^ i := by rw [Nat.xor_assoc, Nat.xor_self, Nat.xor_zero]
  have lt : 2 ^ i < 2 ^ (i + 1) := Nat.pow_lt_pow_right (by decide) (by omega)
  refine ⟨d, ?_, ?_, fun hd => ?_, ⟨_, b, c, a, e⟩⟩
  · rw [e, comb_xor, comb_pow G (i + 1) i (by omega), comb_high G (i + 1) i _ b (by omega), a, Nat.xor_comm, ← Nat.xor_assoc, Nat.xor_self, Nat.zero_xor]
  · rw [e]; exact Nat.xor_lt_two_pow (Nat.lt_trans b lt) lt
  · rw [e]
    refine free_xor c ?_
    intro j hj
    rw [Nat.testBit_two_pow] at hj
    have : i = j := by simpa using hj
    rw [← this]; exact hd

theorem Tells.snoc {G : Nat → Nat} {i : Nat} {st : KS} (h : Tells G i (fam st.D st.M) st.D.length) (ok : KOk st) (h0 : (rml st.D st.M (G i, 2 ^ i)).1 ≠ 0) :
    Tells G (i + 1) (fam (st.D ++ [(rml st.D st.M (G i, 2 ^ i)).1]) (st.M ++ [(rml st.D st.M (G i, 2 ^ i)).2])) (st.D ++ [(rml st.D st.M (G i, 2 ^ i)).1]).length := by
  obtain ⟨a, b, c, d, _⟩ := h.res ok.fe
  obtain ⟨m, _, _, he⟩ := rmp_comb (fam st.D st.M) (pvt st.D) (G i, 2 ^ i) st.D.length
  change _ = 0 ↔ _ at a
  have hnd : ¬ dep G i := fun hd => h0 (a.2 hd)
  have hf := d hnd
  have fa := fam_app ok.len (rml st.D st.M (G i, 2 ^ i)).1 (rml st.D st.M (G i, 2 ^ i)).2
  have hold : ∀ k, k < st.D.length → InSp (fun k => (fam (st.D ++ [(rml st.D st.M (G i, 2 ^ i)).1]) (st.M ++ [(rml st.D st.M (G i, 2 ^ i)).2]) k).1) (st.D.length + 1) (fam st.D st.M k).1 := by
    intro k hk
    have := InSp.row (fun k => (fam (st.D ++ [(rml st.D st.M (G i, 2 ^ i)).1]) (st.M ++ [(rml st.D st.M (G i, 2 ^ i)).2]) k).1) (st.D.length + 1) k (by omega)
    simp only [fa k, if_pos hk] at this
    exact this
  have hres := InSp.row (fun k => (fam (st.D ++ [(rml st.D st.M (G i, 2 ^ i)).1]) (st.M ++ [(rml st.D st.M (G i, 2 ^ i)).2]) k).1) (st.D.length + 1) st.D.length (by omega)
  simp only [fa st.D.length, if_neg (Nat.lt_irrefl _), if_true] at hres
  rw [List.length_append, List.length_singleton]
  refine ⟨fun k hk => ?_, fun k hk => ?_, fun k hk => ?_, fun j hj => ?_⟩
  · rw [fa k]
    split
    · rename_i hlt
      rw [comb_high G (i + 1) i _ (h.lt k hlt) (by omega)]; exact h.sum k hlt
    · rw [if_pos (by omega)]; exact b
  · rw [fa k]
    split
    · rename_i hlt
      exact Nat.lt_trans (h.lt k hlt) (Nat.pow_lt_pow_right (by decide) (by omega))
    · rw [if_pos (by omega)]; exact c
  · rw [fa k]
    split
    · rename_i hlt
      exact h.free k hlt
    · rw [if_pos (by omega)]; exact hf
  · by_cases e : j = i
    · subst e
      have e2 : G j = (rml st.D st.M (G j, 2 ^ j)).1 ^^^ comb (fun k => (fam st.D st.M k).1) st.D.length m := by
        have : (rml st.D st.M (G j, 2 ^ j)).1 = G j ^^^ comb (fun k => (fam st.D st.M k).1) st.D.length m := by unfold rml; rw [he]
        rw [this, Nat.xor_assoc, Nat.xor_self, Nat.xor_zero]
      have hx := InSp.xor hres (InSp.comb hold m)
      rw [← e2] at hx
      exact hx
    · exact (h.all j (by omega)).mono hold

theorem Tells.addS' {G : Nat → Nat} {i : Nat} {S : Nat → TR} (h : Tells G i S 60) (hp : Piv S) (hz : ∀ k, k < 60 → (S k).1 = 0 → (S k).2 = 0) (hg : G i < 2 ^ 60) (hi : i < 60) (h0 : (rmd S (G i, 2 ^ i) 60).1 ≠ 0) :
    Tells G (i + 1) (addS S (G i, 2 ^ i)) 60 := by
  obtain ⟨a, b, c, d, _⟩ := h.res hp.fe
  rw [← rmd_rmp] at a b c d
  have hnd : ¬ dep G i := fun hd => h0 (a.2 hd)
  have hf := d hnd
  have lt : 2 ^ i < 2 ^ (i + 1) := Nat.pow_lt_pow_right (by decide) (by omega)
  have old : ∀ k, k < 60 → comb G (i + 1) (S k).2 = (S k).1 := fun k hk => by rw [comb_high G (i + 1) i _ (h.lt k hk) (by omega)]; exact h.sum k hk
  have hwas := Clo.wasS (C := fun a _ => InSp (fun k => (addS S (G i, 2 ^ i) k).1) 60 a) ⟨InSp.zero _ _, fun _ _ _ _ => fun x y => InSp.xor x y⟩ hp hz (G i, 2 ^ i) hg (pow_lt60 hi) h0 (fun k hk => InSp.row (fun k => (addS S (G i, 2 ^ i) k).1) 60 k hk)
  refine ⟨fun k hk => ?_, fun k hk => ?_, fun k hk => ?_, fun j hj => ?_⟩
  · rw [addS_at h0]
    split
    · exact b
    · unfold nxt
      split
      · simp only [addTR]; rw [comb_xor, old k hk, b]
      · exact old k hk
  · rw [addS_at h0]
    split
    · exact c
    · unfold nxt
      split
      · exact Nat.xor_lt_two_pow (Nat.lt_trans (h.lt k hk) lt) c
      · exact Nat.lt_trans (h.lt k hk) lt
  · rw [addS_at h0]
    split
    · exact hf
    · unfold nxt
      split
      · exact free_xor (h.free k hk) hf
      · exact h.free k hk
  · by_cases e : j = i
    · rw [e]; exact hwas.2
    · exact (h.all j (by omega)).mono hwas.1

/-- Both ways side by side. -/
structure Both (G : Nat → Nat) (i : Nat) : Prop where
  ok : KOk (kruns G i)
  tl : Tells G i (fam (kruns G i).D (kruns G i).M) (kruns G i).D.length
  piv : Piv (krunS G i)
  zs : ∀ k, k < 60 → (krunS G i k).1 = 0 → (krunS G i k).2 = 0
  tS : Tells G i (krunS G i) 60
  same : (kruns G i).O = ktr G i
  out : ∀ o ∈ ktr G i, o < 2 ^ i ∧ comb G i o = 0

theorem both_runs (G : Nat → Nat) (n : Nat) (hn : n ≤ 60) (hG : ∀ i, i < n → G i < 2 ^ 60) : ∀ i, i ≤ n → Both G i := by
  intro i
  induction i with
  | zero =>
    intro _
    exact ⟨KOk.nil, ⟨fun k hk => by simp [kruns] at hk, fun k hk => by simp [kruns] at hk, fun k hk => by simp [kruns] at hk, fun j hj => by omega⟩, piv_zero, fun _ _ _ => rfl,
      ⟨fun k _ => comb_zero _ _, fun k _ => Nat.two_pow_pos 0, fun k _ => free_zero G, fun j hj => by omega⟩, rfl, by simp [ktr]⟩
  | succ i ih =>
    intro hi
    have h := ih (by omega)
    have hg := hG i (by omega)
    have hp := pow_lt60 (show i < 60 by omega)
    obtain ⟨a1, b1, c1, d1, s1, u1, v1, w1, x1⟩ := h.tl.res h.ok.fe
    obtain ⟨a2, b2, c2, d2, s2, u2, v2, w2, x2⟩ := h.tS.res h.piv.fe
    rw [← rmd_rmp] at a2 b2 c2 w2 x2
    have rl : rml (kruns G i).D (kruns G i).M (G i, 2 ^ i) = rmp (fam (kruns G i).D (kruns G i).M) (pvt (kruns G i).D) (G i, 2 ^ i) (kruns G i).D.length := rfl
    rw [← rl] at a1 b1 c1 w1 x1
    have lt : 2 ^ i < 2 ^ (i + 1) := Nat.pow_lt_pow_right (by decide) (by omega)
    have hout : ∀ o ∈ ktr G i, o < 2 ^ (i + 1) ∧ comb G (i + 1) o = 0 := fun o ho => by
      obtain ⟨p, q⟩ := h.out o ho
      exact ⟨Nat.lt_trans p lt, by rw [comb_high G (i + 1) i _ p (by omega)]; exact q⟩
    by_cases hd : dep G i
    · have z1 := a1.2 hd
      have z2 := a2.2 hd
      have hsame : (rml (kruns G i).D (kruns G i).M (G i, 2 ^ i)).2 = (rmd (krunS G i) (G i, 2 ^ i) 60).2 := by
        rw [x1, x2, free_unique G i s1 s2 u1 u2 v1 v2 (by rw [w1, w2, z1, z2])]
      have k1 : kruns G (i + 1) = ⟨(kruns G i).D, (kruns G i).M, (kruns G i).O ++ [(rml (kruns G i).D (kruns G i).M (G i, 2 ^ i)).2]⟩ := kst_zero z1
      have k2 : krunS G (i + 1) = krunS G i := addS_zero z2
      have k3 : ktr G (i + 1) = ktr G i ++ [(rmd (krunS G i) (G i, 2 ^ i) 60).2] := by rw [ktr, if_pos z2]
      refine ⟨h.ok.step (G i, 2 ^ i) hg hp, ?_, ?_, ?_, ?_, ?_, ?_⟩
      · rw [k1]; exact h.tl.up ((h.ok.fe.rem_zero (G i, 2 ^ i)).1 z1)
      · rw [k2]; exact h.piv
      · rw [k2]; exact h.zs
      · rw [k2]; exact h.tS.up ((h.piv.fe.rem_zero (G i, 2 ^ i)).1 (by rw [← rmd_rmp]; exact z2))
      · rw [k1, k3, hsame, h.same]
      · rw [k3]
        intro o ho
        rcases List.mem_append.1 ho with ho | ho
        · exact hout o ho
        · rw [List.mem_singleton] at ho
          subst ho
          exact ⟨c2, by rw [b2, z2]⟩
    · have z1 : (rml (kruns G i).D (kruns G i).M (G i, 2 ^ i)).1 ≠ 0 := fun e => hd (a1.1 e)
      have z2 : (rmd (krunS G i) (G i, 2 ^ i) 60).1 ≠ 0 := fun e => hd (a2.1 e)
      have k1 : kruns G (i + 1) = ⟨(kruns G i).D ++ [(rml (kruns G i).D (kruns G i).M (G i, 2 ^ i)).1], (kruns G i).M ++ [(rml (kruns G i).D (kruns G i).M (G i, 2 ^ i)).2], (kruns G i).O⟩ := kst_more z1
      have k3 : ktr G (i + 1) = ktr G i := by rw [ktr, if_neg z2, List.append_nil]
      refine ⟨h.ok.step (G i, 2 ^ i) hg hp, ?_, h.piv.add (G i, 2 ^ i) hg hp, addS_zeros h.piv h.zs (G i, 2 ^ i) hg hp, h.tS.addS' h.piv h.zs hg (by omega) z2, ?_, ?_⟩
      · rw [k1]; exact h.tl.snoc h.ok z1
      · rw [k1, k3]; exact h.same
      · rw [k3]; exact hout

/-- Solutions: the same on both ways. -/
theorem solve_same (G : Nat → Nat) (n v : Nat) (hn : n ≤ 60) (hG : ∀ i, i < n → G i < 2 ^ 60) :
    ((rml (kruns G n).D (kruns G n).M (v, 0)).1 = 0 ↔ (rmd (krunS G n) (v, 0) 60).1 = 0) ∧ ((rmd (krunS G n) (v, 0) 60).1 = 0 →
      (rml (kruns G n).D (kruns G n).M (v, 0)).2 = (rmd (krunS G n) (v, 0) 60).2 ∧ (rmd (krunS G n) (v, 0) 60).2 < 2 ^ n ∧ free G (rmd (krunS G n) (v, 0) 60).2 ∧ comb G n (rmd (krunS G n) (v, 0) 60).2 = v) := by
  have h := both_runs G n hn hG n (Nat.le_refl _)
  obtain ⟨a1, b1, c1, d1⟩ := h.tl.rem h.ok.fe v 0
  obtain ⟨a2, b2, c2, d2⟩ := h.tS.rem h.piv.fe v 0
  rw [← rmd_rmp] at a2 b2 c2 d2
  have rl : rml (kruns G n).D (kruns G n).M (v, 0) = rmp (fam (kruns G n).D (kruns G n).M) (pvt (kruns G n).D) (v, 0) (kruns G n).D.length := rfl
  rw [← rl] at a1 b1 c1 d1
  simp only [Nat.xor_zero] at a1 b1 c1 a2 b2 c2
  have e : (rml (kruns G n).D (kruns G n).M (v, 0)).1 = 0 ↔ (rmd (krunS G n) (v, 0) 60).1 = 0 := by rw [d1, d2]
  refine ⟨e, fun z => ⟨?_, b2, c2, by rw [a2, z, Nat.xor_zero]⟩⟩
  exact free_unique G n _ _ b1 b2 c1 c2 (by rw [a1, a2, z, e.2 z])

/-! The least mask. -/

/-- Rows with different greatest digits. -/
def topStep (own t : Nat) : Nat := min own (own ^^^ t)
def topsOf (K : List Nat) : List Nat := K.foldl (fun tops r => if tops.foldl topStep r ≠ 0 then tops ++ [tops.foldl topStep r] else tops) []

theorem min_either (a b : Nat) : min a b = a ∨ min a b = b := by
  rcases Nat.le_total a b with h | h
  · left; exact Nat.min_eq_left h
  · right; exact Nat.min_eq_right h

theorem fold_in {C : Nat → Prop} (hx : ∀ a b, C a → C b → C (a ^^^ b)) (T : List Nat) (hT : ∀ t ∈ T, C t) (r : Nat) (hr : C r) : C (T.foldl topStep r) := by
  induction T generalizing r with
  | nil => exact hr
  | cons t T ih =>
    refine ih (fun q hq => hT q (by simp [hq])) _ ?_
    unfold topStep
    rcases min_either r (r ^^^ t) with e | e
    · rw [e]; exact hr
    · rw [e]; exact hx _ _ hr (hT t (by simp))

theorem tops_in {C : Nat → Prop} (hx : ∀ a b, C a → C b → C (a ^^^ b)) (K : List Nat) (hK : ∀ r ∈ K, C r) : ∀ t ∈ topsOf K, C t ∧ t ≠ 0 := by
  have aux : ∀ (K : List Nat) (T : List Nat), (∀ r ∈ K, C r) → (∀ t ∈ T, C t ∧ t ≠ 0) → ∀ t ∈ K.foldl (fun tops r => if tops.foldl topStep r ≠ 0 then tops ++ [tops.foldl topStep r] else tops) T, C t ∧ t ≠ 0 := by
    intro K
    induction K with
    | nil => intro T _ hT; exact hT
    | cons r K ih =>
      intro T hK hT
      rw [List.foldl_cons]
      refine ih _ (fun q hq => hK q (by simp [hq])) ?_
      split
      · rename_i h0
        intro t ht
        rcases List.mem_append.1 ht with ht | ht
        · exact hT t ht
        · rw [List.mem_singleton] at ht
          subst ht
          exact ⟨fold_in hx T (fun t ht => (hT t ht).1) r (hK r (by simp)), h0⟩
      · exact hT
  exact aux K [] hK (by simp)

theorem lt_of_bit {x y : Nat} (q : Nat) (h1 : x.testBit q = false) (h2 : y.testBit q = true) (h : ∀ j, q < j → x.testBit j = y.testBit j) : x < y := by
  have e : x / 2 ^ (q + 1) = y / 2 ^ (q + 1) := by
    apply Nat.eq_of_testBit_eq
    intro i
    rw [Nat.testBit_div_two_pow, Nat.testBit_div_two_pow]
    exact h _ (by omega)
  rw [Nat.testBit_eq_decide_div_mod_eq] at h1 h2
  have a := Nat.div_add_mod x (2 ^ (q + 1))
  have b := Nat.div_add_mod y (2 ^ (q + 1))
  have c : x % 2 ^ (q + 1) = x % 2 ^ q + 2 ^ q * (x / 2 ^ q % 2) := Nat.mod_pow_succ ..
  have d : y % 2 ^ (q + 1) = y % 2 ^ q + 2 ^ q * (y / 2 ^ q % 2) := Nat.mod_pow_succ ..
  have h1' : x / 2 ^ q % 2 = 0 := by simp at h1; omega
  have h2' : y / 2 ^ q % 2 = 1 := by simpa using h2
  rw [h1', Nat.mul_zero] at c
  rw [h2', Nat.mul_one] at d
  have l := Nat.mod_lt x (Nat.two_pow_pos q)
  rw [← e] at b
  generalize 2 ^ (q + 1) * (x / 2 ^ (q + 1)) = z at *
  omega

/-- A mask that tells no row that is a sum of earlier ones is the least of its solutions. -/
theorem least_free (G : Nat → Nat) (n x t : Nat) (hx : free G x) (ht0 : t ≠ 0) (htn : t < 2 ^ n) (htk : comb G n t = 0) : min x (x ^^^ t) = x := by
  obtain ⟨q, h1, h2, h3, h4⟩ := top_bit t n ht0 htn
  have hd := ker_top G n t q h1 h2 h3 htk
  have hxq : x.testBit q = false := by
    cases hb : x.testBit q
    · rfl
    · exact absurd hd (hx q hb)
  have hb2 : (x ^^^ t).testBit q = true := by rw [Nat.testBit_xor, hxq, h2]; rfl
  exact Nat.min_eq_left (Nat.le_of_lt (lt_of_bit q hxq hb2 fun j hj => by rw [Nat.testBit_xor, h4 j hj, Bool.xor_false]))
end Go.Proofs.YtdojblmffmefgaaDoor
