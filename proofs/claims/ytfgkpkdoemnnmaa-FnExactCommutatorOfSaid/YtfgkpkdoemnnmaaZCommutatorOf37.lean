/-
  Joined: PMulB.
-/
import Derived.Test.YtfgkpkdoemnnmaaZCommutatorOf35
import Derived.Test.YtfgkpkdoemnnmaaZCommutatorOf36
section
namespace Go.Proofs.Ytfgkpkdoemnnmaa.Ml
open Go.RowKit
set_option linter.unusedVariables false
set_option maxRecDepth 100000

/-- What occurs an odd number of times, in order. -/
def oddL : List (List Int) → List (List Int)
  | [] => []
  | x :: l => mrg [x] (oddL l)
theorem oddL_spec : ∀ l : List (List Int), Asc (oddL l) ∧ ∀ z, z ∈ oddL l ↔ par l z
  | [] => ⟨List.Pairwise.nil, fun z => by simp [oddL, par]⟩
  | x :: l => by
    obtain ⟨h1, h2⟩ := oddL_spec l
    obtain ⟨k1, k2⟩ := mrg_spec [x] (oddL l) (List.pairwise_singleton _ _) h1
    refine ⟨k1, fun z => ?_⟩
    rw [oddL, k2, h2]
    show _ ↔ (x = z ∧ ¬ par l z) ∨ (x ≠ z ∧ par l z)
    by_cases e : x = z
    · subst e; simp
    · have : z ∉ [x] := by simp; exact fun h => e h.symm
      simp [this, e]
theorem oddL_eq {l : List (List Int)} {zs : List (List Int)} (ha : Asc zs) (h : ∀ z, z ∈ zs ↔ par l z) : zs = oddL l :=
  asc_ext _ _ ha (oddL_spec l).1 fun z => by rw [h, (oddL_spec l).2]
theorem par_flat_congr {f g : Nat → List (List Int)} (z : List Int) : ∀ l : List Nat, (∀ i ∈ l, par (f i) z ↔ par (g i) z) → (par (l.flatMap f) z ↔ par (l.flatMap g) z)
  | [], _ => Iff.rfl
  | a :: l, h => by
    rw [List.flatMap_cons, List.flatMap_cons, par_append, par_append, h a List.mem_cons_self, par_flat_congr z l fun i hi => h i (List.mem_cons_of_mem _ hi)]
/-- The product of two elements. -/
structure Fac (X Y : Nat → List Int) (p q : Nat) : Prop where
  l : okMl X p
  r : okMl Y q
  d : 0 < p → 0 < q → dgL (X 0) + dgL (Y 0) ≤ 40
theorem Fac.swap {X Y : Nat → List Int} {p q : Nat} (h : Fac X Y p q) : Fac Y X q p := ⟨h.r, h.l, fun a b => by have := h.d b a; omega⟩
theorem Fac.pair {X Y : Nat → List Int} {p q : Nat} (h : Fac X Y p q) (i k : Nat) (hi : i < p) (hk : k < q) : goodE (X i) ∧ goodE (Y k) ∧ dgL (X i) + dgL (Y k) ≤ 40 := by
  refine ⟨(h.l.2 i hi).1, (h.r.2 k hk).1, ?_⟩
  rw [(h.l.2 i hi).2, (h.r.2 k hk).2]
  exact h.d (by omega) (by omega)
theorem Fac.same {X Y : Nat → List Int} {p q : Nat} (h : Fac X Y p q) (z : List Int) : par (allTo X Y q p) z ↔ par (call X Y q p) z := by
  refine par_flat_congr z _ fun i hi => par_flat_congr z _ fun k hk => ?_
  obtain ⟨a, b, c⟩ := h.pair i k (List.mem_range.1 hi) (List.mem_range.1 hk)
  exact (cntL_par a b c z).symm
/-- The terms of the product. -/
noncomputable def prodT (X Y : Nat → List Int) (p q : Nat) : List (List Int) := oddL (call X Y q p)
theorem prodT_spec (X Y : Nat → List Int) (p q : Nat) : Asc (prodT X Y p q) ∧ ∀ z, z ∈ prodT X Y p q ↔ par (call X Y q p) z := oddL_spec _
theorem Fac.few {X Y : Nat → List Int} {p q : Nat} (h : Fac X Y p q) : (prodT X Y p q).length ≤ 15000 := by
  have h1 := nodup_len _ (call X Y q p) (prodT_spec X Y p q).1.nodup fun x hx => par_mem _ _ (((prodT_spec X Y p q).2 x).1 hx)
  have := call_all_few h.l h.r h.d
  omega
theorem Fac.ok {X Y : Nat → List Int} {p q : Nat} (h : Fac X Y p q) : ∀ x ∈ prodT X Y p q, x.length ≤ 5 ∧ ∀ z ∈ x, 0 ≤ z ∧ z ≤ 10000000 := fun x hx => call_ok h.l h.r x (par_mem _ _ (((prodT_spec X Y p q).2 x).1 hx))
theorem rows_short {L : List (List Int)} (h : ∀ x ∈ L, x.length ≤ 5 ∧ ∀ z ∈ x, 0 ≤ z ∧ z ≤ 10000000) (i : Nat) : (rowsOf L i).length ≤ 20 := by
  unfold rowsOf
  by_cases k : i < L.length
  · rw [List.getElem?_eq_getElem k]
    show L[i].length ≤ 20
    have := (h _ (List.getElem_mem k)).1
    omega
  · rw [List.getElem?_eq_none (by omega)]; exact Nat.zero_le _
theorem rows_wf {L : List (List Int)} (h : ∀ x ∈ L, x.length ≤ 5 ∧ ∀ z ∈ x, 0 ≤ z ∧ z ≤ 10000000) (i : Nat) : ∀ z ∈ rowsOf L i, (Lit.int .i64 z).wf = true := fun z hz => by
  unfold rowsOf at hz
  by_cases k : i < L.length
  · rw [List.getElem?_eq_getElem k] at hz
    have := (h _ (List.getElem_mem k)).2 z hz
    exact (Bool.and_eq_true _ _).mpr ⟨decide_eq_true (by omega : (-9223372036854775808 : Int) ≤ z), decide_eq_true (by omega : z ≤ (9223372036854775807 : Int))⟩
  · rw [List.getElem?_eq_none (by omega)] at hz; cases hz

theorem allTo_len {X Y : Nat → List Int} {p q : Nat} (h : Fac X Y p q) (i k : Nat) (hi : i < p) (hk : k ≤ q) : (allTo X Y q i ++ rowTo X Y i k).length ≤ 100000000000 := by
  have hp := okMl_few h.l
  have hq := okMl_few h.r
  have row : ∀ i k, i < p → k ≤ q → (rowTo X Y i k).length ≤ k * 10000000 := fun i k hi => by
    induction k with
    | zero => intro _; simp [rowTo]
    | succ k ih =>
      intro hk
      obtain ⟨a, b, _⟩ := h.pair i k hi (by omega)
      have := prodL_few a b
      rw [rowTo_succ, List.length_append, Nat.succ_mul]
      have := ih (by omega)
      omega
  have all : ∀ i, i ≤ p → (allTo X Y q i).length ≤ i * (q * 10000000) := fun i => by
    induction i with
    | zero => intro _; simp [allTo]
    | succ i ih =>
      intro hi
      have := row i q (by omega) (Nat.le_refl _)
      rw [allTo_succ, List.length_append, Nat.succ_mul]
      have := ih (by omega)
      omega
  have h1 := row i k hi hk
  have h2 := all i (by omega)
  have h3 : i * (q * 10000000) ≤ 82 * (82 * 10000000) := Nat.mul_le_mul (by omega) (Nat.mul_le_mul_right _ hq)
  rw [List.length_append]
  omega

/-- spec.l04Times gives the product's terms. -/
def TermsPost (L : List (List Int)) (w : World) (e : Ending) (w' : World) : Prop := ∃ V VS, e = .returned V ∧ FamL w' w.heap.size V VS L ∧ Sep L.length VS ∧ Below w.heap.size w w'
theorem specTimes {X Y : Nat → List Int} {p q : Nat} (h : Fac X Y p q) (va vb : Value) (VA VB : Nat → Value) (Ba Bb : Nat) (w : World) (ha : Fam w Ba va p VA X) (hb : Fam w Bb vb q VB Y) : Calls Try.prog 47 #[va, vb] w (TermsPost (prodT X Y p q) w) := by
  have hp := okMl_few h.l
  have hq := okMl_few h.r
  refine (l04Times_any va vb VA VB X Y p q Ba Bb w ha hb (by omega) (by omega) (fun i hi => ⟨good_len (h.l.2 i hi).1, good_small (h.l.2 i hi).1⟩) (fun i hi => ⟨good_len (h.r.2 i hi).1, good_small (h.r.2 i hi).1⟩) (fun i k hi hk => by
    obtain ⟨a, b, _⟩ := h.pair i k hi hk
    have := prodL_few a b
    omega) (fun i k hi hk => allTo_len h i k hi hk)).mono ?_
  rintro e w' ⟨S, VS, M, rfl, hT⟩
  have e1 : M = prodT X Y p q := oddL_eq hT.asc fun z => by
    rw [← h.same z, par_count, ← hT.par z, asc_count hT.asc]
    by_cases c : z ∈ M <;> simp [c]
  subst e1
  exact ⟨S, VS, rfl, hT.fam, hT.sep, hT.bel⟩
theorem implTimes {X Y : Nat → List Int} {p q : Nat} (h : Fac X Y p q) (va vb : Value) (w : World) (ha : RdSS w va p X) (hb : RdSS w vb q Y) : Calls Try.prog 50 #[.agg #[va], .agg #[vb]] w (ResT (prodT X Y p q) w) := by
  obtain ⟨aa, ca, rfl⟩ := ha.head
  obtain ⟨ab, cb, rfl⟩ := hb.head
  refine (timesM_any aa ab ca cb p q X Y w ha hb h.l h.r h.d).mono ?_
  rintro e w' ⟨V, VS, zs, rfl, hF, hS, hB, hA, hP⟩
  have e1 : zs = prodT X Y p q := oddL_eq hA hP
  subst e1
  exact ⟨V, VS, rfl, hF, hS, hB⟩

/-! ### MultiplyMilnor -/
theorem specMul_bad (aa ab : Option Addr) (m n ca cb : Nat) (w : World) (cd : Int) (hcd : (cd != 0) = true) (C : Hid (∀ wx, Below w.heap.size w wx → Calls Try.prog 46 #[.agg #[.slice aa m ca], .agg #[.slice ab n cb]] wx (SaysI cd wx))) :
    Calls Try.prog 14 #[.agg #[.slice aa m ca], .agg #[.slice ab n cb]] w (ResS [] cd w) := by
  have t2 := Try.underlying26
  obtain ⟨w1, hw1⟩ : ∃ w1, w1 = (((w.alloc (.cells #[.slice aa m ca] 26)).alloc (.cells #[.slice ab n cb] 26)).alloc (.cells #[.slice none 0 0] 26)) := ⟨_, rfl⟩
  have T1 : Hid (Tri w (.slice aa m ca) (.slice ab n cb) w1) := Lib.hid (by rw [hw1]; exact Tri.start _ _ _)
  go_enter Try.func14, Try.ntmps14
  go_wp2_with fail
  rw [← hw1]
  clear hw1
  have d0 := T1.out.bA.c
  have d1 := T1.out.bB.c
  go_wp2_with fail
  refine (C.out w1 T1.out.bel).mono ?_
  rintro e w2 ⟨rfl, b2⟩
  have T2 := Lib.hid (T1.out.up b2)
  clear b2 T1 d0 d1
  have dR := T2.out.bR.c
  have fR := T2.out.bR.fr 0
  go_wp2_with fail
  have FIN := finS (w := w) (famNil _ (w.heap.size + 1 + 1 + 1)) T2.out.bel (by omega) (by omega) T2.out.bR
  refine bodyPost_ret (results_box1_tmp rfl _ _ (w.heap.size + 1 + 1) _ _ rfl FIN.1 t2 (by kernel_rfl)) rfl ?_
  exact ⟨_, _, rfl, FIN.2.1, sepNil, FIN.2.2⟩
theorem specMul_ok (aa ab : Option Addr) (m n ca cb : Nat) (w : World) (L : List (List Int)) (C : Hid (∀ wx, Below w.heap.size w wx → Calls Try.prog 46 #[.agg #[.slice aa m ca], .agg #[.slice ab n cb]] wx (SaysI 0 wx)))
    (S : Hid (∀ wx, Below w.heap.size w wx → Calls Try.prog 47 #[.slice aa m ca, .slice ab n cb] wx (TermsPost L wx))) :
    Calls Try.prog 14 #[.agg #[.slice aa m ca], .agg #[.slice ab n cb]] w (ResS L 0 w) := by
  have t2 := Try.underlying26
  obtain ⟨w1, hw1⟩ : ∃ w1, w1 = (((w.alloc (.cells #[.slice aa m ca] 26)).alloc (.cells #[.slice ab n cb] 26)).alloc (.cells #[.slice none 0 0] 26)) := ⟨_, rfl⟩
  have T1 : Hid (Tri w (.slice aa m ca) (.slice ab n cb) w1) := Lib.hid (by rw [hw1]; exact Tri.start _ _ _)
  go_enter Try.func14, Try.ntmps14
  go_wp2_with fail
  rw [← hw1]
  clear hw1
  have d0 := T1.out.bA.c
  have d1 := T1.out.bB.c
  go_wp2_with fail
  refine (C.out w1 T1.out.bel).mono ?_
  rintro e w2 ⟨rfl, b2⟩
  have T2 := Lib.hid (T1.out.up b2)
  clear b2 T1 d0 d1
  have d0 := T2.out.bA.c
  have d1 := T2.out.bB.c
  go_wp2_with fail
  refine (S.out w2 T2.out.bel).mono ?_
  rintro e w3 ⟨V, VS, rfl, hF, hS, b3⟩
  obtain ⟨av, cv, rfl, _, _⟩ := hF.head
  have HF := Lib.hid hF
  have HS := Lib.hid hS
  have hsz := T2.out.size
  have T3 := Lib.hid (T2.out.up b3)
  clear b3 hF hS d0 d1 T2
  have dR := T3.out.bR.c
  have fR := T3.out.bR.fr 0
  go_wp2_with fail
  have FIN := finS (w := w) HF.out T3.out.bel (by omega) (by omega) T3.out.bR
  refine bodyPost_ret (results_box1_tmp rfl _ _ (w.heap.size + 1 + 1) _ _ rfl FIN.1 t2 (by kernel_rfl)) rfl ?_
  exact ⟨_, _, rfl, FIN.2.1, HS.out, FIN.2.2⟩
theorem implMul_bad (aa ab : Option Addr) (m n ca cb : Nat) (w : World) (cd : Int) (hcd : (cd != 0) = true) (C : Hid (∀ wx, Below w.heap.size w wx → Calls Try.prog 49 #[.agg #[.slice aa m ca], .agg #[.slice ab n cb]] wx (SaysI cd wx))) :
    Calls Try.prog 16 #[.agg #[.slice aa m ca], .agg #[.slice ab n cb]] w (ResS [] cd w) := by
  have t2 := Try.underlying26
  obtain ⟨w1, hw1⟩ : ∃ w1, w1 = (((w.alloc (.cells #[.slice aa m ca] 26)).alloc (.cells #[.slice ab n cb] 26)).alloc (.cells #[.slice none 0 0] 26)) := ⟨_, rfl⟩
  have T1 : Hid (Tri w (.slice aa m ca) (.slice ab n cb) w1) := Lib.hid (by rw [hw1]; exact Tri.start _ _ _)
  go_enter Try.func16, Try.ntmps16
  go_wp2_with fail
  rw [← hw1]
  clear hw1
  have d0 := T1.out.bA.c
  have d1 := T1.out.bB.c
  go_wp2_with fail
  refine (C.out w1 T1.out.bel).mono ?_
  rintro e w2 ⟨rfl, b2⟩
  have T2 := Lib.hid (T1.out.up b2)
  clear b2 T1 d0 d1
  have dR := T2.out.bR.c
  have fR := T2.out.bR.fr 0
  go_wp2_with fail
  have FIN := finS (w := w) (famNil _ (w.heap.size + 1 + 1 + 1)) T2.out.bel (by omega) (by omega) T2.out.bR
  refine bodyPost_ret (results_box1_tmp rfl _ _ (w.heap.size + 1 + 1) _ _ rfl FIN.1 t2 (by kernel_rfl)) rfl ?_
  exact ⟨_, _, rfl, FIN.2.1, sepNil, FIN.2.2⟩
theorem implMul_ok (aa ab : Option Addr) (m n ca cb : Nat) (w : World) (L : List (List Int)) (C : Hid (∀ wx, Below w.heap.size w wx → Calls Try.prog 49 #[.agg #[.slice aa m ca], .agg #[.slice ab n cb]] wx (SaysI 0 wx)))
    (S : Hid (∀ wx, Below w.heap.size w wx → Calls Try.prog 50 #[.agg #[.slice aa m ca], .agg #[.slice ab n cb]] wx (ResT L wx))) :
    Calls Try.prog 16 #[.agg #[.slice aa m ca], .agg #[.slice ab n cb]] w (ResS L 0 w) := by
  have t2 := Try.underlying26
  obtain ⟨w1, hw1⟩ : ∃ w1, w1 = (((w.alloc (.cells #[.slice aa m ca] 26)).alloc (.cells #[.slice ab n cb] 26)).alloc (.cells #[.slice none 0 0] 26)) := ⟨_, rfl⟩
  have T1 : Hid (Tri w (.slice aa m ca) (.slice ab n cb) w1) := Lib.hid (by rw [hw1]; exact Tri.start _ _ _)
  go_enter Try.func16, Try.ntmps16
  go_wp2_with fail
  rw [← hw1]
  clear hw1
  have d0 := T1.out.bA.c
  have d1 := T1.out.bB.c
  go_wp2_with fail
  refine (C.out w1 T1.out.bel).mono ?_
  rintro e w2 ⟨rfl, b2⟩
  have T2 := Lib.hid (T1.out.up b2)
  clear b2 T1 d0 d1
  have d0 := T2.out.bA.c
  have d1 := T2.out.bB.c
  go_wp2_with fail
  refine (S.out w2 T2.out.bel).mono ?_
  rintro e w3 ⟨V, VS, rfl, hF, hS, b3⟩
  obtain ⟨av, cv, rfl, _, _⟩ := hF.head
  have HF := Lib.hid hF
  have HS := Lib.hid hS
  have hsz := T2.out.size
  have T3 := Lib.hid (T2.out.up b3)
  clear b3 hF hS d0 d1 T2
  have dR := T3.out.bR.c
  have fR := T3.out.bR.fr 0
  go_wp2_with fail
  have FIN := finS (w := w) HF.out T3.out.bel (by omega) (by omega) T3.out.bR
  refine bodyPost_ret (results_box1_tmp rfl _ _ (w.heap.size + 1 + 1) _ _ rfl FIN.1 t2 (by kernel_rfl)) rfl ?_
  exact ⟨_, _, rfl, FIN.2.1, HS.out, FIN.2.2⟩

theorem fac_of {X Y : Nat → List Int} {m n : Nat} (h : codeOf X Y m n = 0) : Fac X Y m n := by
  by_cases hA : okMl X m ∧ okMl Y n
  · rw [codeOf_ok hA.1 hA.2] at h
    refine ⟨hA.1, hA.2, fun a b => ?_⟩
    by_cases c : 0 < m ∧ 0 < n ∧ 40 < dgL (X 0) + dgL (Y 0)
    · rw [if_pos c] at h; cases h
    · omega
  · rw [codeOf_bad hA] at h; cases h
theorem MultiplyMilnor_both (m n : Nat) (X Y : Nat → List Int) :
    ∃ (L : List (List Int)) (cd : Int), L.length ≤ 15000 ∧ (∀ i, (rowsOf L i).length ≤ 20) ∧
      (∀ va vb VA VB Ba Bb w, Fam w Ba va m VA X → Fam w Bb vb n VB Y → Calls Try.prog 14 #[.agg #[va], .agg #[vb]] w (ResS L cd w)) ∧
      (∀ va vb w, RdSS w va m X → RdSS w vb n Y → Calls Try.prog 16 #[.agg #[va], .agg #[vb]] w (ResS L cd w)) := by
  by_cases h : codeOf X Y m n = 0
  · have hF := fac_of h
    refine ⟨prodT X Y m n, 0, hF.few, rows_short hF.ok, ?_, ?_⟩
    · intro va vb VA VB Ba Bb w ha hb
      obtain ⟨aa, ca, rfl⟩ := ha.rdss.head
      obtain ⟨ab, cb, rfl⟩ := hb.rdss.head
      exact specMul_ok aa ab m n ca cb w _ (Lib.hid fun wx hx => by have := code_spec X Y m n _ _ wx (ha.rdss.below hx) (hb.rdss.below hx); rwa [h] at this) (Lib.hid fun wx hx => specTimes hF _ _ VA VB Ba Bb wx (ha.below hx) (hb.below hx))
    · intro va vb w ha hb
      obtain ⟨aa, ca, rfl⟩ := ha.head
      obtain ⟨ab, cb, rfl⟩ := hb.head
      exact implMul_ok aa ab m n ca cb w _ (Lib.hid fun wx hx => by have := code_impl X Y m n _ _ wx (ha.below hx) (hb.below hx); rwa [h] at this) (Lib.hid fun wx hx => implTimes hF _ _ wx (ha.below hx) (hb.below hx))
  · have hne : (codeOf X Y m n != 0) = true := by rw [bne_iff_ne]; exact h
    refine ⟨[], codeOf X Y m n, Nat.zero_le _, fun i => Nat.zero_le _, ?_, ?_⟩
    · intro va vb VA VB Ba Bb w ha hb
      obtain ⟨aa, ca, rfl⟩ := ha.rdss.head
      obtain ⟨ab, cb, rfl⟩ := hb.rdss.head
      exact specMul_bad aa ab m n ca cb w _ hne (Lib.hid fun wx hx => code_spec X Y m n _ _ wx (ha.rdss.below hx) (hb.rdss.below hx))
    · intro va vb w ha hb
      obtain ⟨aa, ca, rfl⟩ := ha.head
      obtain ⟨ab, cb, rfl⟩ := hb.head
      exact implMul_bad aa ab m n ca cb w _ hne (Lib.hid fun wx hx => code_impl X Y m n _ _ wx (ha.below hx) (hb.below hx))
end Go.Proofs.Ytfgkpkdoemnnmaa.Ml
end
