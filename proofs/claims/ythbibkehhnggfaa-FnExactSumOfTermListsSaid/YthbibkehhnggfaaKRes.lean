/-
  spec.SumOfTermLists and impl.SumOfTermLists: the same answer.
-/
import Derived.Test.YthbibkehhnggfaaKSort
import Derived.Test.YthbibkehhnggfaaKSumT2
import Derived.Test.YthbibkehhnggfaaWSpecSum
import Derived.Test.YthbibkehhnggfaaWTermLaw
namespace Go.Proofs.Ythbibkehhnggfaa
open Go.RowKit
set_option linter.unusedVariables false
set_option maxRecDepth 100000

theorem step_lt (X : Nat → List Int) (m : Nat) (h : ∀ i, i < m → stepOk X i) : ∀ j, j < m → ∀ i, i < j → lexLt (X i) (X j) = true := by
  intro j
  induction j with
  | zero => intro _ i hi; exact absurd hi (Nat.not_lt_zero _)
  | succ j ih =>
    intro hj i hi
    have h1 : lexLt (X j) (X (j + 1)) = true := h (j + 1) hj (Nat.succ_pos _)
    by_cases e : i = j
    · subst e; exact h1
    · exact lexLt_trans _ _ _ (ih (by omega) i (by omega)) h1
theorem asc_rows (X : Nat → List Int) (m : Nat) (h : ∀ i, i < m → stepOk X i) : Asc (rowsL X m) := by
  refine List.pairwise_iff_getElem.2 fun i j hi hj hij => ?_
  rw [rowsL_len] at hi hj
  simp only [rowsL, List.getElem_map, List.getElem_range]
  exact step_lt X m h j hj i hij

/-- What both return: the lists and the code. -/
def Res (L : List (List Int)) (cd : Int) (w : World) (e : Ending) (w' : World) : Prop :=
  ∃ V VS, e = .returned (.tuple #[V, .int .i64 cd]) ∧ FamL w' w.heap.size V VS L ∧ Sep L.length VS ∧ Below w.heap.size w w'

theorem Res.nil (cd : Int) (w : World) (q : Nat) : Res [] cd w (.returned (.tuple #[.slice none 0 0, .int .i64 cd])) (w.drewN q) :=
  ⟨_, fun _ => undef, rfl, ⟨World.ownsRow_nil _ _ _ _, fun i hi => absurd hi (Nat.not_lt_zero _)⟩, fun i j hi => absurd hi (Nat.not_lt_zero _), below_drewN (Below.refl _ _) q⟩

theorem specTL_bad1 (va vb : Value) (w : World) (A : Calls Try.prog 23 #[va] w (Says false w)) :
    Calls Try.prog 7 #[va, vb] w (Res [] 1 w) := by
  have A := Lib.hid A
  go_enter Try.func7, Try.ntmps7
  go_wp2_with (go_at_call 23; refine A.out.mono ?_; rintro e w' ⟨rfl, q, rfl⟩)
  go_ret2
  exact Res.nil 1 w q
theorem specTL_bad2 (va vb : Value) (w : World) (A : Calls Try.prog 23 #[va] w (Says true w)) (B : ∀ q, Calls Try.prog 23 #[vb] (w.drewN q) (Says false (w.drewN q))) :
    Calls Try.prog 7 #[va, vb] w (Res [] 1 w) := by
  have A := Lib.hid A
  have B := Lib.hid B
  go_enter Try.func7, Try.ntmps7
  go_wp2_with fail
  refine A.out.mono ?_
  rintro e w' ⟨rfl, q, rfl⟩
  go_wp2_with fail
  refine (B.out q).mono ?_
  rintro e w' ⟨rfl, q2, rfl⟩
  go_wp2_with fail
  go_ret2
  exact Res.nil 1 w (q + q2)
theorem specTL_sum (va vb : Value) (w : World) (L R : List (List Int)) (cd : Int) (hR : (L.length ≤ 2000 ∧ R = L ∧ cd = 0) ∨ (¬ L.length ≤ 2000 ∧ R = [] ∧ cd = 3)) (A : Calls Try.prog 23 #[va] w (Says true w)) (B : ∀ q, Calls Try.prog 23 #[vb] (w.drewN q) (Says true (w.drewN q)))
    (S : ∀ q, Calls Try.prog 24 #[va, vb] (w.drewN q) fun e w' => ∃ V VS, e = .returned V ∧ FamL w' (w.drewN q).heap.size V VS L ∧ Sep L.length VS ∧ Below (w.drewN q).heap.size (w.drewN q) w') :
    Calls Try.prog 7 #[va, vb] w (Res R cd w) := by
  have A := Lib.hid A
  have B := Lib.hid B
  have S := Lib.hid S
  have HR := Lib.hid hR
  clear hR
  go_enter Try.func7, Try.ntmps7
  go_wp2_with fail
  refine A.out.mono ?_
  rintro e w' ⟨rfl, q, rfl⟩
  go_wp2_with fail
  refine (B.out q).mono ?_
  rintro e w' ⟨rfl, q2, rfl⟩
  rw [World.drewN_drewN]
  go_wp2_with fail
  refine (S.out (q + q2)).mono ?_
  rintro e w2 ⟨V, VS, rfl, hF, hS, hb⟩
  obtain ⟨a, cap, rfl, hm, _⟩ := hF.head
  have HF := Lib.hid hF
  have HS := Lib.hid hS
  have HB := Lib.hid hb
  clear hF hS hb
  have b2 : Below w.heap.size w w2 := (below_drewN (Below.refl _ w) (q + q2)).trans HB.out
  have B2 := Lib.hid b2
  clear b2
  rcases HR.out with ⟨h, rfl, rfl⟩ | ⟨h, rfl, rfl⟩
  · have h1 : ¬ (2000 : Int) < (R.length : Int) := by omega
    go_wp2_with fail
    go_ret2
    exact ⟨_, VS, rfl, HF.out, HS.out, B2.out⟩
  · have h1 : (2000 : Int) < (L.length : Int) := by omega
    clear HF HS HB
    go_wp2_with fail
    go_ret2
    exact ⟨_, fun _ => undef, rfl, ⟨World.ownsRow_nil _ _ _ _, fun i hi => absurd hi (Nat.not_lt_zero _)⟩, fun i j hi => absurd hi (Nat.not_lt_zero _), B2.out⟩

theorem implTL_bad1 (va vb : Value) (w : World) (A : Calls Try.prog 26 #[va] w fun e w' => e = .returned (.bool false) ∧ w = w') :
    Calls Try.prog 9 #[va, vb] w (Res [] 1 w) := by
  have A := Lib.hid A
  go_enter Try.func9, Try.ntmps9
  go_wp2_with (go_at_call 26; refine A.out.mono ?_; rintro e w' ⟨rfl, rfl⟩)
  go_ret2
  exact Res.nil 1 w 0
theorem implTL_bad2 (va vb : Value) (w : World) (A : Calls Try.prog 26 #[va] w fun e w' => e = .returned (.bool true) ∧ w = w') (B : Calls Try.prog 26 #[vb] w fun e w' => e = .returned (.bool false) ∧ w = w') :
    Calls Try.prog 9 #[va, vb] w (Res [] 1 w) := by
  have A := Lib.hid A
  have B := Lib.hid B
  go_enter Try.func9, Try.ntmps9
  go_wp2_with fail
  refine A.out.mono ?_
  rintro e w' ⟨rfl, rfl⟩
  go_wp2_with fail
  refine B.out.mono ?_
  rintro e w' ⟨rfl, rfl⟩
  go_wp2_with fail
  go_ret2
  exact Res.nil 1 w 0
theorem implTL_sum (va vb : Value) (w : World) (L R : List (List Int)) (cd : Int) (hR : (L.length ≤ 2000 ∧ R = L ∧ cd = 0) ∨ (¬ L.length ≤ 2000 ∧ R = [] ∧ cd = 3)) (A : Calls Try.prog 26 #[va] w fun e w' => e = .returned (.bool true) ∧ w = w') (B : Calls Try.prog 26 #[vb] w fun e w' => e = .returned (.bool true) ∧ w = w')
    (S : Calls Try.prog 27 #[va, vb] w fun e w' => ∃ V VS, e = .returned V ∧ FamL w' w.heap.size V VS L ∧ Sep L.length VS ∧ Below w.heap.size w w') :
    Calls Try.prog 9 #[va, vb] w (Res R cd w) := by
  have A := Lib.hid A
  have B := Lib.hid B
  have S := Lib.hid S
  have HR := Lib.hid hR
  clear hR
  go_enter Try.func9, Try.ntmps9
  go_wp2_with fail
  refine A.out.mono ?_
  rintro e w' ⟨rfl, rfl⟩
  go_wp2_with fail
  refine B.out.mono ?_
  rintro e w' ⟨rfl, rfl⟩
  go_wp2_with fail
  refine S.out.mono ?_
  rintro e w2 ⟨V, VS, rfl, hF, hS, hb⟩
  obtain ⟨a, cap, rfl, hm, _⟩ := hF.head
  have HF := Lib.hid hF
  have HS := Lib.hid hS
  have B2 := Lib.hid hb
  clear hF hS hb
  rcases HR.out with ⟨h, rfl, rfl⟩ | ⟨h, rfl, rfl⟩
  · have h1 : ¬ (2000 : Int) < (R.length : Int) := by omega
    go_wp2_with fail
    go_ret2
    exact ⟨_, VS, rfl, HF.out, HS.out, B2.out⟩
  · have h1 : (2000 : Int) < (L.length : Int) := by omega
    clear HF HS
    go_wp2_with fail
    go_ret2
    exact ⟨_, fun _ => undef, rfl, ⟨World.ownsRow_nil _ _ _ _, fun i hi => absurd hi (Nat.not_lt_zero _)⟩, fun i j hi => absurd hi (Nat.not_lt_zero _), B2.out⟩

theorem mrg_short (X Y : Nat → List Int) (m n : Nat) (hX : ∀ i, i < m → (X i).length ≤ 20) (hY : ∀ i, i < n → (Y i).length ≤ 20) (i : Nat) : (rowsOf (mrg (rowsL X m) (rowsL Y n)) i).length ≤ 20 := by
  unfold rowsOf
  by_cases h : i < (mrg (rowsL X m) (rowsL Y n)).length
  · rw [List.getElem?_eq_getElem h]
    rcases mrg_sub _ _ _ (List.getElem_mem h) with h1 | h1
    · obtain ⟨j, hj, e⟩ := mem_rowsL h1
      show (mrg (rowsL X m) (rowsL Y n))[i].length ≤ 20
      rw [e]; exact hX j hj
    · obtain ⟨j, hj, e⟩ := mem_rowsL h1
      show (mrg (rowsL X m) (rowsL Y n))[i].length ≤ 20
      rw [e]; exact hY j hj
  · rw [List.getElem?_eq_none (by omega)]
    exact Nat.zero_le _

/-- Both answer the same. -/
theorem SumOfTermLists_both (m n : Nat) (X Y : Nat → List Int) (hXw : ∀ i, i < m → ∀ z ∈ X i, (Lit.int .i64 z).wf = true) (hYw : ∀ i, i < n → ∀ z ∈ Y i, (Lit.int .i64 z).wf = true) :
    ∃ (L : List (List Int)) (cd : Int), L.length ≤ 2000 ∧ (∀ i, (rowsOf L i).length ≤ 20) ∧
      (∀ va vb VA VB Ba Bb w, Fam w Ba va m VA X → Fam w Bb vb n VB Y → Calls Try.prog 7 #[va, vb] w (Res L cd w)) ∧
      (∀ va vb w, RdSS w va m X → RdSS w vb n Y → Calls Try.prog 9 #[va, vb] w (Res L cd w)) := by
  have hnil : ∀ i, (rowsOf [] i).length ≤ 20 := fun i => Nat.zero_le _
  by_cases hA : okTerms X m
  · by_cases hB : okTerms Y n
    · have hres : ((mrg (rowsL X m) (rowsL Y n)).length ≤ 2000 ∧ (if (mrg (rowsL X m) (rowsL Y n)).length ≤ 2000 then mrg (rowsL X m) (rowsL Y n) else []) = mrg (rowsL X m) (rowsL Y n) ∧ (if (mrg (rowsL X m) (rowsL Y n)).length ≤ 2000 then (0 : Int) else 3) = 0) ∨ (¬ (mrg (rowsL X m) (rowsL Y n)).length ≤ 2000 ∧ (if (mrg (rowsL X m) (rowsL Y n)).length ≤ 2000 then mrg (rowsL X m) (rowsL Y n) else []) = [] ∧ (if (mrg (rowsL X m) (rowsL Y n)).length ≤ 2000 then (0 : Int) else 3) = 3) := by
        by_cases h : (mrg (rowsL X m) (rowsL Y n)).length ≤ 2000
        · rw [if_pos h, if_pos h]; exact .inl ⟨h, rfl, rfl⟩
        · rw [if_neg h, if_neg h]; exact .inr ⟨h, rfl, rfl⟩
      refine ⟨if (mrg (rowsL X m) (rowsL Y n)).length ≤ 2000 then mrg (rowsL X m) (rowsL Y n) else [], if (mrg (rowsL X m) (rowsL Y n)).length ≤ 2000 then 0 else 3, ?_, ?_, ?_, ?_⟩
      · split
        · assumption
        · exact Nat.zero_le _
      · intro i
        split
        · exact mrg_short X Y m n hA.2.1 hB.2.1 i
        · exact hnil i
      · intro va vb VA VB Ba Bb w ha hb
        exact specTL_sum va vb w _ _ _ hres (specTerms_yes va m X w ha.rdss hA) (fun q => specTerms_yes vb n Y _ (hb.rdss.drewN q) hB)
          (fun q => l01Sum_any va vb m n X Y VA VB Ba Bb (w.drewN q) (ha.drewN q) (hb.drewN q) (by have := hA.1; omega) (by have := hB.1; omega) (fun i hi => by have := hA.2.1 i hi; omega) (fun i hi => by have := hB.2.1 i hi; omega))
      · intro va vb w ha hb
        exact implTL_sum va vb w _ _ _ hres (implTerm_yes va m X w ha hA) (implTerm_yes vb n Y w hb hB)
          (sumOfTerms_any va vb m n X Y w ha hb (by have := hA.1; omega) (by have := hB.1; omega) hA.2.1 hB.2.1 hXw hYw (asc_rows X m hA.2.2) (asc_rows Y n hB.2.2) sort_any)
    · refine ⟨[], 1, Nat.zero_le _, hnil, ?_, ?_⟩
      · intro va vb VA VB Ba Bb w ha hb
        exact specTL_bad2 va vb w (specTerms_yes va m X w ha.rdss hA) (fun q => specTerms_no vb n Y _ (hb.rdss.drewN q) hB)
      · intro va vb w ha hb
        exact implTL_bad2 va vb w (implTerm_yes va m X w ha hA) (implTerm_no vb n Y w hb hB)
  · refine ⟨[], 1, Nat.zero_le _, hnil, ?_, ?_⟩
    · intro va vb VA VB Ba Bb w ha hb
      exact specTL_bad1 va vb w (specTerms_no va m X w ha.rdss hA)
    · intro va vb w ha hb
      exact implTL_bad1 va vb w (implTerm_no va m X w ha hA)
end Go.Proofs.Ythbibkehhnggfaa
