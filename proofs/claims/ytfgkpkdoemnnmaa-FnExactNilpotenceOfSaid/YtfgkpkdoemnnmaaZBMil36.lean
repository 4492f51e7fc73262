/-
  Joined: PTim2, NAdd, NAddB, NDeg, PCode.
-/
import Derived.Test.YtfgkpkdoemnnmaaZBMil35
import Derived.Test.YtfgkpkdoemnnmaaZBMil28
import Derived.Test.YtfgkpkdoemnnmaaZBMil34
import Derived.Test.YtfgkpkdoemnnmaaZBMil33
import Derived.Test.YtfgkpkdoemnnmaaZBMil17
import Derived.Test.YtfgkpkdoemnnmaaZBMil24
import Derived.Test.YtfgkpkdoemnnmaaZBMil27
import Derived.Deep.QuietTactic
import Derived.BigQuiet
section
namespace Go.Proofs.Ytfgkpkdoemnnmaa.Ml
open Go.RowKit
set_option linter.unusedVariables false
set_option maxRecDepth 100000

/-- What occurs an odd number of times, in order. -/
def oddL : List (List Int) → List (List Int)
  | [] => []
  | x :: l => mrg [x] (oddL l)
theorem oddL_spec : ∀ l : List (List Int), Asc (oddL l) ∧ ∀ z, z ∈ oddL l ↔ par l z
  | [] => ⟨List.Pairwise.nil, fun z => by simp [oddL, par]⟩
  | x :: l => by
    obtain ⟨h1, h2⟩ := oddL_spec l
    obtain ⟨k1, k2⟩ := mrg_spec [x] (oddL l) (List.pairwise_singleton _ _) h1
    refine ⟨k1, fun z => ?_⟩
    rw [oddL, k2, h2]
    show _ ↔ (x = z ∧ ¬ par l z) ∨ (x ≠ z ∧ par l z)
    by_cases e : x = z
    · subst e; simp
    · have : z ∉ [x] := by simp; exact fun h => e h.symm
      simp [this, e]
theorem oddL_eq {l : List (List Int)} {zs : List (List Int)} (ha : Asc zs) (h : ∀ z, z ∈ zs ↔ par l z) : zs = oddL l :=
  asc_ext _ _ ha (oddL_spec l).1 fun z => by rw [h, (oddL_spec l).2]
theorem par_flat_congr {f g : Nat → List (List Int)} (z : List Int) : ∀ l : List Nat, (∀ i ∈ l, par (f i) z ↔ par (g i) z) → (par (l.flatMap f) z ↔ par (l.flatMap g) z)
  | [], _ => Iff.rfl
  | a :: l, h => by
    rw [List.flatMap_cons, List.flatMap_cons, par_append, par_append, h a List.mem_cons_self, par_flat_congr z l fun i hi => h i (List.mem_cons_of_mem _ hi)]
/-- The product of two elements. -/
structure Fac (X Y : Nat → List Int) (p q : Nat) : Prop where
  l : okMl X p
  r : okMl Y q
  d : 0 < p → 0 < q → dgL (X 0) + dgL (Y 0) ≤ 40
theorem Fac.swap {X Y : Nat → List Int} {p q : Nat} (h : Fac X Y p q) : Fac Y X q p := ⟨h.r, h.l, fun a b => by have := h.d b a; omega⟩
theorem Fac.pair {X Y : Nat → List Int} {p q : Nat} (h : Fac X Y p q) (i k : Nat) (hi : i < p) (hk : k < q) : goodE (X i) ∧ goodE (Y k) ∧ dgL (X i) + dgL (Y k) ≤ 40 := by
  refine ⟨(h.l.2 i hi).1, (h.r.2 k hk).1, ?_⟩
  rw [(h.l.2 i hi).2, (h.r.2 k hk).2]
  exact h.d (by omega) (by omega)
theorem Fac.same {X Y : Nat → List Int} {p q : Nat} (h : Fac X Y p q) (z : List Int) : par (allTo X Y q p) z ↔ par (call X Y q p) z := by
  refine par_flat_congr z _ fun i hi => par_flat_congr z _ fun k hk => ?_
  obtain ⟨a, b, c⟩ := h.pair i k (List.mem_range.1 hi) (List.mem_range.1 hk)
  exact (cntL_par a b c z).symm
/-- The terms of the product. -/
noncomputable def prodT (X Y : Nat → List Int) (p q : Nat) : List (List Int) := oddL (call X Y q p)
theorem prodT_spec (X Y : Nat → List Int) (p q : Nat) : Asc (prodT X Y p q) ∧ ∀ z, z ∈ prodT X Y p q ↔ par (call X Y q p) z := oddL_spec _
theorem Fac.few {X Y : Nat → List Int} {p q : Nat} (h : Fac X Y p q) : (prodT X Y p q).length ≤ 15000 := by
  have h1 := nodup_len _ (call X Y q p) (prodT_spec X Y p q).1.nodup fun x hx => par_mem _ _ (((prodT_spec X Y p q).2 x).1 hx)
  have := call_all_few h.l h.r h.d
  omega
theorem Fac.ok {X Y : Nat → List Int} {p q : Nat} (h : Fac X Y p q) : ∀ x ∈ prodT X Y p q, x.length ≤ 5 ∧ ∀ z ∈ x, 0 ≤ z ∧ z ≤ 10000000 := fun x hx => call_ok h.l h.r x (par_mem _ _ (((prodT_spec X Y p q).2 x).1 hx))
theorem rows_short {L : List (List Int)} (h : ∀ x ∈ L, x.length ≤ 5 ∧ ∀ z ∈ x, 0 ≤ z ∧ z ≤ 10000000) (i : Nat) : (rowsOf L i).length ≤ 20 := by
  unfold rowsOf
  by_cases k : i < L.length
  · rw [List.getElem?_eq_getElem k]
    show L[i].length ≤ 20
    have := (h _ (List.getElem_mem k)).1
    omega
  · rw [List.getElem?_eq_none (by omega)]; exact Nat.zero_le _
theorem rows_wf {L : List (List Int)} (h : ∀ x ∈ L, x.length ≤ 5 ∧ ∀ z ∈ x, 0 ≤ z ∧ z ≤ 10000000) (i : Nat) : ∀ z ∈ rowsOf L i, (Lit.int .i64 z).wf = true := fun z hz => by
  unfold rowsOf at hz
  by_cases k : i < L.length
  · rw [List.getElem?_eq_getElem k] at hz
    have := (h _ (List.getElem_mem k)).2 z hz
    exact (Bool.and_eq_true _ _).mpr ⟨decide_eq_true (by omega : (-9223372036854775808 : Int) ≤ z), decide_eq_true (by omega : z ≤ (9223372036854775807 : Int))⟩
  · rw [List.getElem?_eq_none (by omega)] at hz; cases hz

theorem allTo_len {X Y : Nat → List Int} {p q : Nat} (h : Fac X Y p q) (i k : Nat) (hi : i < p) (hk : k ≤ q) : (allTo X Y q i ++ rowTo X Y i k).length ≤ 100000000000 := by
  have hp := okMl_few h.l
  have hq := okMl_few h.r
  have row : ∀ i k, i < p → k ≤ q → (rowTo X Y i k).length ≤ k * 10000000 := fun i k hi => by
    induction k with
    | zero => intro _; simp [rowTo]
    | succ k ih =>
      intro hk
      obtain ⟨a, b, _⟩ := h.pair i k hi (by omega)
      have := prodL_few a b
      rw [rowTo_succ, List.length_append, Nat.succ_mul]
      have := ih (by omega)
      omega
  have all : ∀ i, i ≤ p → (allTo X Y q i).length ≤ i * (q * 10000000) := fun i => by
    induction i with
    | zero => intro _; simp [allTo]
    | succ i ih =>
      intro hi
      have := row i q (by omega) (Nat.le_refl _)
      rw [allTo_succ, List.length_append, Nat.succ_mul]
      have := ih (by omega)
      omega
  have h1 := row i k hi hk
  have h2 := all i (by omega)
  have h3 : i * (q * 10000000) ≤ 82 * (82 * 10000000) := Nat.mul_le_mul (by omega) (Nat.mul_le_mul_right _ hq)
  rw [List.length_append]
  omega

/-- spec.l04Times gives the product's terms. -/
def TermsPost (L : List (List Int)) (w : World) (e : Ending) (w' : World) : Prop := ∃ V VS, e = .returned V ∧ FamL w' w.heap.size V VS L ∧ Sep L.length VS ∧ Below w.heap.size w w'
theorem specTimes {X Y : Nat → List Int} {p q : Nat} (h : Fac X Y p q) (va vb : Value) (VA VB : Nat → Value) (Ba Bb : Nat) (w : World) (ha : Fam w Ba va p VA X) (hb : Fam w Bb vb q VB Y) : Calls Try.prog 47 #[va, vb] w (TermsPost (prodT X Y p q) w) := by
  have hp := okMl_few h.l
  have hq := okMl_few h.r
  refine (l04Times_any va vb VA VB X Y p q Ba Bb w ha hb (by omega) (by omega) (fun i hi => ⟨good_len (h.l.2 i hi).1, good_small (h.l.2 i hi).1⟩) (fun i hi => ⟨good_len (h.r.2 i hi).1, good_small (h.r.2 i hi).1⟩) (fun i k hi hk => by
    obtain ⟨a, b, _⟩ := h.pair i k hi hk
    have := prodL_few a b
    omega) (fun i k hi hk => allTo_len h i k hi hk)).mono ?_
  rintro e w' ⟨S, VS, M, rfl, hT⟩
  have e1 : M = prodT X Y p q := oddL_eq hT.asc fun z => by
    rw [← h.same z, par_count, ← hT.par z, asc_count hT.asc]
    by_cases c : z ∈ M <;> simp [c]
  subst e1
  exact ⟨S, VS, rfl, hT.fam, hT.sep, hT.bel⟩
theorem implTimes {X Y : Nat → List Int} {p q : Nat} (h : Fac X Y p q) (va vb : Value) (w : World) (ha : RdSS w va p X) (hb : RdSS w vb q Y) : Calls Try.prog 50 #[.agg #[va], .agg #[vb]] w (ResT (prodT X Y p q) w) := by
  obtain ⟨aa, ca, rfl⟩ := ha.head
  obtain ⟨ab, cb, rfl⟩ := hb.head
  refine (timesM_any aa ab ca cb p q X Y w ha hb h.l h.r h.d).mono ?_
  rintro e w' ⟨V, VS, zs, rfl, hF, hS, hB, hA, hP⟩
  have e1 : zs = prodT X Y p q := oddL_eq hA hP
  subst e1
  exact ⟨V, VS, rfl, hF, hS, hB⟩

end Go.Proofs.Ytfgkpkdoemnnmaa.Ml
end
section
namespace Go.Proofs.Ytfgkpkdoemnnmaa.Ml
open Go.RowKit
set_option linter.unusedVariables false
set_option maxRecDepth 100000

end Go.Proofs.Ytfgkpkdoemnnmaa.Ml
end
section
namespace Go.Proofs.Ytfgkpkdoemnnmaa.Ml
open Go.RowKit
set_option linter.unusedVariables false
set_option maxRecDepth 100000

theorem mlRows {X : Nat → List Int} {m : Nat} (h : okMl X m) : (m ≤ 2000) ∧ (∀ i, i < m → (X i).length ≤ 20) ∧ (∀ i, i < m → ∀ z ∈ X i, (Lit.int .i64 z).wf = true) ∧ Asc (rowsL X m) :=
  ⟨h.1.1, h.1.2.1, fun i hi => isE_wf (h.2 i hi).1.1, asc_rows X m h.1.2.2⟩
theorem mrg_le : ∀ (xs ys : List (List Int)), (mrg xs ys).length ≤ xs.length + ys.length
  | [], ys => by rw [mrg]; simp
  | x :: xs, [] => by rw [mrg]; simp
  | x :: xs, y :: ys => by
    rw [mrg]
    split
    · have := mrg_le xs (y :: ys)
      simp only [List.length_cons] at this ⊢
      omega
    · split
      · have := mrg_le (x :: xs) ys
        simp only [List.length_cons] at this ⊢
        omega
      · have := mrg_le xs ys
        simp only [List.length_cons]
        omega
  termination_by xs ys => xs.length + ys.length
/-- The first term of an element other than 0. -/
theorem headM {va : Value} {w : World} {m : Nat} {X : Nat → List Int} (hok : okMl X m) (hm : 0 < m) (h : RdSS w va m X) :
    ∃ b o v cap, va = .slice (some ⟨b, o, none⟩) m cap ∧ w.cell? ⟨b, o, none⟩ = some v ∧ DegE w v (dgL (X 0)) := by
  obtain ⟨_, _, VS, hc, hr⟩ := h
  obtain ⟨b, o, ⟨cap, e⟩, hc⟩ := hc.resolve_left (by omega)
  have := hc 0 hm
  rw [Nat.add_zero] at this
  exact ⟨b, o, VS 0, cap, e, this, degE_list (hr 0 hm) (hok.2 0 hm).1.1⟩

end Go.Proofs.Ytfgkpkdoemnnmaa.Ml
end
section
namespace Go.Proofs.Ytfgkpkdoemnnmaa.Ml
open Go.RowKit
set_option linter.unusedVariables false
set_option maxRecDepth 100000

/-- A call that answers two numbers and leaves what there was. -/
def SaysN (x c : Int) (w : World) (e : Ending) (w' : World) : Prop := e = .returned (.tuple #[.int .i64 x, .int .i64 c]) ∧ Below w.heap.size w w'

/-- The first term of an element other than 0. -/
theorem headD {va : Value} {w : World} {m : Nat} {X : Nat → List Int} (hok : okMl X m) (hm : 0 < m) (h : RdSS w va m X) :
    ∃ b o v cap, va = .slice (some ⟨b, o, none⟩) m cap ∧ w.cell? ⟨b, o, none⟩ = some v ∧ DegE w v (dgL (X 0)) := by
  obtain ⟨_, _, VS, hc, hr⟩ := h
  obtain ⟨b, o, ⟨cap, e⟩, hc⟩ := hc.resolve_left (by omega)
  have := hc 0 hm
  rw [Nat.add_zero] at this
  exact ⟨b, o, VS 0, cap, e, this, degE_list (hr 0 hm) (hok.2 0 hm).1.1⟩

end Go.Proofs.Ytfgkpkdoemnnmaa.Ml
end
section
namespace Go.Proofs.Ytfgkpkdoemnnmaa.Ml
open Go.RowKit
set_option linter.unusedVariables false
set_option maxRecDepth 100000

def SaysI (x : Int) (w : World) (e : Ending) (w' : World) : Prop := e = .returned (.int .i64 x) ∧ Below w.heap.size w w'
abbrev IsS (r : Bool) (a : Option Addr) (m cap : Nat) (w : World) : Prop := Hid (∀ wx, Below w.heap.size w wx → Calls Try.prog 56 #[.agg #[.slice a m cap]] wx (SaysB r wx))
abbrev IsI (r : Bool) (a : Option Addr) (m cap : Nat) (w : World) : Prop := Hid (∀ wx, Below w.heap.size w wx → Calls Try.prog 59 #[.agg #[.slice a m cap]] wx (SaysB r wx))

theorem specCode_bad1 (aa ab : Option Addr) (m n ca cb : Nat) (w : World) (A : IsS false aa m ca w) : Calls Try.prog 46 #[.agg #[.slice aa m ca], .agg #[.slice ab n cb]] w (SaysI 1 w) := by
  have t2 := Try.underlying26
  obtain ⟨w1, hw1⟩ : ∃ w1, w1 = ((w.alloc (.cells #[.slice aa m ca] 26)).alloc (.cells #[.slice ab n cb] 26)) := ⟨_, rfl⟩
  have T1 : Hid (Two w (.slice aa m ca) (.slice ab n cb) w1) := Lib.hid (by rw [hw1]; exact Two.start _ _ _)
  go_enter Try.func46, Try.ntmps46
  go_wp2_with fail
  rw [← hw1]
  clear hw1
  have d0 := T1.out.bA.c
  go_wp2_with fail
  refine (A.out w1 T1.out.bel).mono ?_
  rintro e w2 ⟨rfl, b2⟩
  have B2 := Lib.hid (T1.out.bel.step1 b2)
  clear b2 T1 d0
  go_wp2_with fail
  go_ret
  exact ⟨rfl, B2.out⟩
theorem specCode_bad2 (aa ab : Option Addr) (m n ca cb : Nat) (w : World) (A : IsS true aa m ca w) (B : IsS false ab n cb w) : Calls Try.prog 46 #[.agg #[.slice aa m ca], .agg #[.slice ab n cb]] w (SaysI 1 w) := by
  have t2 := Try.underlying26
  obtain ⟨w1, hw1⟩ : ∃ w1, w1 = ((w.alloc (.cells #[.slice aa m ca] 26)).alloc (.cells #[.slice ab n cb] 26)) := ⟨_, rfl⟩
  have T1 : Hid (Two w (.slice aa m ca) (.slice ab n cb) w1) := Lib.hid (by rw [hw1]; exact Two.start _ _ _)
  go_enter Try.func46, Try.ntmps46
  go_wp2_with fail
  rw [← hw1]
  clear hw1
  have d0 := T1.out.bA.c
  go_wp2_with fail
  refine (A.out w1 T1.out.bel).mono ?_
  rintro e w2 ⟨rfl, b2⟩
  have d1 := (T1.out.bB.up b2).c
  have B2 := Lib.hid (T1.out.bel.step1 b2)
  clear b2 T1 d0
  go_wp2_with fail
  refine (B.out w2 B2.out).mono ?_
  rintro e w3 ⟨rfl, b3⟩
  have B3 := Lib.hid (B2.out.step1 b3)
  clear b3 d1
  go_wp2_with fail
  go_ret
  exact ⟨rfl, B3.out⟩
/-- Both are elements: the boxes behind the two tests. -/
theorem specCode_0 (aa ab : Option Addr) (m n ca cb : Nat) (w : World) (A : IsS true aa m ca w) (B : IsS true ab n cb w) (h : m = 0 ∨ n = 0) : Calls Try.prog 46 #[.agg #[.slice aa m ca], .agg #[.slice ab n cb]] w (SaysI 0 w) := by
  have t2 := Try.underlying26
  obtain ⟨w1, hw1⟩ : ∃ w1, w1 = ((w.alloc (.cells #[.slice aa m ca] 26)).alloc (.cells #[.slice ab n cb] 26)) := ⟨_, rfl⟩
  have T1 : Hid (Two w (.slice aa m ca) (.slice ab n cb) w1) := Lib.hid (by rw [hw1]; exact Two.start _ _ _)
  have hcase : m = 0 ∨ ((decide (0 < m) = true) ∧ n = 0) := by
    by_cases c : m = 0
    · exact .inl c
    · exact .inr ⟨decide_eq_true (by omega), by omega⟩
  clear h
  have hz0 : decide ((0 : Int) < 0) = false := rfl
  rcases hcase with rfl | ⟨hm, rfl⟩
  all_goals
    go_enter Try.func46, Try.ntmps46
    go_wp2_with fail
    rw [← hw1]
    clear hw1
    have d0 := T1.out.bA.c
    go_wp2_with fail
    refine (A.out w1 T1.out.bel).mono ?_
    rintro e w2 ⟨rfl, b2⟩
    have d1 := (T1.out.bB.up b2).c
    have d0' := (T1.out.bA.up b2)
    have d1' := (T1.out.bB.up b2)
    have B2 := Lib.hid (T1.out.bel.step1 b2)
    clear b2 T1 d0
    go_wp2_with fail
    refine (B.out w2 B2.out).mono ?_
    rintro e w3 ⟨rfl, b3⟩
    have B3 := Lib.hid (B2.out.step1 b3)
    have c0 := (d0'.up b3).c
    have c1 := (d1'.up b3).c
    clear b3 d1 d0' d1'
    go_wp2_with fail
    go_quiet (fail)
    go_wp2_with fail
    go_ret
    exact ⟨rfl, below_drewN B3.out _⟩
theorem specCode_2 (m n ca cb : Nat) (w : World) (b1 o1 b2 o2 : Nat) (v1 v2 : Value) (x y : Int) (A : IsS true (some ⟨b1, o1, none⟩) m ca w) (B : IsS true (some ⟨b2, o2, none⟩) n cb w) (k1 : w.cell? ⟨b1, o1, none⟩ = some v1) (k2 : w.cell? ⟨b2, o2, none⟩ = some v2) (hx : DegE w v1 x) (hy : DegE w v2 y) (hm : 0 < m) (hn : 0 < n)
    (x0 : 0 ≤ x ∧ x ≤ 40) (y0 : 0 ≤ y ∧ y ≤ 40) : Calls Try.prog 46 #[.agg #[.slice (some ⟨b1, o1, none⟩) m ca], .agg #[.slice (some ⟨b2, o2, none⟩) n cb]] w (SaysI (if 40 < x + y then 3 else 0) w) := by
  have t2 := Try.underlying26
  obtain ⟨w1, hw1⟩ : ∃ w1, w1 = ((w.alloc (.cells #[.slice (some ⟨b1, o1, none⟩) m ca] 26)).alloc (.cells #[.slice (some ⟨b2, o2, none⟩) n cb] 26)) := ⟨_, rfl⟩
  have T1 : Hid (Two w (.slice (some ⟨b1, o1, none⟩) m ca) (.slice (some ⟨b2, o2, none⟩) n cb) w1) := Lib.hid (by rw [hw1]; exact Two.start _ _ _)
  have hm' : (0 : Int) < (m : Int) := by omega
  have hn' : (0 : Int) < (n : Int) := by omega
  have hmd : decide (0 < m) = true := decide_eq_true hm
  have hnd : decide (0 < n) = true := decide_eq_true hn
  have K1 := Lib.hid k1
  have K2 := Lib.hid k2
  have HX := Lib.hid hx
  have HY := Lib.hid hy
  have hw : wrap64 (x + y) = x + y := by unfold wrap64; omega
  obtain ⟨r, hr⟩ : ∃ r, decide (40 < x + y) = r := ⟨_, rfl⟩
  have HR : Hid ((if 40 < x + y then (3 : Int) else 0) = if r = true then 3 else 0) := Lib.hid (by rw [← hr]; simp)
  rw [HR.out]
  clear k1 k2 hx hy hm hn HR
  cases r
  all_goals
    go_enter Try.func46, Try.ntmps46
    go_wp2_with fail
    rw [← hw1]
    clear hw1
    have d0 := T1.out.bA.c
    go_wp2_with fail
    refine (A.out w1 T1.out.bel).mono ?_
    rintro e w2 ⟨rfl, b2⟩
    have d1 := (T1.out.bB.up b2).c
    have d0' := (T1.out.bA.up b2)
    have d1' := (T1.out.bB.up b2)
    have B2 := Lib.hid (T1.out.bel.step1 b2)
    clear b2 T1 d0
    go_wp2_with fail
    refine (B.out w2 B2.out).mono ?_
    rintro e w3 ⟨rfl, b3⟩
    have B3 := Lib.hid (B2.out.step1 b3)
    have c0 := (d0'.up b3).c
    have c1 := (d1'.up b3).c
    have q1 : w3.cell? ⟨b1, o1, none⟩ = some v1 := (B3.out.cell (p := ⟨b1, o1, none⟩) (World.block_lt_of_cell? w _ K1.out)).trans K1.out
    have q2 : w3.cell? ⟨b2, o2, none⟩ = some v2 := (B3.out.cell (p := ⟨b2, o2, none⟩) (World.block_lt_of_cell? w _ K2.out)).trans K2.out
    have p1 : Hid (DegE w3 v1 x) := Lib.hid (HX.out.below B3.out)
    have p2 : Hid (DegE w3 v2 y) := Lib.hid (HY.out.below B3.out)
    clear b3 d1 d0' d1'
    go_wp2_with fail
    go_quiet ((go_at_call 58; exact Calls.quiet_of (l01Degree_is (by assumption) _)))
    go_wp2_with fail
    go_ret
    exact ⟨rfl, below_drewN B3.out _⟩
end Go.Proofs.Ytfgkpkdoemnnmaa.Ml
end
