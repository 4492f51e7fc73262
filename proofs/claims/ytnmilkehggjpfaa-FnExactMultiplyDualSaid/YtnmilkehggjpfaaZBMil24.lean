/-
  Joined: PIter, WPartPlain, KAsc.
-/
import Derived.Test.YtnmilkehggjpfaaZBMil21
import Derived.Test.YtnmilkehggjpfaaZBMil22
import Derived.Test.YtnmilkehggjpfaaZBMil23
import Derived.Test.YtnmilkehggjpfaaZBMil03
import Derived.Test.YtnmilkehggjpfaaZBMil08
import Derived.Test.YtnmilkehggjpfaaZBMil05
import Derived.Test.YtnmilkehggjpfaaZBMil10
section
namespace Go.Proofs.Ytnmilkehggjpfaa
open Go.RowKit
attribute [local go_sem] Oper.semAt_some
set_option linter.unusedVariables false
set_option maxRecDepth 100000

theorem guardT : Try.prog.eqGuardType Try.prog.depth 147 = false := by kernel_rfl
theorem loadTab (w : World) (b : Nat) (T : Tab) (h : TabAt w b T) : (Instr.loadAt 147 (.pointer (some ⟨b, 0, none⟩))).run Try.prog w = .ok (.agg (tabA T)) w := by
  have := run_loadAt_mid w b 0 147 (tabA T).toList _ h.range Try.underlying147 rfl (by rw [sizeT, Array.length_toList, tabA_size])
  simpa using this
section
variable {F : Fence} {n : Nat} {ops : Array Oper} {rest : List Oper} {o : Oper} {a : Act} {w : World} {Q : Exit → Act → World → Prop}
theorem ldTI (hgd : o.guard = none) (x : Operand) (ho : o.op = .load 147 x) (b : Nat) (hx : a.eval x = .pointer (some ⟨b, 0, none⟩)) (T : Tab) (hc : TabAt w b T)
    (h : wpListIn F n Try.prog ops Q rest (a.put o.dst (.agg (tabA T))) w) : wpListIn F n Try.prog ops Q (o :: rest) a w := by
  refine wpListIn_plain hgd fun K' hK' => ?_
  unfold Oper.wpIn
  refine ⟨?_, ?_⟩
  · simp [Oper.about, ho]
  · rw [Oper.semAt_plain F _ _ (by rw [ho]; intro c hc'; cases hc')]
    unfold execOp
    simp only [ho, hx, loadTab w b T hc, Sem.run_bind, Sem.run_pure, Result.andThen_ok]
    exact hK' _ _ h
theorem stTI (w : World) (g : Nat) (hg : g = w.heap.size) (hgd : o.guard = none) (x y : Operand) (ho : o.op = .store 147 x y) (hx : a.eval x = .pointer (some ⟨g, 0, none⟩)) (T T' : Tab) (hy : a.eval y = .agg (tabA T))
    (h : wpListIn F n Try.prog ops Q rest (a.put o.dst undef) (w.alloc (.cells (tabA T) 147))) : wpListIn F n Try.prog ops Q (o :: rest) a (w.alloc (.cells (tabA T') 147)) := by
  subst hg
  refine wpListIn_plain hgd fun K' hK' => ?_
  unfold Oper.wpIn
  refine ⟨?_, ?_⟩
  · simp [Oper.about, ho]
  · rw [Oper.semAt_plain F _ _ (by rw [ho]; intro c hc'; cases hc')]
    unfold execOp
    simp only [ho, hx, hy, run_storeAt_new (P := Try.prog) w 147 (tabA T') (tabA T) (by rw [sizeT, tabA_size]) (by rw [tabA_size, tabA_size]) (tabA_one T), Sem.run_bind, Sem.run_pure, Result.andThen_ok]
    exact hK' _ _ h
theorem eqTI (hgd : o.guard = none) (x y : Operand) (u : TypeId) (ho : o.op = .binOp .eql 147 x y u) (T T' : Tab) (hx : a.eval x = .agg (tabA T)) (hy : a.eval y = .agg (tabA T')) (b : Bool) (hb : sameTab T T' = b)
    (h : wpListIn F n Try.prog ops Q rest (a.put o.dst (.bool b)) w) : wpListIn F n Try.prog ops Q (o :: rest) a w := by
  subst hb
  refine wpListIn_plain hgd fun K' hK' => ?_
  unfold Oper.wpIn
  refine ⟨?_, ?_⟩
  · simp [Oper.about, ho]
  · rw [Oper.semAt_plain F _ _ (by rw [ho]; intro c hc'; cases hc')]
    unfold execOp
    simp only [ho, hx, hy, run_eqGuard_agg w .eql 147 x y (tabA T) (tabA T') guardT, tab_eq T T' w, Sem.run_bind, Sem.run_pure, Result.andThen_ok]
    exact hK' _ _ h
end

/-- The k-th table. -/
def tabOf (L : List Tab) (k : Nat) : Tab := L[k]?.getD fun _ _ => 0
def encT (L : List Tab) (k : Nat) : Array Value := #[.agg (tabA (tabOf L k))]
theorem steps_next {f : Tab → Tab} {z : Tab} : ∀ (L : List Tab), Steps f L z → ∀ k, k < L.length → f (tabOf L k) = if k + 1 < L.length then tabOf L (k + 1) else z
  | [], _, k, hk => absurd hk (Nat.not_lt_zero _)
  | [a], h, k, hk => by
    obtain rfl : k = 0 := by simpa using hk
    rw [if_neg (by simp)]
    exact h
  | a :: b :: l, h, 0, hk => by
    rw [if_pos (by simp)]
    exact h.1
  | a :: b :: l, h, k + 1, hk => by
    have := steps_next (b :: l) h.2 k (by simpa using hk)
    have e : tabOf (a :: b :: l) (k + 1) = tabOf (b :: l) k := rfl
    have e2 : tabOf (a :: b :: l) (k + 1 + 1) = tabOf (b :: l) (k + 1) := rfl
    rw [e, e2, this]
    by_cases c : k + 1 < (b :: l).length
    · rw [if_pos c, if_pos (by simpa using c)]
    · rw [if_neg c, if_neg (by simpa using c)]

/-- Blocks that the iterator keeps for itself. -/
def KeepT (n : Nat) (A B : World) : Prop := A.heap.size ≤ B.heap.size ∧ ∀ b, n + 2 ≤ b → b < n + 4 → b < A.heap.size → B.heap[b]? = A.heap[b]?

/-- What the iterator keeps between two rounds. -/
structure ItSt (g : Nat) (T U : Tab) (wr : World) : Prop where
  fst : TabAt wr (g + 2) T
  tab : TabAt wr (g + 3) U
theorem ItSt.keep {g : Nat} {T U : Tab} {A B : World} (h : ItSt g T U A) (k : KeepT g A B) : ItSt g T U B :=
  ⟨(k.2 _ (Nat.le_refl _) (by omega) h.fst.lt).trans h.fst, (k.2 _ (by omega) (by omega) h.tab.lt).trans h.tab⟩
theorem ItSt.adv {g : Nat} {T U V : Tab} {A B : World} (h : ItSt g T U A) (ht : TabAt B (g + 3) V) (ho : OffB (g + 3) A B) : ItSt g T V B :=
  ⟨(ho.block _ (by omega)).trans h.fst, ht⟩

/-- The greatest index at which something holds of a world. -/
noncomputable def mxI (P : Nat → World → Prop) (w : World) : Nat → Nat
  | 0 => 0
  | n + 1 => @ite _ (P (n + 1) w) (Classical.propDecidable _) (n + 1) (mxI P w n)
theorem mxI_of {P : Nat → World → Prop} {w : World} {k : Nat} (h : P k w) : ∀ n, k ≤ n → P (mxI P w n) w ∧ k ≤ mxI P w n ∧ mxI P w n ≤ n
  | 0, hk => by obtain rfl : k = 0 := by omega
                exact ⟨h, Nat.le_refl _, Nat.le_refl _⟩
  | n + 1, hk => by
    unfold mxI
    by_cases c : P (n + 1) w
    · rw [if_pos c]; exact ⟨c, hk, Nat.le_refl _⟩
    · rw [if_neg c]
      have hk' : k ≤ n := by
        apply Classical.byContradiction
        intro h1
        obtain rfl : k = n + 1 := by omega
        exact c h
      obtain ⟨h1, h2, h3⟩ := mxI_of h n hk'
      exact ⟨h1, h2, by omega⟩
/-- The state of the iterator's loop. -/
structure LoopSt (L : List Tab) (T : Tab) (g : Nat) (J : Nat → World → Prop) (k : Nat) (wr : World) : Prop where
  lt : k < L.length
  it : ItSt g T (tabOf L k) wr
  j : J k wr

set_option maxHeartbeats 2000000 in
theorem tabs_in (F : Fence) (n : Nat) (hF : F.fn 160) (hf1 : F.fn 161) (hf2 : F.fn 162) (hro : F.round = none) (hn : 1 ≤ n) (l br bs : Nat) (vr vs : Value) (T : Tab) (W : World)
    (hbr : W.heap[br]? = some (.cells #[vr] 65 (0, 0))) (hbs : W.heap[bs]? = some (.cells #[vs] 65 (0, 0)))
    (CF : CallsIn F (n - 1) Try.prog 161 #[vr, vs] W fun e w' => e = .returned (.agg (tabA T)) ∧ Below W.heap.size W w' ∧ w'.heap.size = W.heap.size + 2)
    (L : List Tab) (hL : 0 < L.length) (h00 : tabOf L 0 = T) (hst : ∀ k, k < L.length → advG posI (tabOf L k) = if k + 1 < L.length then tabOf L (k + 1) else T) (hne : ∀ k, 0 < k → k < L.length → sameTab (tabOf L k) T = false)
    (CA : ∀ k w, k < L.length → TabAt w (W.heap.size + 3) (tabOf L k) → CallsIn F (n - 1) Try.prog 162 #[.pointer (some ⟨W.heap.size + 3, 0, none⟩)] w (AdvRes (W.heap.size + 3) (advG posI (tabOf L k)) w))
    (J : Nat → World → Prop) (Jx : World → Prop) (J0b : ∀ W', Below W.heap.size W W' → J 0 W → J 0 W') (Jo : ∀ k W1 W2, J k W1 → OffB (W.heap.size + 3) W1 W2 → J k W2)
    (hY : ∀ k W1, k < L.length → W.heap.size + 4 ≤ W1.heap.size → J k W1 → YieldAt F (n - 1) Try.prog l (encT L k) W1 fun e W' => (e = .returned (.bool true) ∧ J (k + 1) W' ∧ KeepT W.heap.size W1 W') ∨ (e = .returned (.bool false) ∧ Jx W')) (h0 : J 0 W) :
    CallsIn F n Try.prog 160 #[.func (.yield l) #[] #[], .pointer (some ⟨br, 0, none⟩), .pointer (some ⟨bs, 0, none⟩)] W fun e W' => (∃ v, e = .returned v) ∧ (J L.length W' ∨ Jx W') := by
  have c1 : W.cell? ⟨br, 0, none⟩ = some vr := by rw [World.cell?, hbr]; rfl
  have c2 : W.cell? ⟨bs, 0, none⟩ = some vs := by rw [World.cell?, hbs]; rfl
  have e1 : ∀ args w, (callFunc 161 args).run Try.prog w = .ok (.enter 161 args) w := enters_of Try.func161 (by kernel_rfl) rfl
  have e2 : ∀ args w, (callFunc 162 args).run Try.prog w = .ok (.enter 162 args) w := enters_of Try.func162 (by kernel_rfl) rfl
  have HCF := Lib.hid CF
  have HCA := Lib.hid CA
  have HST := Lib.hid hst
  have HNE := Lib.hid hne
  have HJ0 := Lib.hid h0
  clear hbr hbs CF CA hst hne
  refine callsIn_of_wp Try.func160 rfl hF ?_ hro
  simp only [Try.ntmps160, List.size_toArray, List.length_cons, List.length_nil, Nat.reduceAdd, Nat.reduceSub, Array.replicate_succ, Array.replicate_zero, List.push_toArray, List.append_toArray, List.nil_append, List.cons_append]
  gi_wp2
  refine HCF.out.mono ?_
  rintro e w2 ⟨rfl, hB, hsz⟩
  have HSZ := Lib.hid hsz
  have HB := Lib.hid hB
  clear hB hsz c1 c2 HCF
  gi_wp2_with (first
    | (refine stTI w2 w2.heap.size rfl rfl _ _ rfl rfl T (fun _ _ => 0) rfl ?_)
    | (refine ldTI rfl _ rfl w2.heap.size rfl T (tab_alloc w2 T) ?_)
    | (refine stTI (w2.alloc (.cells (tabA T) 147)) (w2.heap.size + 1) (by simp) rfl _ _ rfl rfl T (fun _ _ => 0) rfl ?_))
  have ST0 : Hid (LoopSt L T W.heap.size J 0 ((w2.alloc (.cells (tabA T) 147)).alloc (.cells (tabA T) 147))) := Lib.hid (by
    have hs2 := HSZ.out
    have bb : Below W.heap.size W ((w2.alloc (.cells (tabA T) 147)).alloc (.cells (tabA T) 147)) := (HB.out.alloc HB.out.size _).alloc (by have := HB.out.size; simp; omega) _
    refine ⟨hL, ⟨?_, ?_⟩, J0b _ bb HJ0.out⟩
    · rw [← hs2]
      exact (tab_alloc w2 T).up ((Below.refl _ _).alloc (Nat.le_refl _) _)
    · have := tab_alloc (w2.alloc (.cells (tabA T) 147)) T
      rw [World.size_alloc, hs2] at this
      rw [h00]
      exact this)
  have ES : w2.heap.size = W.heap.size + 2 := HSZ.out
  rw [ES] at *
  clear ES HB HJ0 HSZ J0b
  have hz3 : W.heap.size + 2 + 1 = W.heap.size + 3 := rfl
  simp only [hz3, Act.put]
  gi_loopw [10] (fun _ wr => ∃ k : Nat, Hid (LoopSt L T W.heap.size J k wr)) (fun _ wr => L.length - mxI (LoopSt L T W.heap.size J) wr L.length)
  case atStart => exact ⟨0, ST0⟩
  case round =>
    clear ST0
    obtain ⟨k0, hk0⟩ := hrel
    obtain ⟨m1, m2, m3⟩ := mxI_of hk0.out L.length (Nat.le_of_lt hk0.out.lt)
    obtain ⟨k, hk⟩ : ∃ k, mxI (LoopSt L T W.heap.size J) wr L.length = k := ⟨_, rfl⟩
    rw [hk] at m1 m2 m3 ⊢
    have HM := Lib.hid m1
    clear hk0 m2 hk m1
    obtain ⟨fn, tmps, assign, body, hy, hR⟩ := hY k wr HM.out.lt (by have := HM.out.it.tab.lt; omega) HM.out.j
    have ex : encT L k = #[.agg (tabA (tabOf L k))] := rfl
    rw [ex] at hy
    clear ex
    gi_wp2_with (refine ldTI rfl _ rfl (W.heap.size + 3) rfl (tabOf L k) HM.out.it.tab ?_)
    refine hR.mono ?_
    rintro e W3 (⟨rfl, hJ3, hk3⟩ | ⟨rfl, hJx3⟩)
    · have HI3 := Lib.hid (HM.out.it.keep hk3)
      have HJ3 := Lib.hid hJ3
      have AD := Lib.hid (HCA.out k W3 HM.out.lt HI3.out.tab)
      clear hJ3 hk3 hR hy
      gi_wp2
      refine AD.out.mono ?_
      rintro e W4 ⟨rfl, ht4, ho4⟩
      have HI4 := Lib.hid (HI3.out.adv ht4 ho4)
      have HJ4 := Lib.hid (Jo _ _ _ HJ3.out ho4)
      clear ht4 ho4 AD
      by_cases hlast : k + 1 < L.length
      · have EA : Hid (advG posI (tabOf L k) = tabOf L (k + 1)) := Lib.hid (by rw [HST.out k HM.out.lt, if_pos hlast])
        have SN : Hid (sameTab (advG posI (tabOf L k)) T = false) := Lib.hid (by rw [EA.out]; exact HNE.out (k + 1) (by omega) hlast)
        have LS : Hid (LoopSt L T W.heap.size J (k + 1) W4) := Lib.hid ⟨hlast, by rw [← EA.out]; exact HI4.out, HJ4.out⟩
        gi_wp2_with (first
          | (refine ldTI rfl _ rfl (W.heap.size + 3) rfl (advG posI (tabOf L k)) HI4.out.tab ?_)
          | (refine ldTI rfl _ rfl (W.heap.size + 2) rfl T HI4.out.fst ?_)
          | (refine eqTI rfl _ _ _ rfl (advG posI (tabOf L k)) T rfl rfl false SN.out ?_))
        simp only [Act.put, List.setIfInBounds_toArray, List.set_cons_succ, List.set_cons_zero]
        go_roundw
        case rel => exact ⟨k + 1, LS⟩
        case measure => have := (mxI_of LS.out L.length (Nat.le_of_lt hlast)).2; have := HM.out.lt; omega
      · have EA : Hid (advG posI (tabOf L k) = T) := Lib.hid (by rw [HST.out k HM.out.lt, if_neg hlast])
        have SN : Hid (sameTab (advG posI (tabOf L k)) T = true) := Lib.hid (by rw [EA.out]; exact (sameTab_iff T T).2 fun _ _ _ _ => rfl)
        have hk1 : k + 1 = L.length := by have := HM.out.lt; omega
        have JE : Hid (J L.length W4) := Lib.hid (by rw [← hk1]; exact HJ4.out)
        gi_wp2_with (first
          | (refine ldTI rfl _ rfl (W.heap.size + 3) rfl (advG posI (tabOf L k)) HI4.out.tab ?_)
          | (refine ldTI rfl _ rfl (W.heap.size + 2) rfl T HI4.out.fst ?_)
          | (refine eqTI rfl _ _ _ rfl (advG posI (tabOf L k)) T rfl rfl true SN.out ?_))
        refine bodyPost_ret (results_none rfl _ _ _) rfl ?_
        exact ⟨⟨_, rfl⟩, .inl JE.out⟩
    · gi_wp2
      go_end0
      exact ⟨⟨_, rfl⟩, .inr hJx3⟩
end Go.Proofs.Ytnmilkehggjpfaa
end
section
namespace Go.Proofs.Ytnmilkehggjpfaa
open Go.RowKit
set_option maxRecDepth 100000
set_option linter.unusedVariables false

/-- How many exponents of the weight p fit into d. -/
def cnt (d p : Nat) : Nat := if p ≤ d then d / p + 1 else 0

/-- All exponent lists that begin with zs and whose others have the degree d, at most f others. -/
def parts : Nat → List Int → Nat → List (List Int)
  | 0, zs, d => if d = 0 then [zs] else []
  | f + 1, zs, d => if d = 0 then [zs] else (List.range (cnt d (sp zs.length))).flatMap fun (r : Nat) => parts f (zs ++ [(r : Int)]) (d - r * sp zs.length)

/-- The same, the first j exponents alone. -/
def partsTo (f : Nat) (zs : List Int) (d j : Nat) : List (List Int) := (List.range j).flatMap fun (r : Nat) => parts f (zs ++ [(r : Int)]) (d - r * sp zs.length)
theorem partsTo_zero (f : Nat) (zs : List Int) (d : Nat) : partsTo f zs d 0 = [] := rfl
theorem partsTo_succ (f : Nat) (zs : List Int) (d j : Nat) : partsTo f zs d (j + 1) = partsTo f zs d j ++ parts f (zs ++ [(j : Int)]) (d - j * sp zs.length) := by
  unfold partsTo
  rw [List.range_succ, List.flatMap_append]
  simp
theorem parts_zero (f : Nat) (zs : List Int) : parts f zs 0 = [zs] := by
  cases f <;> simp [parts]
theorem parts_succ (f : Nat) (zs : List Int) (d : Nat) (h : 0 < d) : parts (f + 1) zs d = partsTo f zs d (cnt d (sp zs.length)) := by
  rw [parts, if_neg (by omega)]
  rfl
theorem parts_none (f : Nat) (zs : List Int) (d : Nat) (h : 0 < d) (hp : d < sp zs.length) : parts f zs d = [] := by
  cases f with
  | zero => rw [parts, if_neg (by omega)]
  | succ f => rw [parts_succ _ _ _ h, show cnt d (sp zs.length) = 0 by unfold cnt; rw [if_neg (by omega)]]; rfl

theorem sp_pos (i : Nat) : 0 < sp i := by have := sp_gt i; omega

/-- Whether j exponents more fit. -/
theorem cnt_le (d p j : Nat) (hp : 0 < p) (hd : p ≤ d) : j < cnt d p ↔ j * p ≤ d := by
  unfold cnt
  rw [if_pos hd]
  constructor
  · intro h
    exact (Nat.le_div_iff_mul_le hp).1 (by omega)
  · intro h
    have := (Nat.le_div_iff_mul_le hp).2 h
    omega
theorem cnt_eq (d p j : Nat) (hp : 0 < p) (hd : p ≤ d) (h : j * p = d) : cnt d p = j + 1 := by
  unfold cnt
  rw [if_pos hd, ← h, Nat.mul_div_cancel _ hp]

theorem partsTo_len (f : Nat) (N : Nat) (h : ∀ zs d, d ≤ 40 → (parts f zs d).length ≤ N) (zs : List Int) (d : Nat) (hd : d ≤ 40) (j : Nat) : (partsTo f zs d j).length ≤ j * N := by
  induction j with
  | zero => simp [partsTo_zero]
  | succ j ih =>
    rw [partsTo_succ, List.length_append, Nat.succ_mul]
    have := h (zs ++ [(j : Int)]) (d - j * sp zs.length) (by omega)
    omega
theorem parts_len (f : Nat) : ∀ (zs : List Int) (d : Nat), d ≤ 40 → (parts f zs d).length ≤ 41 ^ f := by
  induction f with
  | zero => intro zs d _; rw [parts]; split <;> simp
  | succ f ih =>
    intro zs d hd
    by_cases h0 : d = 0
    · subst h0
      rw [parts_zero]
      exact Nat.pow_pos (by decide)
    · rw [parts_succ _ _ _ (by omega)]
      have h1 := partsTo_len f (41 ^ f) ih zs d hd (cnt d (sp zs.length))
      have h2 : cnt d (sp zs.length) ≤ 41 := by
        unfold cnt
        split
        · have : d / sp zs.length ≤ d := Nat.div_le_self _ _
          omega
        · omega
      have h3 : cnt d (sp zs.length) * 41 ^ f ≤ 41 * 41 ^ f := Nat.mul_le_mul_right _ h2
      rw [Nat.pow_succ]
      omega

end Go.Proofs.Ytnmilkehggjpfaa
end
section
namespace Go.Proofs.Ytnmilkehggjpfaa
open Go.RowKit
set_option maxRecDepth 100000
set_option linter.unusedVariables false

theorem step_lt (X : Nat → List Int) (m : Nat) (h : ∀ i, i < m → stepOk X i) : ∀ j, j < m → ∀ i, i < j → lexLt (X i) (X j) = true := by
  intro j
  induction j with
  | zero => intro _ i hi; exact absurd hi (Nat.not_lt_zero _)
  | succ j ih =>
    intro hj i hi
    have h1 : lexLt (X j) (X (j + 1)) = true := h (j + 1) hj (Nat.succ_pos _)
    by_cases e : i = j
    · subst e; exact h1
    · exact lexLt_trans _ _ _ (ih (by omega) i (by omega)) h1
theorem asc_rows (X : Nat → List Int) (m : Nat) (h : ∀ i, i < m → stepOk X i) : Asc (rowsL X m) := by
  refine List.pairwise_iff_getElem.2 fun i j hi hj hij => ?_
  rw [rowsL_len] at hi hj
  simp only [rowsL, List.getElem_map, List.getElem_range]
  exact step_lt X m h j hj i hij

theorem mrg_short (X Y : Nat → List Int) (m n : Nat) (hX : ∀ i, i < m → (X i).length ≤ 20) (hY : ∀ i, i < n → (Y i).length ≤ 20) (i : Nat) : (rowsOf (mrg (rowsL X m) (rowsL Y n)) i).length ≤ 20 := by
  unfold rowsOf
  by_cases h : i < (mrg (rowsL X m) (rowsL Y n)).length
  · rw [List.getElem?_eq_getElem h]
    rcases mrg_sub _ _ _ (List.getElem_mem h) with h1 | h1
    · obtain ⟨j, hj, e⟩ := mem_rowsL h1
      show (mrg (rowsL X m) (rowsL Y n))[i].length ≤ 20
      rw [e]; exact hX j hj
    · obtain ⟨j, hj, e⟩ := mem_rowsL h1
      show (mrg (rowsL X m) (rowsL Y n))[i].length ≤ 20
      rw [e]; exact hY j hj
  · rw [List.getElem?_eq_none (by omega)]
    exact Nat.zero_le _

end Go.Proofs.Ytnmilkehggjpfaa
end
