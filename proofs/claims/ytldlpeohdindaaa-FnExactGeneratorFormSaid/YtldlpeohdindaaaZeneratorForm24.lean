/-
  Joined: RDiv.
-/
import Derived.Test.YtldlpeohdindaaaZeneratorForm21
import Derived.Laws.CopyOwn
import Derived.BigRegion
import Derived.Deep.RegionLaw
import Derived.Deep.DeepCutAuto
import Derived.Deep.RegionWith
section
namespace Go.Proofs.Ytldlpeohdindaaa
open Go.RowKit Go.Maps
set_option linter.unusedVariables false
set_option maxRecDepth 100000

theorem packK_nil : packK [] = #[Value.int .u8 0, Value.int .u8 0, Value.int .u8 0, Value.int .u8 0, Value.int .u8 0, Value.int .u8 0, Value.int .u8 0, Value.int .u8 0] := pkA_zero []


/-- A number and a whole block as results. -/
theorem results_tmp_row {fn : Func} {p u : Tmp} {t e : TypeId} {n : Nat} (h : fn.results = #[.tmp u, .cell p t]) (tmps : Array Value) (w : World) (g : Nat) (cs : Array Value)
    (hp : tmps.getD p undef = .pointer (some ⟨g, 0, none⟩)) (hg : w.heap[g]? = some (.cells cs t (0, 0)))
    (hu : Try.prog.underlying t = some (.array n e)) (hi : (Try.prog.info? t).map (·.size) = some cs.size) :
    (results fn tmps).run Try.prog w = .ok (.tuple #[tmps.getD u undef, .agg cs]) w := by
  have hp' : tmps[p]?.getD undef = .pointer (some ⟨g, 0, none⟩) := by simpa using hp
  have hv := run_loadVar_row (P := Try.prog) w g t t cs (0, 0) (.array n e) hg hu rfl hi
  simp [results, h, hp', asAddr, hv]

theorem push_modify (A : Array Obj) (o : Obj) (f : Obj → Obj) : (A.push o).modify A.size f = A.push (f o) := by
  apply Array.ext_getElem?
  intro i
  rw [Array.getElem?_modify, Array.getElem?_push, Array.getElem?_push]
  by_cases h : i = A.size
  · subst h; simp
  · rw [if_neg (fun e => h e.symm), if_neg h, if_neg h]
theorem setRow_newD (W : World) (cur cs : Array Value) (t : TypeId) : ((W.alloc (.cells cur t)).drew).setRow W.heap.size cs = (W.alloc (.cells cs t)).drew := by
  show ({ (W.alloc (.cells cur t)).drew with heap := (W.heap.push (.cells cur t)).modify W.heap.size _ } : World) = _
  rw [push_modify]
  rfl
/-- copy of bytes into the block made last, its cells written out. -/
theorem step_copyP {ops : Array Oper} {o : Oper} {a : Act} {W : World} {K : Act → World → Prop} {Q : Exit → Act → World → Prop} {E : Prop} (hgd : o.guard = none) (d s : Operand)
    (ho : o.op = .call { callee := .builtin .copy, args := #[d, s], argTypes := #[134, 134] }) (cur : List Value) (g off dLen dCap : Nat) (hg : g = W.heap.size) (ad : Addr) (sLen sCap : Nat)
    (hd : a.eval d = .slice (some ⟨g, off, none⟩) dLen dCap) (hs : a.eval s = .slice (some ad) sLen sCap) (cs : List Value) (hn : cs.length = Nat.min sLen dLen)
    (hsrc : ∀ j v, cs[j]? = some v → ((W.alloc (.cells cur.toArray 72)).drew).cell? (ad.add j) = some v) (hfit : off + cs.length ≤ cur.length) (h1 : ∀ v ∈ cs, v.oneCell' = true)
    (new : List Value) (hnew : cur.take off ++ cs ++ cur.drop (off + cs.length) = new)
    (h : K (a.put o.dst (goInt cs.length)) (W.alloc (.cells new.toArray 72)).drew) :
    if Region.wanted o (yielded ops a.tmps) = true then Oper.wp Try.prog o a ((W.alloc (.cells cur.toArray 72)).drew) K Q else E := by
  have hw : Region.wanted o (yielded ops a.tmps) = true := by simp [Region.wanted, hgd]
  rw [if_pos hw]
  subst hg
  have hrun := run_copy_row (P := Try.prog) ((W.alloc (.cells cur.toArray 72)).drew) 134 134 o.type 5 W.heap.size off dLen dCap ad sLen sCap cur.toArray 72 cs Try.underlying134 (by kernel_rfl) (heap_alloc_new W _) hn hsrc (by simpa using hfit) h1
  rw [setRow_newD] at hrun
  simp only at hrun
  rw [hnew] at hrun
  unfold Oper.wp
  simp [execOp, ho, resolve, invoke, builtin, hd, hs, hrun, Result.andThen]
  exact h

theorem divided_nil (w : World) :
    Calls Try.prog 82 #[.agg (packK [])] w fun e w' => e = .returned (.tuple #[.int .i64 0, .agg (packK [])]) ∧ Below w.heap.size w w' := by
  rw [packK_nil]
  go_enter Try.func82, Try.ntmps82
  go_wp2_with fail
  go_region
  go_wp2_with fail
  refine bodyPost_ret (results_tmp_row rfl _ _ (w.heap.size + 1) #[Value.int .u8 0, Value.int .u8 0, Value.int .u8 0, Value.int .u8 0, Value.int .u8 0, Value.int .u8 0, Value.int .u8 0, Value.int .u8 0] rfl ?_ Try.underlying72 (by kernel_rfl)) rfl ?_
  · have := heap_alloc_new (w.alloc (.cells #[Value.int .u8 0, Value.int .u8 0, Value.int .u8 0, Value.int .u8 0, Value.int .u8 0, Value.int .u8 0, Value.int .u8 0, Value.int .u8 0] 72)) (.cells #[Value.int .u8 0, Value.int .u8 0, Value.int .u8 0, Value.int .u8 0, Value.int .u8 0, Value.int .u8 0, Value.int .u8 0, Value.int .u8 0] 72)
    rw [World.size_alloc] at this
    exact this
  · exact ⟨rfl, ((((Below.refl _ w).alloc (Nat.le_refl _) _).alloc (by simp) _).drew)⟩

theorem divided_cons (a y1 y2 y3 y4 y5 y6 y7 : Int) (ha : 0 ≤ a ∧ a ≤ 254) (w : World) :
    Calls Try.prog 82 #[.agg #[.int .u8 (a + 1), .int .u8 y1, .int .u8 y2, .int .u8 y3, .int .u8 y4, .int .u8 y5, .int .u8 y6, .int .u8 y7]] w fun e w' => e = .returned (.tuple #[.int .i64 a, .agg #[.int .u8 y1, .int .u8 y2, .int .u8 y3, .int .u8 y4, .int .u8 y5, .int .u8 y6, .int .u8 y7, .int .u8 0]]) ∧ Below w.heap.size w w' := by
  have hne : (a + 1 == 0) = false := by rw [beq_eq_false_iff_ne]; omega
  have SRC : Hid (∀ j v, [Value.int .u8 y1, .int .u8 y2, .int .u8 y3, .int .u8 y4, .int .u8 y5, .int .u8 y6, .int .u8 y7][j]? = some v →
      ((((w.alloc (.cells #[.int .u8 (a + 1), .int .u8 y1, .int .u8 y2, .int .u8 y3, .int .u8 y4, .int .u8 y5, .int .u8 y6, .int .u8 y7] 72)).alloc (.cells #[Value.int .u8 0, Value.int .u8 0, Value.int .u8 0, Value.int .u8 0, Value.int .u8 0, Value.int .u8 0, Value.int .u8 0, Value.int .u8 0] 72)).alloc (.cells #[Value.int .u8 0, Value.int .u8 0, Value.int .u8 0, Value.int .u8 0, Value.int .u8 0, Value.int .u8 0, Value.int .u8 0, Value.int .u8 0] 72)).drew).cell? ((⟨w.heap.size, 1, none⟩ : Addr).add j) = some v) := Lib.hid fun j v hv => by
    rw [Addr.add_mid]
    have hb := heap_alloc_new w (.cells #[.int .u8 (a + 1), .int .u8 y1, .int .u8 y2, .int .u8 y3, .int .u8 y4, .int .u8 y5, .int .u8 y6, .int .u8 y7] 72)
    have hb2 := (((Below.refl _ (w.alloc (.cells #[.int .u8 (a + 1), .int .u8 y1, .int .u8 y2, .int .u8 y3, .int .u8 y4, .int .u8 y5, .int .u8 y6, .int .u8 y7] 72))).alloc (Nat.le_refl _) (.cells #[Value.int .u8 0, Value.int .u8 0, Value.int .u8 0, Value.int .u8 0, Value.int .u8 0, Value.int .u8 0, Value.int .u8 0, Value.int .u8 0] 72)).alloc (by simp) (.cells #[Value.int .u8 0, Value.int .u8 0, Value.int .u8 0, Value.int .u8 0, Value.int .u8 0, Value.int .u8 0, Value.int .u8 0, Value.int .u8 0] 72)).drew
    rw [hb2.cell (p := ⟨w.heap.size, 1 + j, none⟩) (by simp), cell_of_row _ w.heap.size (1 + j) _ _ (0, 0) hb]
    match j, hv with
    | 0, hv => simpa using hv
    | 1, hv => simpa using hv
    | 2, hv => simpa using hv
    | 3, hv => simpa using hv
    | 4, hv => simpa using hv
    | 5, hv => simpa using hv
    | 6, hv => simpa using hv
    | n + 7, hv => simp at hv
  go_enter Try.func82, Try.ntmps82
  go_wp2_with fail
  go_region_law (refine step_copyP (by rfl) _ _ (by rfl) [Value.int .u8 0, Value.int .u8 0, Value.int .u8 0, Value.int .u8 0, Value.int .u8 0, Value.int .u8 0, Value.int .u8 0, Value.int .u8 0] (w.heap.size + 1 + 1) 0 8 8 (by simp) ⟨w.heap.size, 1, none⟩ 7 7 (by rfl) (by rfl) [Value.int .u8 y1, .int .u8 y2, .int .u8 y3, .int .u8 y4, .int .u8 y5, .int .u8 y6, .int .u8 y7] (by rfl) SRC.out (by simp) (by simp [Value.oneCell']) [Value.int .u8 y1, .int .u8 y2, .int .u8 y3, .int .u8 y4, .int .u8 y5, .int .u8 y6, .int .u8 y7, .int .u8 0] (by rfl) ?_)
  have hw5 : IntKind.i64.wrap (a + 1) = a + 1 := by rw [IntKind.wrap_i64]; omega
  have hw6 : IntKind.i64.wrap (a + 1 - 1) = a := by rw [IntKind.wrap_i64]; omega
  have hw7 : a + 1 - 1 = a := by omega
  go_wp2_with fail
  go_region
  go_wp2_with fail
  refine bodyPost_ret (results_tmp_row rfl _ _ (w.heap.size + 1) #[Value.int .u8 y1, .int .u8 y2, .int .u8 y3, .int .u8 y4, .int .u8 y5, .int .u8 y6, .int .u8 y7, .int .u8 0] rfl ?_ Try.underlying72 (by kernel_rfl)) rfl ?_
  · have := (heap_alloc_new (w.alloc (.cells #[.int .u8 (a + 1), .int .u8 y1, .int .u8 y2, .int .u8 y3, .int .u8 y4, .int .u8 y5, .int .u8 y6, .int .u8 y7] 72)) (.cells #[Value.int .u8 y1, .int .u8 y2, .int .u8 y3, .int .u8 y4, .int .u8 y5, .int .u8 y6, .int .u8 y7, .int .u8 0] 72))
    rw [World.size_alloc] at this
    have h2 := heap_alloc_old ((w.alloc (.cells #[.int .u8 (a + 1), .int .u8 y1, .int .u8 y2, .int .u8 y3, .int .u8 y4, .int .u8 y5, .int .u8 y6, .int .u8 y7] 72)).alloc (.cells #[Value.int .u8 y1, .int .u8 y2, .int .u8 y3, .int .u8 y4, .int .u8 y5, .int .u8 y6, .int .u8 y7, .int .u8 0] 72)) (.cells #[Value.int .u8 y1, .int .u8 y2, .int .u8 y3, .int .u8 y4, .int .u8 y5, .int .u8 y6, .int .u8 y7, .int .u8 0] 72) (r := w.heap.size + 1) (by simp)
    exact h2.trans this
  · exact ⟨rfl, (((((Below.refl _ w).alloc (Nat.le_refl _) _).alloc (by simp) _).alloc (by simp; omega) _).drew).drew⟩

theorem after_lit (n y0 y1 y2 y3 y4 y5 y6 y7 : Int) (hn : 0 ≤ n ∧ n ≤ 254) (w : World) :
    Calls Try.prog 83 #[.agg #[.int .u8 y0, .int .u8 y1, .int .u8 y2, .int .u8 y3, .int .u8 y4, .int .u8 y5, .int .u8 y6, .int .u8 y7], .int .i64 n] w fun e w' => e = .returned (.agg #[Value.int .u8 (n + 1), .int .u8 y0, .int .u8 y1, .int .u8 y2, .int .u8 y3, .int .u8 y4, .int .u8 y5, .int .u8 y6]) ∧ Below w.heap.size w w' := by
  have hw5 : IntKind.i64.wrap (n + 1) = n + 1 := by rw [IntKind.wrap_i64]; omega
  have hw6 : IntKind.u8.wrap (n + 1) = n + 1 := by rw [IntKind.wrap_u8]; omega
  have SRC : Hid (∀ j v, [Value.int .u8 y0, .int .u8 y1, .int .u8 y2, .int .u8 y3, .int .u8 y4, .int .u8 y5, .int .u8 y6][j]? = some v →
      ((((w.alloc (.cells #[.int .u8 y0, .int .u8 y1, .int .u8 y2, .int .u8 y3, .int .u8 y4, .int .u8 y5, .int .u8 y6, .int .u8 y7] 72)).alloc (.cells #[Value.int .u8 0, Value.int .u8 0, Value.int .u8 0, Value.int .u8 0, Value.int .u8 0, Value.int .u8 0, Value.int .u8 0, Value.int .u8 0] 72)).alloc (.cells #[Value.int .u8 (n + 1), Value.int .u8 0, Value.int .u8 0, Value.int .u8 0, Value.int .u8 0, Value.int .u8 0, Value.int .u8 0, Value.int .u8 0] 72)).drew).cell? ((⟨w.heap.size, 0, none⟩ : Addr).add j) = some v) := Lib.hid fun j v hv => by
    rw [Addr.add_mid]
    have hb := heap_alloc_new w (.cells #[.int .u8 y0, .int .u8 y1, .int .u8 y2, .int .u8 y3, .int .u8 y4, .int .u8 y5, .int .u8 y6, .int .u8 y7] 72)
    have hb2 := (((Below.refl _ (w.alloc (.cells #[.int .u8 y0, .int .u8 y1, .int .u8 y2, .int .u8 y3, .int .u8 y4, .int .u8 y5, .int .u8 y6, .int .u8 y7] 72))).alloc (Nat.le_refl _) (.cells #[Value.int .u8 0, Value.int .u8 0, Value.int .u8 0, Value.int .u8 0, Value.int .u8 0, Value.int .u8 0, Value.int .u8 0, Value.int .u8 0] 72)).alloc (by simp) (.cells #[Value.int .u8 (n + 1), Value.int .u8 0, Value.int .u8 0, Value.int .u8 0, Value.int .u8 0, Value.int .u8 0, Value.int .u8 0, Value.int .u8 0] 72)).drew
    rw [hb2.cell (p := ⟨w.heap.size, 0 + j, none⟩) (by simp), cell_of_row _ w.heap.size (0 + j) _ _ (0, 0) hb]
    match j, hv with
    | 0, hv => simpa using hv
    | 1, hv => simpa using hv
    | 2, hv => simpa using hv
    | 3, hv => simpa using hv
    | 4, hv => simpa using hv
    | 5, hv => simpa using hv
    | 6, hv => simpa using hv
    | n + 7, hv => simp at hv
  go_enter Try.func83, Try.ntmps83
  go_wp2_with fail
  go_region_law (refine step_copyP (by rfl) _ _ (by rfl) [Value.int .u8 (n + 1), Value.int .u8 0, Value.int .u8 0, Value.int .u8 0, Value.int .u8 0, Value.int .u8 0, Value.int .u8 0, Value.int .u8 0] (w.heap.size + 1 + 1) 1 7 7 (by simp) ⟨w.heap.size, 0, none⟩ 8 8 (by rfl) (by rfl) [Value.int .u8 y0, .int .u8 y1, .int .u8 y2, .int .u8 y3, .int .u8 y4, .int .u8 y5, .int .u8 y6] (by rfl) SRC.out (by simp) (by simp [Value.oneCell']) [Value.int .u8 (n + 1), .int .u8 y0, .int .u8 y1, .int .u8 y2, .int .u8 y3, .int .u8 y4, .int .u8 y5, .int .u8 y6] (by rfl) ?_)
  go_wp2_with fail
  refine bodyPost_ret (results_cell_row rfl _ _ (w.heap.size + 1) 72 #[Value.int .u8 (n + 1), .int .u8 y0, .int .u8 y1, .int .u8 y2, .int .u8 y3, .int .u8 y4, .int .u8 y5, .int .u8 y6] (0, 0) _ rfl ?_ Try.underlying72 rfl (by kernel_rfl)) rfl ?_
  · have := (heap_alloc_new (w.alloc (.cells #[.int .u8 y0, .int .u8 y1, .int .u8 y2, .int .u8 y3, .int .u8 y4, .int .u8 y5, .int .u8 y6, .int .u8 y7] 72)) (.cells #[Value.int .u8 (n + 1), .int .u8 y0, .int .u8 y1, .int .u8 y2, .int .u8 y3, .int .u8 y4, .int .u8 y5, .int .u8 y6] 72))
    rw [World.size_alloc] at this
    have h2 := heap_alloc_old ((w.alloc (.cells #[.int .u8 y0, .int .u8 y1, .int .u8 y2, .int .u8 y3, .int .u8 y4, .int .u8 y5, .int .u8 y6, .int .u8 y7] 72)).alloc (.cells #[Value.int .u8 (n + 1), .int .u8 y0, .int .u8 y1, .int .u8 y2, .int .u8 y3, .int .u8 y4, .int .u8 y5, .int .u8 y6] 72)) (.cells #[Value.int .u8 (n + 1), .int .u8 y0, .int .u8 y1, .int .u8 y2, .int .u8 y3, .int .u8 y4, .int .u8 y5, .int .u8 y6] 72) (r := w.heap.size + 1) (by simp)
    exact h2.trans this
  · exact ⟨rfl, ((((Below.refl _ w).alloc (Nat.le_refl _) _).alloc (by simp) _).alloc (by simp; omega) _).drew⟩

/-! ### On words -/
theorem packK_cell (xs : List Int) (j : Nat) (hj : j < 8) (hl : xs.length ≤ 8) : (packK xs)[j]? = some (.int .u8 (if j < xs.length then xs[j]?.getD 0 + 1 else 0)) := by
  unfold packK pkA pkI
  simp [hj]
theorem fits_tail {a : Int} {r : List Int} (h : fits (a :: r)) : fits r ∧ 0 ≤ a ∧ a ≤ 254 ∧ r.length ≤ 7 := by
  have h0 := h.2 0 (by simp)
  simp at h0
  refine ⟨⟨by have := h.1; simp at this; omega, fun i hi => ?_⟩, h0.1, h0.2, by have := h.1; simp at this; omega⟩
  have := h.2 (i + 1) (by simp; omega)
  simpa using this
theorem packK_cons (a : Int) (r : List Int) (h : fits (a :: r)) : ∃ y1 y2 y3 y4 y5 y6 y7 : Int, packK (a :: r) = #[.int .u8 (a + 1), .int .u8 y1, .int .u8 y2, .int .u8 y3, .int .u8 y4, .int .u8 y5, .int .u8 y6, .int .u8 y7] ∧ packK r = #[Value.int .u8 y1, .int .u8 y2, .int .u8 y3, .int .u8 y4, .int .u8 y5, .int .u8 y6, .int .u8 y7, .int .u8 0] := by
  obtain ⟨h1, h2, h3, h4⟩ := fits_tail h
  have h8 := h.1
  refine ⟨if 0 < r.length then r[0]?.getD 0 + 1 else 0, if 1 < r.length then r[1]?.getD 0 + 1 else 0, if 2 < r.length then r[2]?.getD 0 + 1 else 0, if 3 < r.length then r[3]?.getD 0 + 1 else 0, if 4 < r.length then r[4]?.getD 0 + 1 else 0, if 5 < r.length then r[5]?.getD 0 + 1 else 0, if 6 < r.length then r[6]?.getD 0 + 1 else 0, ?_, ?_⟩
  · apply Array.ext_getElem?
    intro j
    by_cases hj : j < 8
    · rw [packK_cell _ j hj h8]
      match j, hj with
      | 0, _ => simp
      | 1, _ => simp
      | 2, _ => simp [show (2 < r.length + 1) ↔ (1 < r.length) from by omega]
      | 3, _ => simp [show (3 < r.length + 1) ↔ (2 < r.length) from by omega]
      | 4, _ => simp [show (4 < r.length + 1) ↔ (3 < r.length) from by omega]
      | 5, _ => simp [show (5 < r.length + 1) ↔ (4 < r.length) from by omega]
      | 6, _ => simp [show (6 < r.length + 1) ↔ (5 < r.length) from by omega]
      | 7, _ => simp [show (7 < r.length + 1) ↔ (6 < r.length) from by omega]
    · rw [Array.getElem?_eq_none (by have := pkA_size (a :: r) (a :: r).length; unfold packK; omega), Array.getElem?_eq_none (by simp; omega)]
  · apply Array.ext_getElem?
    intro j
    by_cases hj : j < 8
    · rw [packK_cell _ j hj (by omega)]
      match j, hj with
      | 0, _ => simp
      | 1, _ => simp
      | 2, _ => simp
      | 3, _ => simp
      | 4, _ => simp
      | 5, _ => simp
      | 6, _ => simp
      | 7, _ => simp; omega
    · rw [Array.getElem?_eq_none (by have := pkA_size r r.length; unfold packK; omega), Array.getElem?_eq_none (by simp; omega)]

theorem divided_word (a : Int) (r : List Int) (h : fits (a :: r)) (w : World) :
    Calls Try.prog 82 #[.agg (packK (a :: r))] w fun e w' => e = .returned (.tuple #[.int .i64 a, .agg (packK r)]) ∧ Below w.heap.size w w' := by
  obtain ⟨y1, y2, y3, y4, y5, y6, y7, e1, e2⟩ := packK_cons a r h
  obtain ⟨_, h2, h3, _⟩ := fits_tail h
  rw [e1, e2]
  exact divided_cons a y1 y2 y3 y4 y5 y6 y7 ⟨h2, h3⟩ w
theorem after_word (n : Int) (x : List Int) (h : fits (n :: x)) (w : World) :
    Calls Try.prog 83 #[.agg (packK x), .int .i64 n] w fun e w' => e = .returned (.agg (packK (n :: x))) ∧ Below w.heap.size w w' := by
  obtain ⟨y1, y2, y3, y4, y5, y6, y7, e1, e2⟩ := packK_cons n x h
  obtain ⟨_, h2, h3, _⟩ := fits_tail h
  rw [e1, e2]
  exact after_lit n y1 y2 y3 y4 y5 y6 y7 0 ⟨h2, h3⟩ w
end Go.Proofs.Ytldlpeohdindaaa
end
