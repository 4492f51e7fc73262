/-
  Structs of one field Terms: laws.markSquares, heldSquares, spec.l03Fit; such a struct and a code as results.
-/
import Derived.Test.YthbibkehhnggfaaSBase
import Derived.Test.YthbibkehhnggfaaKMark
namespace Go.Proofs.Ythbibkehhnggfaa
open Go.RowKit
set_option linter.unusedVariables false
set_option maxRecDepth 100000

/-- A struct of one cell and a number as results. -/
theorem results_box1_tmp {fn : Func} {p u : Tmp} {t : TypeId} (h : fn.results = #[.cell p t, .tmp u]) (tmps : Array Value) (w : World) (g : Nat) (x : Value) (fs : Array Field)
    (hp : tmps.getD p undef = .pointer (some ⟨g, 0, none⟩)) (hg : Box1 w g t x)
    (hu : Try.prog.underlying t = some (.struct fs)) (hi : (Try.prog.info? t).map (·.size) = some 1) :
    (results fn tmps).run Try.prog w = .ok (.tuple #[.agg #[x], tmps.getD u undef]) w := by
  rw [results_cell_tmp h, hp]
  have := run_loadVar_row (P := Try.prog) w g t t #[x] (0, 0) (.struct fs) hg hu rfl hi
  show ((loadVar t ⟨g, 0, none⟩).run Try.prog w).andThen _ = _
  rw [this]
  rfl

theorem MRestK.box {m : Nat} {VS : Nat → Value} {w w' : World} {o : Obj} (h : MRestK m VS (w.alloc o) w') : MRestK m VS w w' := by
  refine ⟨Nat.le_trans (by simp) h.1, fun b hb hn => (h.2 b (by simp; omega) hn).trans (heap_alloc_old w o hb)⟩

theorem markSquares_from (k0 : Int) (hk0 : 0 ≤ k0) (U : Value) (m : Nat) (B : Nat) (VS : Nat → Value) (Y : Nat → List Int) (w : World) (h : Fam w B U m VS Y) (hs : Sep m VS) (hB : B ≤ w.heap.size)
    (hk : off k0 (fun i => (Y i).length) m ≤ 1152921504606846976) :
    Calls Try.prog 16 #[.agg #[U], .int .i64 k0] w fun e w' => e = .returned (.int .i64 (off k0 (fun i => (Y i).length) m)) ∧ Fam w' B U m VS (mkd k0 Y m) ∧ Below B w w' ∧ MRestK m VS w w' := by
  have t2 := Try.underlying29
  have b0 : Below w.heap.size w (w.alloc (.cells #[U] 29)) := (Below.refl _ w).alloc (Nat.le_refl _) _
  have M := Lib.hid (markSS_from k0 hk0 U m B VS Y _ (h.below b0) hs hk)
  have B0 : Hid (Below B w (w.alloc (.cells #[U] 29))) := Lib.hid (b0.mono hB)
  generalize off k0 (fun i => (Y i).length) m = kk at M ⊢
  clear h hs b0 hk
  go_enter Try.func16, Try.ntmps16
  go_wp2_with fail
  refine M.out.mono ?_
  rintro e w' ⟨rfl, hF, hb, hr⟩
  have HF := Lib.hid hF
  have HB := Lib.hid (B0.out.trans hb)
  have HR := Lib.hid hr.box
  clear hF hb hr
  go_wp2_with fail
  go_ret
  exact ⟨rfl, HF.out, HB.out, HR.out⟩

theorem heldSquares_own (U : Value) (m : Nat) (B : Nat) (VS : Nat → Value) (Y : Nat → List Int) (w : World) (h : Fam w B U m VS (mkd 1 Y m))
    (hk : off 1 (fun i => (Y i).length) m ≤ 1152921504606846976) :
    Calls Try.prog 17 #[.agg #[U], .int .i64 1] w fun e w' => e = .returned (.int .i64 (off 1 (fun i => (Y i).length) m)) ∧ Below w.heap.size w w' := by
  have t2 := Try.underlying29
  have b0 : Below w.heap.size w (w.alloc (.cells #[U] 29)) := (Below.refl _ w).alloc (Nat.le_refl _) _
  have M := Lib.hid (heldInt64SS_own U m B VS Y _ (h.below b0) hk)
  have B0 := Lib.hid b0
  have hge : ¬ off 1 (fun i => (Y i).length) m < 0 := by rw [off_any]; omega
  generalize off 1 (fun i => (Y i).length) m = kk at M hge ⊢
  clear h b0 hk
  go_enter Try.func17, Try.ntmps17
  go_wp2_with fail
  refine M.out.mono ?_
  rintro e w' ⟨rfl, rfl⟩
  go_wp2_with fail
  go_ret
  exact ⟨rfl, B0.out⟩

theorem l03Fit_yes (a : Option Addr) (n cap : Nat) (w : World) (h : n ≤ 2000) :
    Calls Try.prog 37 #[.slice a n cap] w fun e w' => e = .returned (.tuple #[.agg #[.slice a n cap], .int .i64 0]) ∧ Below w.heap.size w w' := by
  have t2 := Try.underlying29
  have h1 : ¬ (2000 : Int) < (n : Int) := by omega
  have E : Box1 (w.alloc (.cells #[.slice a n cap] 29)) w.heap.size 29 (.slice a n cap) := Box1.new w _ _
  have E := Lib.hid E
  have B0 : Hid (Below w.heap.size w (w.alloc (.cells #[.slice a n cap] 29))) := Lib.hid ((Below.refl _ w).alloc (Nat.le_refl _) _)
  clear h
  go_enter Try.func37, Try.ntmps37
  go_wp2_with fail
  refine bodyPost_ret (results_box1_tmp rfl _ _ w.heap.size _ _ rfl E.out t2 (by kernel_rfl)) rfl ?_
  exact ⟨rfl, B0.out⟩
theorem l03Fit_no (a : Option Addr) (n cap : Nat) (w : World) (h : 2000 < n) :
    Calls Try.prog 37 #[.slice a n cap] w fun e w' => e = .returned (.tuple #[.agg #[.slice none 0 0], .int .i64 3]) ∧ Below w.heap.size w w' := by
  have t2 := Try.underlying29
  have h1 : (2000 : Int) < (n : Int) := by omega
  have E : Box1 (w.alloc (.cells #[.slice none 0 0] 29)) w.heap.size 29 (.slice none 0 0) := Box1.new w _ _
  have E := Lib.hid E
  have B0 : Hid (Below w.heap.size w (w.alloc (.cells #[.slice none 0 0] 29))) := Lib.hid ((Below.refl _ w).alloc (Nat.le_refl _) _)
  clear h
  go_enter Try.func37, Try.ntmps37
  go_wp2_with fail
  refine bodyPost_ret (results_box1_tmp rfl _ _ w.heap.size _ _ rfl E.out t2 (by kernel_rfl)) rfl ?_
  exact ⟨rfl, B0.out⟩

/-- What returns a struct of lists and a code. -/
def ResS (L : List (List Int)) (cd : Int) (w : World) (e : Ending) (w' : World) : Prop :=
  ∃ V VS, e = .returned (.tuple #[.agg #[V], .int .i64 cd]) ∧ FamL w' w.heap.size V VS L ∧ Sep L.length VS ∧ Below w.heap.size w w'
end Go.Proofs.Ythbibkehhnggfaa
