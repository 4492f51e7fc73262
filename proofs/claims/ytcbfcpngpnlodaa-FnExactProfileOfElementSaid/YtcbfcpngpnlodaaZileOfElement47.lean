/-
  Joined: OpenMl, PFnExactProfileOfElement.
-/
import Derived.Test.YtcbfcpngpnlodaaZileOfElement24
import Derived.Lib.SmallJoins
import Derived.ChangeSlices
import Derived.Test.YtcbfcpngpnlodaaRows
import Derived.Test.YtcbfcpngpnlodaaZileOfElement46
import Derived.WalkKit
import Derived.ProofKit
import Derived.OpenShut
import Derived.ShutString
import Derived.ChangeOld
import Derived.Below
section
namespace Go.Proofs.Ytcbfcpngpnlodaa
open Go.RowKit Go.ChangeShapes Go.WideShapes Go.Joins
set_option linter.unusedVariables false
set_option maxRecDepth 100000

theorem one_cell {α : Type} {cs : Array α} (h : cs.size = 1) : ∃ c0, cs = #[c0] := by
  obtain ⟨l⟩ := cs
  match l, h with
  | [c0], _ => exact ⟨c0, rfl⟩

/-- What the walk is told of such an argument: its rows. -/
theorem open_ml {H : Type} {enc : TypeId × Value → H} {w : World} {base b0 : Nat} {held : Bool} {v : Value} {d : DataW H} {p : List MemPlace}
    (hv : Value.okWide Try.prog w .any b0 37 v) (h : DataW.Trod enc Try.prog w base (fun _ => true) held 37 v d p) :
    ∃ (a : Option Addr) (m cap : Nat) (X : Nat → List Int), v = .agg #[.slice a m cap] ∧ IsRows w a m cap X := by
  obtain ⟨cs, rfl, hsz⟩ := okWide_struct Try.underlying37 hv
  obtain ⟨c0, rfl⟩ := one_cell (hsz.trans (by kernel_rfl))
  obtain ⟨fuel, hf⟩ := h
  obtain ⟨y0, n, hx, _, h0⟩ := trod_struct1 Try.underlying37 hf
  have hc1 : Try.prog.cellsOf 35 = 1 := by kernel_rfl
  have h1 : DataW.trod enc Try.prog w base (fun _ => true) held n 35 [c0] = some y0 := by simpa [Value.cells, hc1] using h0
  obtain ⟨a, m, cap, e⟩ := slice_form Try.underlying35 h1
  obtain rfl : c0 = .slice a m cap := by simpa using e
  obtain ⟨X, hX⟩ := open_rows (d := y0.1) (p := y0.2) ⟨n, by simpa [Value.cells] using h1⟩
  exact ⟨a, m, cap, X, rfl, hX⟩
end Go.Proofs.Ytcbfcpngpnlodaa
namespace Go.Proofs.Ytcbfcpngpnlodaa.Ml
end Go.Proofs.Ytcbfcpngpnlodaa.Ml
end
section
namespace Go.Proofs.Ytcbfcpngpnlodaa.fnExactProfileOfElement
open Go.ChangeShapes Go.WideShapes Go.ChangeAt Go.RowKit Go.Proofs.Ytcbfcpngpnlodaa.Ml
open Go.ChangeMaps (open_string shut_string)
set_option maxRecDepth 100000
set_option linter.unusedVariables false

theorem own : ownKnob Try.prog.godebug = none := by kernel_rfl
theorem laidOut : laidOutB Try.prog = true := by kernel_rfl

set_option maxRecDepth 100000 in
theorem lifted (os : Os) (started : os.Started) (H : Type) (enc : TypeId × Value → H) :
    ReturnsInHanded {} Try.checked os 15 .any (Rows.fnExactProfileOfElementSpec.pre6 enc Try.prog Try.f15 Rows.fnExactProfileOfElementRow.domain false) (Rows.fnExactProfileOfElementSpec.post enc Try.prog Try.f15 false true false false) := by
  refine returnsInHanded_of_change (C := Try.checked) own started (by kernel_rfl) Try.func15
    (ChangeSpec.witness6 (enc := enc) (C := Try.checked) false ⟨#[], #[.agg #[.slice none 0 0]], []⟩ 8 (by kernel_rfl) (by kernel_rfl) (by kernel_rfl) (by kernel_rfl)) ?_
  intro W base args ds gs before hval0 hW hcnd _
  have hval : ∀ (j : Nat) t v, Try.f15.params[j]? = some t → args[j]? = some v → Value.okWide Try.prog W .any base t v := hval0
  have hW' := hW
  obtain ⟨p, q, hA0, hV, rfl, hfz, hnd⟩ := hW
  have hA : DataW.TrodAll enc Try.prog W 0 (fun _ => true) true Try.f15.params.toList args.toList ds p := hA0
  rw [Try.params15] at hA hval
  obtain ⟨v0, vs0, d0, ds0, p0, q0, hargs, rfl, rfl, h0, r0⟩ := trodAll_cons hA
  obtain ⟨rfl, rfl, rfl⟩ := trodAll_nil r0
  obtain rfl : args = #[v0] := by cases args; simp_all
  obtain ⟨rfl, rfl⟩ := trodVars_none hV
  have k0 := h0
  have lt0 : ∀ x ∈ p0, x.block < W.heap.size := by obtain ⟨m, hm⟩ := k0; exact DataW.trod_lt m _ _ _ hm
  obtain ⟨a0, len0, cap0, z0, rfl, w0⟩ := open_ml (hval 0 37 v0 rfl rfl) h0
  clear hA0 hval0
  refine (walk_FnExactProfileOfElement a0 len0 cap0 z0 W w0).mono fun e W' ⟨he, bel⟩ => ?_
  subst he
  exact ⟨_, rfl, _, _, _, [], _, [], hW', trodAll_mk1 (shut_bool Try.underlying4 _), (trodAll_cons_mk (Below.trod laidOut (by kernel_rfl) (of_decide_eq_true (by kernel_rfl)) k0 bel lt0) trodAll_mk0), rfl, bel.frame _, fun h => by cases h⟩

theorem over : Rows.fnExactProfileOfElementRow.holds Try.pinned (OpenSpec.ofChange Rows.fnExactProfileOfElementSpec) :=
  OpenClaim.holds_of_wide 15 Try.f15 rfl rfl rfl rfl rfl rfl rfl ⟨rfl, rfl, rfl, rfl, rfl⟩ rfl rfl rfl rfl rfl (by kernel_rfl) Try.func15 (by kernel_rfl)
    (of_decide_eq_true (by kernel_rfl)) (by unfold Func.isWrapper; first | (rw [if_pos (by decide +kernel)]; kernel_rfl) | (rw [if_neg (by decide +kernel)]; exact ⟨rfl, rfl⟩))
    (fun os started H enc _ => lifted os started H enc)

theorem proved : Rows.FnExactProfileOfElementSaid := over
#print axioms proved
end Go.Proofs.Ytcbfcpngpnlodaa.fnExactProfileOfElement
end
