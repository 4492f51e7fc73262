/-
  Joined: ERes.
-/
import Derived.Test.YtnmilkehggjpfaaZExactAddDual01
import Derived.Test.YtnmilkehggjpfaaZBMil27
section
namespace Go.Proofs.Ytnmilkehggjpfaa
open Go.RowKit
set_option linter.unusedVariables false
set_option maxRecDepth 100000

theorem markDual_from (k0 : Int) (hk0 : 0 ≤ k0) (U : Value) (m : Nat) (B : Nat) (VS : Nat → Value) (Y : Nat → List Int) (w : World) (h : Fam w B U m VS Y) (hs : Sep m VS) (hB : B ≤ w.heap.size)
    (hk : off k0 (fun i => (Y i).length) m ≤ 1152921504606846976) :
    Calls Try.prog 18 #[.agg #[U], .int .i64 k0] w fun e w' => e = .returned (.int .i64 (off k0 (fun i => (Y i).length) m)) ∧ Fam w' B U m VS (mkd k0 Y m) ∧ Below B w w' ∧ MRestK m VS w w' := by
  have t2 := Try.underlying27
  have b0 : Below w.heap.size w (w.alloc (.cells #[U] 27)) := (Below.refl _ w).alloc (Nat.le_refl _) _
  have M := Lib.hid (markSS_from k0 hk0 U m B VS Y _ (h.below b0) hs hk)
  have B0 : Hid (Below B w (w.alloc (.cells #[U] 27))) := Lib.hid (b0.mono hB)
  generalize off k0 (fun i => (Y i).length) m = kk at M ⊢
  clear h hs b0 hk
  go_enter Try.func18, Try.ntmps18
  go_wp2_with fail
  refine M.out.mono ?_
  rintro e w' ⟨rfl, hF, hb, hr⟩
  have HF := Lib.hid hF
  have HB := Lib.hid (B0.out.trans hb)
  have HR := Lib.hid hr.box
  clear hF hb hr
  go_wp2_with fail
  go_ret
  exact ⟨rfl, HF.out, HB.out, HR.out⟩

theorem heldDual_own (U : Value) (m : Nat) (B : Nat) (VS : Nat → Value) (Y : Nat → List Int) (w : World) (h : Fam w B U m VS (mkd 1 Y m))
    (hk : off 1 (fun i => (Y i).length) m ≤ 1152921504606846976) :
    Calls Try.prog 19 #[.agg #[U], .int .i64 1] w fun e w' => e = .returned (.int .i64 (off 1 (fun i => (Y i).length) m)) ∧ Below w.heap.size w w' := by
  have t2 := Try.underlying27
  have b0 : Below w.heap.size w (w.alloc (.cells #[U] 27)) := (Below.refl _ w).alloc (Nat.le_refl _) _
  have M := Lib.hid (heldInt64SS_own U m B VS Y _ (h.below b0) hk)
  have B0 := Lib.hid b0
  have hge : ¬ off 1 (fun i => (Y i).length) m < 0 := by rw [off_any]; omega
  generalize off 1 (fun i => (Y i).length) m = kk at M hge ⊢
  clear h b0 hk
  go_enter Try.func19, Try.ntmps19
  go_wp2_with fail
  refine M.out.mono ?_
  rintro e w' ⟨rfl, rfl⟩
  go_wp2_with fail
  go_ret
  exact ⟨rfl, B0.out⟩

end Go.Proofs.Ytnmilkehggjpfaa
end
