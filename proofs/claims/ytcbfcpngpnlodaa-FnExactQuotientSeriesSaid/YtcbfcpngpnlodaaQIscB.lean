/-
  IsClosedProfile on both sides.
-/
import Derived.Test.YtcbfcpngpnlodaaQIsc
namespace Go.Proofs.Ytcbfcpngpnlodaa
open Go.RowKit
set_option linter.unusedVariables false
set_option maxRecDepth 100000

theorem specIsc_ok (v : Value) (n : Nat) (G : Nat → Int) (w : World) (h : RdI w v n G) (hok : okPr G n) :
    Calls Try.prog 20 #[v] w (SaysV (.tuple #[.bool (isCl (padF n G)), .int .i64 0]) w) := by
  have A := Lib.hid (l07Is_yes v n G w h hok)
  have B := Lib.hid (l07Closed_any v n G w h hok)
  clear h hok
  go_enter Try.func20, Try.ntmps20
  go_wp2_with fail
  refine A.out.mono ?_
  rintro e w' ⟨rfl, rfl⟩
  go_wp2_with fail
  refine B.out.mono ?_
  rintro e w' ⟨rfl, rfl⟩
  go_wp2_with fail
  go_ret2
  exact ⟨rfl, Below.refl _ _⟩
theorem specIsc_no (v : Value) (n : Nat) (G : Nat → Int) (w : World) (h : RdI w v n G) (hok : ¬ okPr G n) :
    Calls Try.prog 20 #[v] w (SaysV (.tuple #[.bool false, .int .i64 1]) w) := by
  have A := Lib.hid (l07Is_no v n G w h hok)
  clear h hok
  go_enter Try.func20, Try.ntmps20
  go_wp2_with fail
  refine A.out.mono ?_
  rintro e w' ⟨rfl, rfl⟩
  go_wp2_with fail
  go_ret2
  exact ⟨rfl, Below.refl _ _⟩
theorem pad_ten {n : Nat} {G : Nat → Int} (hok : okPr G n) (k : Nat) : 0 ≤ at16 (padF n G) k ∧ at16 (padF n G) k ≤ 10 := by
  rw [at16_pad n G hok.1]
  exact padF_nonneg hok k
theorem implIsc_ok (v : Value) (n : Nat) (G : Nat → Int) (w : World) (h : RdI w v n G) (hok : okPr G n) :
    Calls Try.prog 21 #[v] w (SaysV (.tuple #[.bool (isCl (padF n G)), .int .i64 0]) w) := by
  have A := Lib.hid (implIsPr_yes v n G w h hok)
  have P := Lib.hid (profileOf_any v n G w h hok.1)
  have C := Lib.hid (fun wx => isClosed_any (padF n G) (pad_ten hok) wx)
  clear h hok
  go_enter Try.func21, Try.ntmps21
  go_wp2_with fail
  refine A.out.mono ?_
  rintro e w' ⟨rfl, rfl⟩
  go_wp2_with fail
  refine P.out.mono ?_
  rintro e w1 ⟨rfl, b1⟩
  go_wp2_with fail
  refine (C.out _).mono ?_
  rintro e w2 ⟨rfl, b2⟩
  have B2 := Lib.hid (below_one b1 b2)
  clear b1 b2
  go_wp2_with fail
  go_ret2
  exact ⟨rfl, B2.out⟩
theorem implIsc_no (v : Value) (n : Nat) (G : Nat → Int) (w : World) (h : RdI w v n G) (hok : ¬ okPr G n) :
    Calls Try.prog 21 #[v] w (SaysV (.tuple #[.bool false, .int .i64 1]) w) := by
  have A := Lib.hid (implIsPr_no v n G w h hok)
  clear h hok
  go_enter Try.func21, Try.ntmps21
  go_wp2_with fail
  refine A.out.mono ?_
  rintro e w' ⟨rfl, rfl⟩
  go_wp2_with fail
  go_ret2
  exact ⟨rfl, Below.refl _ _⟩
theorem IsClosedProfile_both (n : Nat) (G : Nat → Int) (hb : ∀ i, -9223372036854775808 ≤ G i ∧ G i ≤ 9223372036854775807) : ∃ (x : Bool) (c : Int),
    (∀ v w, RdI w v n G → Calls Try.prog 20 #[v] w (SaysV (.tuple #[.bool x, .int .i64 c]) w)) ∧
    (∀ v w, RdI w v n G → Calls Try.prog 21 #[v] w (SaysV (.tuple #[.bool x, .int .i64 c]) w)) := by
  by_cases hok : okPr G n
  · exact ⟨_, _, fun v w h => specIsc_ok v n G w h hok, fun v w h => implIsc_ok v n G w h hok⟩
  · exact ⟨_, _, fun v w h => specIsc_no v n G w h hok, fun v w h => implIsc_no v n G w h hok⟩
end Go.Proofs.Ytcbfcpngpnlodaa
