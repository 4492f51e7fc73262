/-
  spec.l01Dec between 0 and 99.
-/
import Derived.Test.YtcfgjbfgdlmilaaDoorTxtPlain
import Derived.Test.YtcfgjbfgdlmilaaDoorWLaws
import Derived.Laws.IdiomStrings
import Derived.Laws.Concat
import Derived.BigRegion
import Derived.Deep.RegionWith
import Derived.Deep.DeepCutAuto
namespace Go.Proofs.YtcfgjbfgdlmilaaDoor
open Go.RowKit
set_option linter.unusedVariables false
set_option maxRecDepth 100000

/-- A list of bytes as a string. -/
def S (l : List UInt8) : ByteArray := ⟨l.toArray⟩
theorem S_size (l : List UInt8) : (S l).size = l.length := by show l.toArray.size = _; simp
theorem S_app (a b : List UInt8) : S a ++ S b = S (a ++ b) := ByteArray.mk_append_mk a b

/-- One digit. -/
def dgt (n : Nat) : List UInt8 := [UInt8.ofNat (48 + n)]
theorem convS (w : World) (g n : Nat) (hn : n < 100) (hc : w.cell? ⟨g, 0, none⟩ = some (.int .u8 (48 + (n : Int)))) : (convert 48 9 (.slice (some ⟨g, 0, none⟩) 1 1)).run Tryd.prog w = .ok (.string (S (dgt n))) w := by
  have e : (UInt8.ofNat (48 + n)).toNat = 48 + n := by rw [UInt8.toNat_ofNat']; omega
  exact run_convert_bytes_back (P := Tryd.prog) _ 48 9 5 ⟨g, 0, none⟩ 1 [UInt8.ofNat (48 + n)] Tryd.underlying48 Tryd.underlying5 Tryd.underlying9 (fun j hj => by
    have hj0 : j = 0 := by simpa using hj
    subst hj0
    rw [show (⟨g, 0, none⟩ : Addr).add 0 = ⟨g, 0, none⟩ from rfl, hc]
    simp only [List.getElem_cons_zero, e]
    simp)
theorem conv1 (w : World) (n : Nat) (hn : n < 100) : (convert 48 9 (.slice (some ⟨w.heap.size, 0, none⟩) 1 1)).run Tryd.prog (w.alloc (.cells #[.int .u8 (48 + (n : Int))] 5)) = .ok (.string (S (dgt n))) (w.alloc (.cells #[.int .u8 (48 + (n : Int))] 5)) :=
  convS _ _ n hn (cell_of_row _ w.heap.size 0 _ _ (0, 0) (heap_alloc_new w _))

theorem dec1 (n : Nat) (hn : n < 10) (w : World) :
    Calls Tryd.prog 31 #[.int .i64 (n : Int)] w fun e w' => e = .returned (.string (S (Lib.decDigits n))) ∧ Below w.heap.size w w' := by
  have hlt : (n : Int) < 10 := by omega
  have C := conv1 w n (by omega)
  have B : Hid (Below w.heap.size w (w.alloc (.cells #[.int .u8 (48 + (n : Int))] 5))) := Lib.hid ((Below.refl _ w).alloc (Nat.le_refl _) _)
  rw [show Lib.decDigits n = dgt n from Lib.decDigits_one hn]
  go_enter Tryd.func31, Tryd.ntmps31
  go_wp2_with fail
  go_ret
  exact ⟨rfl, B.out⟩

theorem dec2 (n : Nat) (h1 : ¬ n < 10) (hn : n < 100) (w : World) :
    Calls Tryd.prog 31 #[.int .i64 (n : Int)] w fun e w' => e = .returned (.string (S (Lib.decDigits n))) ∧ Below w.heap.size w w' := by
  have hlt : ¬ (n : Int) < 10 := by omega
  rw [show Lib.decDigits n = dgt (n / 10) ++ dgt (n % 10) from Lib.decDigits_two h1 hn]
  obtain ⟨q, hq⟩ : ∃ q, n / 10 = q := ⟨_, rfl⟩
  obtain ⟨r, hr⟩ : ∃ r, n % 10 = r := ⟨_, rfl⟩
  have hw0 : IntKind.i64.wrap ((n : Int) / 10) = (q : Int) := by rw [IntKind.wrap_i64]; omega
  have hw1 : (n : Int).tmod 10 = (r : Int) := by rw [Int.tmod_eq_emod_of_nonneg (by omega)]; omega
  have hw2 : IntKind.i64.wrap (48 + (r : Int)) = 48 + (r : Int) := by rw [IntKind.wrap_i64]; omega
  have hw3 : IntKind.u8.wrap (48 + (r : Int)) = 48 + (r : Int) := by rw [IntKind.wrap_u8]; omega
  have C := Lib.hid fun (wx : World) => conv1 wx r (by omega)
  have c0 : (convert 48 9 (.slice (some ⟨w.heap.size, 0, none⟩) 1 1)).run Tryd.prog (w.alloc (.cells #[.int .u8 (48 + (r : Int))] 5)).drew = .ok (.string (S (dgt r))) (w.alloc (.cells #[.int .u8 (48 + (r : Int))] 5)).drew :=
    convS _ _ r (by omega) (cell_of_row _ w.heap.size 0 _ _ (0, 0) (heap_alloc_new w _))
  have C2 : Hid (∀ w1, Below (w.alloc (.cells #[.int .u8 (48 + (r : Int))] 5)).drew.heap.size (w.alloc (.cells #[.int .u8 (48 + (r : Int))] 5)).drew w1 → (convert 48 9 (.slice (some ⟨w.heap.size, 0, none⟩) 1 1)).run Tryd.prog w1 = .ok (.string (S (dgt r))) w1) := Lib.hid fun w1 b1 =>
    convS _ _ r (by omega) ((b1.cell (p := ⟨w.heap.size, 0, none⟩) (by simp)).trans (cell_of_row _ w.heap.size 0 _ _ (0, 0) (heap_alloc_new w _)))
  have BA : Hid (∀ w1, Below (w.alloc (.cells #[.int .u8 (48 + (r : Int))] 5)).drew.heap.size (w.alloc (.cells #[.int .u8 (48 + (r : Int))] 5)).drew w1 → Below w.heap.size w w1) := Lib.hid fun w1 b1 =>
    (((Below.refl _ w).alloc (Nat.le_refl _) _).drew).trans (b1.mono (by simp))
  have BB : Hid (∀ w1 o, Below w.drew.heap.size w.drew w1 → Below w.heap.size w (w1.alloc o)) := Lib.hid fun w1 o b1 =>
    (((Below.refl _ w).drew).trans b1).alloc b1.size o
  have D := Lib.hid (dec1 q (by omega))
  rw [hq, hr]
  rw [show Lib.decDigits q = dgt q from Lib.decDigits_one (by omega)] at D
  clear hq hr
  have sa := S_app (dgt q) (dgt r)
  go_enter Tryd.func31, Tryd.ntmps31
  go_upto_region 3 with fail
  go_region_with (first | (go_at_call 31; refine (D.out _).mono ?_; rintro e w1 ⟨rfl, b1⟩; first | (have c1 := C2.out w1 b1; have B1 := Lib.hid (BA.out w1 b1); clear b1) | (have c1 := C.out w1; have B1 := Lib.hid (BB.out w1 (.cells #[.int .u8 (48 + (r : Int))] 5) b1); clear b1)))
  all_goals
    go_wp2_with fail
    go_ret
    exact ⟨rfl, B1.out⟩

theorem dec_any (n : Int) (h0 : 0 ≤ n) (h1 : n < 100) (w : World) :
    Calls Tryd.prog 31 #[.int .i64 n] w fun e w' => e = .returned (.string (S (decT n))) ∧ Below w.heap.size w w' := by
  obtain ⟨k, rfl⟩ := Int.eq_ofNat_of_zero_le h0
  unfold decT
  rw [Int.toNat_natCast]
  by_cases h : k < 10
  · exact dec1 k h w
  · exact dec2 k h (by omega) w
end Go.Proofs.YtcfgjbfgdlmilaaDoor
