/-
  The walk of laws.FnExactElementQ.
-/
import Derived.Test.YthklgkccldklaaaNElQ
import Derived.Test.YthklgkccldklaaaNLaw2
namespace Go.Proofs.Ythklgkccldklaaa.Ml
open Go.RowKit
set_option linter.unusedVariables false
set_option maxRecDepth 100000

set_option maxHeartbeats 2000000 in
theorem walk_FnExactElementQ (a0 : Int) (w : World) (w0 : (Lit.int .i64 a0).wf = true) :
    Calls Try.prog 4 #[.int .i64 a0] w fun e w' => e = .returned (.bool true) ∧ Below w.heap.size w w' := by
  clear w0
  have t1 := Try.underlying32
  have t2 := Try.underlying24
  obtain ⟨L, cd, hL, hL20, SP, IM⟩ := ElementQ_both a0
  have OL : Hid (off 1 (fun i => (rowsOf L i).length) L.length ≤ 1152921504606846976) := Lib.hid (by rw [off_any]; have := tot_bound (rowsOf L) 20 L.length hL20; omega)
  have OL0 : ¬ off 1 (fun i => (rowsOf L i).length) L.length < 0 := by rw [off_any]; omega
  have SP := Lib.hid SP
  have IM := Lib.hid IM
  obtain ⟨kl, hkl⟩ : ∃ kl, off 1 (fun i => (rowsOf L i).length) L.length = kl := ⟨_, rfl⟩
  rw [hkl] at OL0
  have HKL := Lib.hid hkl
  clear hkl hL hL20
  go_enter Try.func4, Try.ntmps4
  go_wp2_with fail
  refine (SP.out w).mono ?_
  rintro e w1 ⟨v1, vs1, rfl, f1, s1, b1⟩
  obtain ⟨va1, vc1, rfl, _, _⟩ := f1.head
  have P2 : Hid (OwnF w w1.heap.size (.slice va1 L.length vc1) L.length vs1 (rowsOf L) (w1.alloc (.cells #[.slice va1 L.length vc1] 24))) := Lib.hid (OwnF.start b1.size f1 s1)
  have B2 := Lib.hid (b1.alloc b1.size (.cells #[.slice va1 L.length vc1] 24))
  clear f1 s1 b1
  go_wp2_with fail
  generalize w1.heap.size = g1 at *
  generalize w1.alloc (.cells #[.slice va1 L.length vc1] 24) = w2 at *
  refine (IM.out w2).mono ?_
  rintro e w3 ⟨v3, vs3, rfl, f3, s3, b3⟩
  obtain ⟨va3, vc3, rfl, _, _⟩ := f3.head
  have N13 := Lib.hid (fam_apart P2.out.fam f3)
  have B3 := Lib.hid (B2.out.step1 b3)
  have P4 := Lib.hid ((P2.out.up b3).alloc (.cells #[.slice va3 L.length vc3] 24))
  have V4 : Hid (OwnF w w3.heap.size (.slice va3 L.length vc3) L.length vs3 (rowsOf L) (w3.alloc (.cells #[.slice va3 L.length vc3] 24))) := Lib.hid (OwnF.start B3.out.size (f3.base B2.out.size) s3)
  have B4 := Lib.hid (B3.out.alloc B3.out.size (.cells #[.slice va3 L.length vc3] 24))
  clear f3 s3 b3 P2 B2 B3
  have d0 := P4.out.box.c
  have e0 := V4.out.box.c
  go_wp2_with fail
  generalize w3.heap.size = g3 at *
  generalize w3.alloc (.cells #[.slice va3 L.length vc3] 24) = w4 at *
  refine (eqMilnor_same _ _ L.length _ _ _ _ (rowsOf L) w4 V4.out.fam P4.out.fam).mono ?_
  rintro e w5 ⟨rfl, b5⟩
  have P5 := Lib.hid (P4.out.up b5)
  have V5 := Lib.hid (V4.out.up b5)
  have B5 := Lib.hid (B4.out.step1 b5)
  clear b5 P4 V4 B4 d0 e0
  have e0 := V5.out.box.c
  go_wp2_with fail
  refine (markMilnor_from 1 (by omega) _ L.length w.heap.size vs3 (rowsOf L) w5 V5.out.fam V5.out.sep B5.out.size OL.out).mono ?_
  rintro e w6 ⟨rfl, m6, k6, r6⟩
  have P6 := Lib.hid (P5.out.rest V5.out r6 N13.out)
  have V6 := Lib.hid (V5.out.box.restK (B' := 0) (by decide) V5.out.fam r6)
  have W6 := Lib.hid m6
  have B6 := Lib.hid (B5.out.trans k6)
  rw [HKL.out]
  clear P5 V5 B5 m6 k6 r6 e0
  have e0 := V6.out.c
  go_wp2_with fail
  refine (heldMilnor_own _ L.length w.heap.size vs3 (rowsOf L) w6 W6.out OL.out).mono ?_
  rintro e w7 ⟨rfl, b7⟩
  have P7 := Lib.hid (P6.out.up b7)
  have V7 := Lib.hid (V6.out.up b7)
  have W7 := Lib.hid (W6.out.below b7)
  have B7 := Lib.hid (B6.out.step1 b7)
  rw [HKL.out]
  clear P6 V6 W6 B6 b7 e0
  go_wp2_with fail
  refine (IM.out w7).mono ?_
  rintro e w8 ⟨v8, vs8, rfl, f8, s8, b8⟩
  obtain ⟨va8, vc8, rfl, _, _⟩ := f8.head
  have B8 := Lib.hid (B7.out.step1 b8)
  have P9 := Lib.hid ((P7.out.up b8).alloc (.cells #[.slice va8 L.length vc8] 24))
  have V9 := Lib.hid ((V7.out.up b8).alloc (.cells #[.slice va8 L.length vc8] 24))
  have W9 := Lib.hid ((W7.out.below b8).below ((Below.refl w8.heap.size w8).alloc (Nat.le_refl _) (.cells #[.slice va8 L.length vc8] 24)))
  have Q9 : Hid (OwnF w w8.heap.size (.slice va8 L.length vc8) L.length vs8 (rowsOf L) (w8.alloc (.cells #[.slice va8 L.length vc8] 24))) := Lib.hid (OwnF.start B8.out.size (f8.base B7.out.size) s8)
  have B9 := Lib.hid (B8.out.alloc B8.out.size (.cells #[.slice va8 L.length vc8] 24))
  clear f8 s8 b8 P7 V7 W7 B7 B8
  have d0 := P9.out.box.c
  have e0 := Q9.out.box.c
  go_wp2_with fail
  generalize w8.heap.size = g8 at *
  generalize w8.alloc (.cells #[.slice va8 L.length vc8] 24) = w9 at *
  refine (eqMilnor_same _ _ L.length _ _ _ _ (rowsOf L) w9 Q9.out.fam P9.out.fam).mono ?_
  rintro e w10 ⟨rfl, b10⟩
  have V10 := Lib.hid (V9.out.up b10)
  have W10 := Lib.hid (W9.out.below b10)
  have B10 := Lib.hid (B9.out.step1 b10)
  clear b10 P9 Q9 V9 W9 B9 d0 e0
  have e0 := V10.out.c
  go_wp2_with fail
  refine (heldMilnor_own _ L.length w.heap.size vs3 (rowsOf L) w10 W10.out OL.out).mono ?_
  rintro e w11 ⟨rfl, b11⟩
  have B11 := Lib.hid (B10.out.step1 b11)
  rw [HKL.out]
  go_wp2_with fail
  go_ret
  exact ⟨rfl, B11.out⟩
end Go.Proofs.Ythklgkccldklaaa.Ml
