/-
  Contracts: math/bits.OnesCount64 and impl.countOnes return the number of digits 1.
-/
import Derived.Test.YtnfhfilconcajaaRows
import Derived.Test.YtnfhfilconcajaaPlainOnes
import Derived.WalkLawsBesides
import Derived.WalkSpells
import Derived.Lib.Hide
namespace Go.Proofs.Ytnfhfilconcajaa
open Go.RowKit
set_option maxRecDepth 100000
set_option linter.unusedVariables false

def oc1 (x : Int) : Int := IntKind.u64.wrap (bits .and .u64 (x / 2) 6148914691236517205 + bits .and .u64 x 6148914691236517205)
def oc2 (x : Int) : Int := IntKind.u64.wrap (bits .and .u64 (x / 4) 3689348814741910323 + bits .and .u64 x 3689348814741910323)
def oc3 (x : Int) : Int := bits .and .u64 (IntKind.u64.wrap (x / 16 + x)) 1085102592571150095
def oc4 (x : Int) : Int := IntKind.u64.wrap (x + x / 256)
def oc5 (x : Int) : Int := IntKind.u64.wrap (x + x / 65536)
def oc6 (x : Int) : Int := IntKind.u64.wrap (x + x / 4294967296)
def oc (x : Int) : Int := bits .and .i64 (wrap64 (oc6 (oc5 (oc4 (oc3 (oc2 (oc1 x))))))) 127

theorem u64_keep (n : Nat) (h : n < 18446744073709551616) : IntKind.u64.wrap (n : Int) = (n : Int) := by
  rw [IntKind.wrap_u64]; omega

theorem and_u64_lit (x c : Nat) (m : Int) (hm : m = (c : Int)) (h : x < 18446744073709551616) (hc : c < 18446744073709551616) : bits .and .u64 (x : Int) m = ((x &&& c : Nat) : Int) := by
  rw [hm]; exact bits_and_u64_nat x c h hc

theorem oc1_nat (x : Nat) (h : x < 18446744073709551616) : oc1 (x : Int) = (T1 8 x : Nat) := by
  have hb : T1 8 x < 18446744073709551616 := T1_bound 8 x
  have e : ((x : Int) / 2) = ((x / 2 : Nat) : Int) := rfl
  unfold oc1
  rw [e, and_u64_lit (x / 2) 6148914691236517205 6148914691236517205 (by omega) (by omega) (by decide), and_u64_lit x 6148914691236517205 6148914691236517205 (by omega) h (by decide), ← Int.natCast_add]
  exact u64_keep _ hb

theorem oc2_nat (x : Nat) (h : x < 18446744073709551616) (hb : T2 8 x < 18446744073709551616) : oc2 (x : Int) = (T2 8 x : Nat) := by
  have e : ((x : Int) / 4) = ((x / 4 : Nat) : Int) := rfl
  unfold oc2
  rw [e, and_u64_lit (x / 4) 3689348814741910323 3689348814741910323 (by omega) (by omega) (by decide), and_u64_lit x 3689348814741910323 3689348814741910323 (by omega) h (by decide), ← Int.natCast_add]
  exact u64_keep _ hb

theorem oc3_nat (x : Nat) (h : x ≤ 4919131752989213764) : oc3 (x : Int) = (T3 8 x : Nat) := by
  have e : ((x : Int) / 16) = ((x / 16 : Nat) : Int) := rfl
  unfold oc3
  rw [e, ← Int.natCast_add, u64_keep _ (by omega), and_u64_lit (x / 16 + x) 1085102592571150095 1085102592571150095 (by omega) (by omega) (by decide)]
  rfl

theorem oc_nat (x : Nat) (h : x < 18446744073709551616) : oc (x : Int) = (pcl 64 x : Nat) := by
  have hb1 : T1 8 x < 18446744073709551616 := T1_bound 8 x
  have hb2 : T2 8 (T1 8 x) ≤ 4919131752989213764 := swar_bound 8 x
  have hs := swar 8 x
  have e3 : oc3 (oc2 (oc1 (x : Int))) = (sums 8 x : Nat) := by
    rw [oc1_nat x h, oc2_nat _ hb1 (by omega), oc3_nat _ hb2, hs]
  have hsum : pcl 64 x = pcl 8 (x % 256) + pcl 8 (x / 256 % 256) + pcl 8 (x / 256 / 256 % 256) + pcl 8 (x / 256 / 256 / 256 % 256) + pcl 8 (x / 256 / 256 / 256 / 256 % 256) + pcl 8 (x / 256 / 256 / 256 / 256 / 256 % 256) + pcl 8 (x / 256 / 256 / 256 / 256 / 256 / 256 % 256) + pcl 8 (x / 256 / 256 / 256 / 256 / 256 / 256 / 256 % 256) := by
    have m : ∀ y, pcl 8 (y % 256) = pcl 8 y := fun y => pcl_mod 8 y
    simp only [m]
    rw [show (64 : Nat) = 8 + 56 from rfl, pcl_add 8 56, show (56 : Nat) = 8 + 48 from rfl, pcl_add 8 48, show (48 : Nat) = 8 + 40 from rfl, pcl_add 8 40, show (40 : Nat) = 8 + 32 from rfl, pcl_add 8 32,
      show (32 : Nat) = 8 + 24 from rfl, pcl_add 8 24, show (24 : Nat) = 8 + 16 from rfl, pcl_add 8 16, show (16 : Nat) = 8 + 8 from rfl, pcl_add 8 8]
    simp only [Nat.reducePow]
    omega
  have l : ∀ y, pcl 8 y ≤ 8 := pcl_le 8
  have hu : sums 8 x = pcl 8 (x % 256) + 256 * (pcl 8 (x / 256 % 256) + 256 * (pcl 8 (x / 256 / 256 % 256) + 256 * (pcl 8 (x / 256 / 256 / 256 % 256) + 256 * (pcl 8 (x / 256 / 256 / 256 / 256 % 256) + 256 * (pcl 8 (x / 256 / 256 / 256 / 256 / 256 % 256) + 256 * (pcl 8 (x / 256 / 256 / 256 / 256 / 256 / 256 % 256) + 256 * pcl 8 (x / 256 / 256 / 256 / 256 / 256 / 256 / 256 % 256))))))) := by
    simp only [sums]
    omega
  obtain ⟨v, hv⟩ : ∃ v, v = sums 8 x + sums 8 x / 256 := ⟨_, rfl⟩
  obtain ⟨w, hw⟩ : ∃ w, w = v + v / 65536 := ⟨_, rfl⟩
  obtain ⟨y, hy⟩ : ∃ y, y = w + w / 4294967296 := ⟨_, rfl⟩
  obtain ⟨r1, r2, r3, r4⟩ := fold_sum _ _ _ _ _ _ _ _ (l _) (l _) (l _) (l _) (l _) (l _) (l _) (l _) _ v w y hu hv hw hy
  have e4 : oc4 ((sums 8 x : Nat) : Int) = (v : Int) := by
    unfold oc4
    rw [show ((sums 8 x : Nat) : Int) + ((sums 8 x : Nat) : Int) / 256 = ((sums 8 x + sums 8 x / 256 : Nat) : Int) from rfl, ← hv]
    exact u64_keep _ r1
  have e5 : oc5 (v : Int) = (w : Int) := by
    unfold oc5
    rw [show (v : Int) + (v : Int) / 65536 = ((v + v / 65536 : Nat) : Int) from rfl, ← hw]
    exact u64_keep _ r2
  have e6 : oc6 (w : Int) = (y : Int) := by
    unfold oc6
    rw [show (w : Int) + (w : Int) / 4294967296 = ((w + w / 4294967296 : Nat) : Int) from rfl, ← hy]
    exact u64_keep _ (by omega)
  unfold oc
  rw [e3, e4, e5, e6, IntWalk.wrap64_in _ ⟨by omega, by omega⟩]
  rw [show (127 : Int) = ((127 : Nat) : Int) from rfl, i64_and y 127 r3 (by decide), hsum, ← r4]
  rw [show (127 : Nat) = 2 ^ 7 - 1 from rfl, Nat.and_two_pow_sub_one_eq_mod]

end Go.Proofs.Ytnfhfilconcajaa
