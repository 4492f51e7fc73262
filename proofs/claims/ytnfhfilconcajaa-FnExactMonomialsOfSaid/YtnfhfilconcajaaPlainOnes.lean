/-
  The number of binary digits 1, reckoned as math/bits does it: by sums of neighbouring fields. No program in sight.
-/
import Derived.Test.YtnfhfilconcajaaPlainBits
namespace Go.Proofs.Ytnfhfilconcajaa
open Go.RowKit
set_option maxRecDepth 100000

/-- The places below k of the digits 1 of n. -/
def dg (n : Nat) : Nat → List Int
  | 0 => []
  | k + 1 => dg n k ++ (if n / 2 ^ k % 2 = 1 then [(k : Int)] else [])

/-- How many of the k lowest digits are 1. -/
def pcl : Nat → Nat → Nat
  | 0, _ => 0
  | k + 1, x => x % 2 + pcl k (x / 2)

theorem pcl_succ (k : Nat) : ∀ x, pcl (k + 1) x = pcl k x + x / 2 ^ k % 2 := by
  induction k with
  | zero => intro x; simp [pcl]
  | succ k ih =>
    intro x
    rw [pcl, ih (x / 2), pcl, Nat.div_div_eq_div_mul, show 2 * 2 ^ k = 2 ^ (k + 1) by rw [Nat.pow_succ]; omega]
    omega

theorem dg_length (n k : Nat) : (dg n k).length = pcl k n := by
  induction k with
  | zero => rfl
  | succ k ih =>
    rw [dg, List.length_append, ih, pcl_succ]
    by_cases h : n / 2 ^ k % 2 = 1
    · rw [if_pos h, h]; rfl
    · rw [if_neg h]
      have : n / 2 ^ k % 2 = 0 := by omega
      rw [this]; rfl

theorem dg_stop (n k : Nat) (h : n / 2 ^ k = 0) (j : Nat) : dg n (k + j) = dg n k := by
  induction j with
  | zero => rfl
  | succ j ih =>
    have hz : n / 2 ^ (k + j) = 0 := by rw [Nat.pow_add, ← Nat.div_div_eq_div_mul, h, Nat.zero_div]
    rw [← Nat.add_assoc, dg, hz, if_neg (by decide), ih, List.append_nil]

theorem pcl_le (k : Nat) : ∀ x, pcl k x ≤ k := by
  induction k with
  | zero => intro x; exact Nat.le_refl _
  | succ k ih => intro x; rw [pcl]; have := ih (x / 2); omega

theorem pcl_add (j : Nat) : ∀ (k x : Nat), pcl (j + k) x = pcl j x + pcl k (x / 2 ^ j) := by
  induction j with
  | zero => intro k x; simp [pcl]
  | succ j ih =>
    intro k x
    rw [show j + 1 + k = (j + k) + 1 by omega, pcl, ih, pcl, Nat.div_div_eq_div_mul, show 2 * 2 ^ j = 2 ^ (j + 1) by rw [Nat.pow_succ]; omega]
    omega

theorem pcl_mod (j : Nat) : ∀ x, pcl j (x % 2 ^ j) = pcl j x := by
  induction j with
  | zero => intro x; rfl
  | succ j ih =>
    intro x
    rw [pcl, pcl]
    have e1 : x % 2 ^ (j + 1) % 2 = x % 2 := by
      rw [Nat.pow_succ]; exact Nat.mod_mul_left_mod _ _ _
    have e2 : x % 2 ^ (j + 1) / 2 = x / 2 % 2 ^ j := by
      rw [Nat.pow_succ, Nat.mul_comm]; exact Nat.mod_mul_right_div_self x 2 (2 ^ j)
    rw [e1, e2, ih]

/-! ### Masks of k bytes -/
def rep (m : Nat) : Nat → Nat
  | 0 => 0
  | k + 1 => 256 * rep m k + m

theorem and_rep (a m k : Nat) (hm : m < 256) : a &&& rep m (k + 1) = 256 * (a / 256 &&& rep m k) + (a % 256 &&& m) := by
  have h1 : (a &&& rep m (k + 1)) / 2 ^ 8 = a / 2 ^ 8 &&& rep m (k + 1) / 2 ^ 8 := Nat.and_div_two_pow
  have h2 : (a &&& rep m (k + 1)) % 2 ^ 8 = (a % 2 ^ 8) &&& (rep m (k + 1) % 2 ^ 8) := Nat.and_mod_two_pow
  have e1 : rep m (k + 1) / 2 ^ 8 = rep m k := by rw [rep]; omega
  have e2 : rep m (k + 1) % 2 ^ 8 = m := by rw [rep]; omega
  rw [e1] at h1
  rw [e2] at h2
  have h3 := Nat.div_add_mod (a &&& rep m (k + 1)) (2 ^ 8)
  rw [h1, h2] at h3
  exact h3.symm

def t1 (r : Nat) : Nat := (r / 2 &&& 85) + (r &&& 85)
def t2 (r : Nat) : Nat := (r / 4 &&& 51) + (r &&& 51)
def T1 (k x : Nat) : Nat := (x / 2 &&& rep 85 k) + (x &&& rep 85 k)
def T2 (k x : Nat) : Nat := (x / 4 &&& rep 51 k) + (x &&& rep 51 k)
def T3 (k x : Nat) : Nat := (x / 16 + x) &&& rep 15 k

theorem low85 : ∀ (b : Fin 2) (r : Fin 256), (b.val * 128 + r.val / 2) &&& 85 = r.val / 2 &&& 85 := by decide +kernel
theorem low51 : ∀ (b : Fin 4) (r : Fin 256), (b.val * 64 + r.val / 4) &&& 51 = r.val / 4 &&& 51 := by decide +kernel
theorem low15 : ∀ r : Fin 256, r.val &&& 15 = r.val % 16 := by decide +kernel
theorem t1_lt : ∀ r : Fin 256, t1 r.val < 256 := by decide +kernel
theorem t2_t1 : ∀ r : Fin 256, t2 (t1 r.val) % 16 ≤ 4 ∧ t2 (t1 r.val) ≤ 68 ∧ (t2 (t1 r.val) / 16 + t2 (t1 r.val)) % 16 = pcl 8 r.val := by decide +kernel

theorem T1_step (k q r : Nat) (hr : r < 256) : T1 (k + 1) (256 * q + r) = 256 * T1 k q + t1 r := by
  unfold T1 t1
  rw [and_rep _ _ _ (by decide), and_rep _ _ _ (by decide)]
  have e1 : (256 * q + r) / 2 / 256 = q / 2 := by omega
  have e2 : (256 * q + r) / 2 % 256 = (q % 2) * 128 + r / 2 := by omega
  have e3 : (256 * q + r) / 256 = q := by omega
  have e4 : (256 * q + r) % 256 = r := by omega
  have l := low85 ⟨q % 2, by omega⟩ ⟨r, hr⟩
  simp only at l
  rw [e1, e2, e3, e4, l]
  omega

theorem T2_step (k q r : Nat) (hr : r < 256) : T2 (k + 1) (256 * q + r) = 256 * T2 k q + t2 r := by
  unfold T2 t2
  rw [and_rep _ _ _ (by decide), and_rep _ _ _ (by decide)]
  have e1 : (256 * q + r) / 4 / 256 = q / 4 := by omega
  have e2 : (256 * q + r) / 4 % 256 = (q % 4) * 64 + r / 4 := by omega
  have e3 : (256 * q + r) / 256 = q := by omega
  have e4 : (256 * q + r) % 256 = r := by omega
  have l := low51 ⟨q % 4, by omega⟩ ⟨r, hr⟩
  simp only at l
  rw [e1, e2, e3, e4, l]
  omega

theorem T3_step (k q r : Nat) (hr : r ≤ 68) (hq : q % 16 ≤ 4) : T3 (k + 1) (256 * q + r) = 256 * T3 k q + (r / 16 + r) % 16 := by
  unfold T3
  rw [and_rep _ _ _ (by decide)]
  have e1 : ((256 * q + r) / 16 + (256 * q + r)) / 256 = q / 16 + q := by omega
  have e2 : ((256 * q + r) / 16 + (256 * q + r)) % 256 % 16 = (r / 16 + r) % 16 := by omega
  have e3 : ((256 * q + r) / 16 + (256 * q + r)) % 256 < 256 := Nat.mod_lt _ (by decide)
  have l := low15 ⟨_, e3⟩
  simp only at l
  rw [e1, l, e2]

/-- The bytes' counts, side by side. -/
def sums : Nat → Nat → Nat
  | 0, _ => 0
  | k + 1, x => 256 * sums k (x / 256) + pcl 8 (x % 256)

theorem swar_low (k x : Nat) : T2 k (T1 k x) % 16 ≤ 4 := by
  cases k with
  | zero => simp [T2, T1, rep]
  | succ k =>
    have hx : x = 256 * (x / 256) + x % 256 := by omega
    have hr : x % 256 < 256 := Nat.mod_lt _ (by decide)
    have l := (t2_t1 ⟨_, hr⟩).1
    simp only at l
    rw [hx, T1_step _ _ _ hr, T2_step _ _ _ (t1_lt ⟨_, hr⟩)]
    show (256 * T2 k (T1 k (x / 256)) + t2 (t1 (x % 256))) % 16 ≤ 4
    omega

theorem swar (k : Nat) : ∀ x, T3 k (T2 k (T1 k x)) = sums k x := by
  induction k with
  | zero => intro x; simp [T3, rep, sums]
  | succ k ih =>
    intro x
    have hx : x = 256 * (x / 256) + x % 256 := by omega
    have hr : x % 256 < 256 := Nat.mod_lt _ (by decide)
    have ht := t2_t1 ⟨_, hr⟩
    simp only at ht
    rw [sums, ← ih (x / 256), ← ht.2.2]
    conv => lhs; rw [hx]
    rw [T1_step _ _ _ hr, T2_step _ _ _ (t1_lt ⟨_, hr⟩), T3_step _ _ _ ht.2.1 (swar_low k _)]

theorem T1_bound (k : Nat) : ∀ x, T1 k x < 256 ^ k := by
  induction k with
  | zero => intro x; simp [T1, rep]
  | succ k ih =>
    intro x
    have hx : x = 256 * (x / 256) + x % 256 := by omega
    have hr : x % 256 < 256 := Nat.mod_lt _ (by decide)
    rw [hx, T1_step _ _ _ hr, Nat.pow_succ]
    have := ih (x / 256)
    have := t1_lt ⟨_, hr⟩
    simp only at this
    omega

theorem swar_bound (k : Nat) : ∀ x, T2 k (T1 k x) ≤ rep 68 k := by
  induction k with
  | zero => intro x; simp [T2, T1, rep]
  | succ k ih =>
    intro x
    have hx : x = 256 * (x / 256) + x % 256 := by omega
    have hr : x % 256 < 256 := Nat.mod_lt _ (by decide)
    have ht := (t2_t1 ⟨_, hr⟩).2.1
    simp only at ht
    rw [hx, T1_step _ _ _ hr, T2_step _ _ _ (t1_lt ⟨_, hr⟩), rep]
    have := ih (x / 256)
    show 256 * T2 k (T1 k (x / 256)) + t2 (t1 (x % 256)) ≤ _
    omega

theorem div_of (A B c : Nat) (hc : 0 < c) (h : A < c) : (A + c * B) / c = B := by
  rw [Nat.add_mul_div_left _ _ hc, Nat.div_eq_of_lt h, Nat.zero_add]

theorem fold_a (p0 p1 p2 p3 p4 p5 p6 p7 u v : Nat) (h0 : p0 ≤ 8)
    (hu : u = p0 + 256 * (p1 + 256 * (p2 + 256 * (p3 + 256 * (p4 + 256 * (p5 + 256 * (p6 + 256 * p7))))))) (hv : v = u + u / 256) :
    v = ((p0 + p1) + 256 * (p1 + p2)) + 65536 * ((p2 + p3) + 256 * ((p3 + p4) + 256 * ((p4 + p5) + 256 * ((p5 + p6) + 256 * ((p6 + p7) + 256 * p7))))) := by
  have e1 : u / 256 = p1 + 256 * (p2 + 256 * (p3 + 256 * (p4 + 256 * (p5 + 256 * (p6 + 256 * p7))))) := by
    rw [hu]; exact div_of _ _ 256 (by decide) (by omega)
  rw [hv, e1, hu]
  clear e1 hu hv h0
  omega

theorem fold_b (p0 p1 p2 p3 p4 p5 p6 p7 v w : Nat) (h0 : p0 ≤ 8) (h1 : p1 ≤ 8) (h2 : p2 ≤ 8)
    (hv : v = ((p0 + p1) + 256 * (p1 + p2)) + 65536 * ((p2 + p3) + 256 * ((p3 + p4) + 256 * ((p4 + p5) + 256 * ((p5 + p6) + 256 * ((p6 + p7) + 256 * p7)))))) (hw : w = v + v / 65536) :
    w = ((p0 + p1 + p2 + p3) + 256 * ((p1 + p2 + p3 + p4) + 256 * ((p2 + p3 + p4 + p5) + 256 * (p3 + p4 + p5 + p6)))) + 4294967296 * ((p4 + p5 + p6 + p7) + 256 * ((p5 + p6 + p7) + 256 * ((p6 + p7) + 256 * p7))) := by
  have e2 : v / 65536 = (p2 + p3) + 256 * ((p3 + p4) + 256 * ((p4 + p5) + 256 * ((p5 + p6) + 256 * ((p6 + p7) + 256 * p7)))) := by
    rw [hv]; exact div_of _ _ 65536 (by decide) (by omega)
  rw [hw, e2, hv]
  clear e2 hv hw h0 h1 h2
  omega

theorem fold_c (p0 p1 p2 p3 p4 p5 p6 p7 w y : Nat) (h0 : p0 ≤ 8) (h1 : p1 ≤ 8) (h2 : p2 ≤ 8) (h3 : p3 ≤ 8) (h4 : p4 ≤ 8) (h5 : p5 ≤ 8) (h6 : p6 ≤ 8)
    (hw : w = ((p0 + p1 + p2 + p3) + 256 * ((p1 + p2 + p3 + p4) + 256 * ((p2 + p3 + p4 + p5) + 256 * (p3 + p4 + p5 + p6)))) + 4294967296 * ((p4 + p5 + p6 + p7) + 256 * ((p5 + p6 + p7) + 256 * ((p6 + p7) + 256 * p7)))) (hy : y = w + w / 4294967296) :
    y = (p0 + p1 + p2 + p3 + p4 + p5 + p6 + p7) + 256 * ((p1 + p2 + p3 + p4 + p5 + p6 + p7) + 256 * ((p2 + p3 + p4 + p5 + p6 + p7) + 256 * ((p3 + p4 + p5 + p6 + p7) + 256 * ((p4 + p5 + p6 + p7) + 256 * ((p5 + p6 + p7) + 256 * ((p6 + p7) + 256 * p7)))))) := by
  have e3 : w / 4294967296 = (p4 + p5 + p6 + p7) + 256 * ((p5 + p6 + p7) + 256 * ((p6 + p7) + 256 * p7)) := by
    rw [hw]; exact div_of _ _ 4294967296 (by decide) (by omega)
  rw [hy, e3, hw]
  clear e3 hw hy h0 h1 h2 h3 h4 h5 h6
  omega

theorem fold_sum (p0 p1 p2 p3 p4 p5 p6 p7 : Nat) (h0 : p0 ≤ 8) (h1 : p1 ≤ 8) (h2 : p2 ≤ 8) (h3 : p3 ≤ 8) (h4 : p4 ≤ 8) (h5 : p5 ≤ 8) (h6 : p6 ≤ 8) (h7 : p7 ≤ 8)
    (u v w y : Nat) (hu : u = p0 + 256 * (p1 + 256 * (p2 + 256 * (p3 + 256 * (p4 + 256 * (p5 + 256 * (p6 + 256 * p7)))))))
    (hv : v = u + u / 256) (hw : w = v + v / 65536) (hy : y = w + w / 4294967296) :
    v < 18446744073709551616 ∧ w < 18446744073709551616 ∧ y < 9223372036854775808 ∧ y % 128 = p0 + p1 + p2 + p3 + p4 + p5 + p6 + p7 := by
  have ev := fold_a p0 p1 p2 p3 p4 p5 p6 p7 u v h0 hu hv
  have ew := fold_b p0 p1 p2 p3 p4 p5 p6 p7 v w h0 h1 h2 ev hw
  have ey := fold_c p0 p1 p2 p3 p4 p5 p6 p7 w y h0 h1 h2 h3 h4 h5 h6 ew hy
  clear hu hv
  have b2 : y < 9223372036854775808 := by
    clear ev ew hw hy
    omega
  have b1 : w ≤ y := by rw [hy]; exact Nat.le_add_right _ _
  have b0 : v ≤ w := by rw [hw]; exact Nat.le_add_right _ _
  refine ⟨by omega, by omega, b2, ?_⟩
  clear b0 b1 b2 ev ew hw hy
  generalize hB : (p1 + p2 + p3 + p4 + p5 + p6 + p7) + 256 * ((p2 + p3 + p4 + p5 + p6 + p7) + 256 * ((p3 + p4 + p5 + p6 + p7) + 256 * ((p4 + p5 + p6 + p7) + 256 * ((p5 + p6 + p7) + 256 * ((p6 + p7) + 256 * p7))))) = B at ey
  clear hB
  omega
end Go.Proofs.Ytnfhfilconcajaa
