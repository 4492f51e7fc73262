/-
  Joined: PlainCount, WPartPlain, PlainOnes, WDigits.
-/
import Derived.Test.YtggebkcmokpcmaaZBHit01
import Derived.Test.YtggebkcmokpcmaaZBHit05
import Derived.Test.YtggebkcmokpcmaaRows
import Derived.WalkLawsBesides
import Derived.WalkSpells
import Derived.Lib.Hide
section
namespace Go.Proofs.Ytggebkcmokpcmaa
open Go.RowKit
set_option maxRecDepth 100000

/-- 2^(i+1) - 1. -/
def sp : Nat → Nat
  | 0 => 1
  | i + 1 => 2 * sp i + 1
theorem sp_pow (i : Nat) : sp i + 1 = 2 ^ (i + 1) := by
  induction i with
  | zero => rfl
  | succ i ih => rw [sp, Nat.pow_succ, ← ih]; omega
theorem sp_gt (i : Nat) : i < sp i := by
  induction i with
  | zero => decide
  | succ i ih => rw [sp]; omega
theorem sp_mono (i j : Nat) : sp i ≤ sp (i + j) := by
  induction j with
  | zero => exact Nat.le_refl _
  | succ j ih => rw [← Nat.add_assoc, sp]; omega

/-- One number of the row, and m of them from p on. -/
def upd (p : Nat) (xs : List Int) (n : Nat) : List Int := xs.set n (wrap64 (xs[n]?.getD 0 + xs[n - p]?.getD 0))
def cpRow (p : Nat) (xs : List Int) : Nat → List Int
  | 0 => xs
  | m + 1 => upd p (cpRow p xs m) (p + m)
theorem cpRow_length (p : Nat) (xs : List Int) (m : Nat) : (cpRow p xs m).length = xs.length := by
  induction m with
  | zero => rfl
  | succ m ih => rw [cpRow, upd, List.length_set, ih]

/-- The row behind i weights. -/
def cpTo (d : Nat) : Nat → List Int
  | 0 => 1 :: List.replicate d 0
  | i + 1 => cpRow (sp i) (cpTo d i) (d + 1 - sp i)
theorem cpTo_length (d i : Nat) : (cpTo d i).length = d + 1 := by
  induction i with
  | zero => simp [cpTo]
  | succ i ih => rw [cpTo, cpRow_length, ih]
theorem cpTo_stop (d i : Nat) (h : d < sp i) (j : Nat) : cpTo d (i + j) = cpTo d i := by
  induction j with
  | zero => rfl
  | succ j ih =>
    have := sp_mono i j
    rw [← Nat.add_assoc, cpTo, show d + 1 - sp (i + j) = 0 by omega, cpRow, ih]
theorem cpTo_end (d i k : Nat) (h : d < sp i) (hk : i ≤ k) : cpTo d i = cpTo d k := by
  obtain ⟨j, rfl⟩ : ∃ j, k = i + j := ⟨k - i, by omega⟩
  exact (cpTo_stop d i h j).symm
theorem map_upd (p : Nat) (xs : List Int) (n : Nat) : (upd p xs n).map (Value.int .i64) = (xs.map (Value.int .i64)).set n (.int .i64 (wrap64 (xs[n]?.getD 0 + xs[n - p]?.getD 0))) := by
  rw [upd, List.map_set]
end Go.Proofs.Ytggebkcmokpcmaa
end
section
namespace Go.Proofs.Ytggebkcmokpcmaa
open Go.RowKit
set_option maxRecDepth 100000
set_option linter.unusedVariables false

/-- How many exponents of the weight p fit into d. -/
def cnt (d p : Nat) : Nat := if p ≤ d then d / p + 1 else 0

/-- All exponent lists that begin with zs and whose others have the degree d, at most f others. -/
def parts : Nat → List Int → Nat → List (List Int)
  | 0, zs, d => if d = 0 then [zs] else []
  | f + 1, zs, d => if d = 0 then [zs] else (List.range (cnt d (sp zs.length))).flatMap fun (r : Nat) => parts f (zs ++ [(r : Int)]) (d - r * sp zs.length)

/-- The same, the first j exponents alone. -/
def partsTo (f : Nat) (zs : List Int) (d j : Nat) : List (List Int) := (List.range j).flatMap fun (r : Nat) => parts f (zs ++ [(r : Int)]) (d - r * sp zs.length)
theorem partsTo_zero (f : Nat) (zs : List Int) (d : Nat) : partsTo f zs d 0 = [] := rfl
theorem partsTo_succ (f : Nat) (zs : List Int) (d j : Nat) : partsTo f zs d (j + 1) = partsTo f zs d j ++ parts f (zs ++ [(j : Int)]) (d - j * sp zs.length) := by
  unfold partsTo
  rw [List.range_succ, List.flatMap_append]
  simp
theorem parts_zero (f : Nat) (zs : List Int) : parts f zs 0 = [zs] := by
  cases f <;> simp [parts]
theorem parts_succ (f : Nat) (zs : List Int) (d : Nat) (h : 0 < d) : parts (f + 1) zs d = partsTo f zs d (cnt d (sp zs.length)) := by
  rw [parts, if_neg (by omega)]
  rfl
theorem parts_none (f : Nat) (zs : List Int) (d : Nat) (h : 0 < d) (hp : d < sp zs.length) : parts f zs d = [] := by
  cases f with
  | zero => rw [parts, if_neg (by omega)]
  | succ f => rw [parts_succ _ _ _ h, show cnt d (sp zs.length) = 0 by unfold cnt; rw [if_neg (by omega)]]; rfl

theorem sp_pos (i : Nat) : 0 < sp i := by have := sp_gt i; omega

/-- Whether j exponents more fit. -/
theorem cnt_le (d p j : Nat) (hp : 0 < p) (hd : p ≤ d) : j < cnt d p ↔ j * p ≤ d := by
  unfold cnt
  rw [if_pos hd]
  constructor
  · intro h
    exact (Nat.le_div_iff_mul_le hp).1 (by omega)
  · intro h
    have := (Nat.le_div_iff_mul_le hp).2 h
    omega
theorem cnt_eq (d p j : Nat) (hp : 0 < p) (hd : p ≤ d) (h : j * p = d) : cnt d p = j + 1 := by
  unfold cnt
  rw [if_pos hd, ← h, Nat.mul_div_cancel _ hp]

theorem partsTo_len (f : Nat) (N : Nat) (h : ∀ zs d, d ≤ 40 → (parts f zs d).length ≤ N) (zs : List Int) (d : Nat) (hd : d ≤ 40) (j : Nat) : (partsTo f zs d j).length ≤ j * N := by
  induction j with
  | zero => simp [partsTo_zero]
  | succ j ih =>
    rw [partsTo_succ, List.length_append, Nat.succ_mul]
    have := h (zs ++ [(j : Int)]) (d - j * sp zs.length) (by omega)
    omega
theorem parts_len (f : Nat) : ∀ (zs : List Int) (d : Nat), d ≤ 40 → (parts f zs d).length ≤ 41 ^ f := by
  induction f with
  | zero => intro zs d _; rw [parts]; split <;> simp
  | succ f ih =>
    intro zs d hd
    by_cases h0 : d = 0
    · subst h0
      rw [parts_zero]
      exact Nat.pow_pos (by decide)
    · rw [parts_succ _ _ _ (by omega)]
      have h1 := partsTo_len f (41 ^ f) ih zs d hd (cnt d (sp zs.length))
      have h2 : cnt d (sp zs.length) ≤ 41 := by
        unfold cnt
        split
        · have : d / sp zs.length ≤ d := Nat.div_le_self _ _
          omega
        · omega
      have h3 : cnt d (sp zs.length) * 41 ^ f ≤ 41 * 41 ^ f := Nat.mul_le_mul_right _ h2
      rw [Nat.pow_succ]
      omega

end Go.Proofs.Ytggebkcmokpcmaa
end
section
namespace Go.Proofs.Ytggebkcmokpcmaa
open Go.RowKit
set_option maxRecDepth 100000

/-- The places below k of the digits 1 of n. -/
def dg (n : Nat) : Nat → List Int
  | 0 => []
  | k + 1 => dg n k ++ (if n / 2 ^ k % 2 = 1 then [(k : Int)] else [])

/-- How many of the k lowest digits are 1. -/
def pcl : Nat → Nat → Nat
  | 0, _ => 0
  | k + 1, x => x % 2 + pcl k (x / 2)

theorem pcl_succ (k : Nat) : ∀ x, pcl (k + 1) x = pcl k x + x / 2 ^ k % 2 := by
  induction k with
  | zero => intro x; simp [pcl]
  | succ k ih =>
    intro x
    rw [pcl, ih (x / 2), pcl, Nat.div_div_eq_div_mul, show 2 * 2 ^ k = 2 ^ (k + 1) by rw [Nat.pow_succ]; omega]
    omega

theorem dg_length (n k : Nat) : (dg n k).length = pcl k n := by
  induction k with
  | zero => rfl
  | succ k ih =>
    rw [dg, List.length_append, ih, pcl_succ]
    by_cases h : n / 2 ^ k % 2 = 1
    · rw [if_pos h, h]; rfl
    · rw [if_neg h]
      have : n / 2 ^ k % 2 = 0 := by omega
      rw [this]; rfl

theorem dg_stop (n k : Nat) (h : n / 2 ^ k = 0) (j : Nat) : dg n (k + j) = dg n k := by
  induction j with
  | zero => rfl
  | succ j ih =>
    have hz : n / 2 ^ (k + j) = 0 := by rw [Nat.pow_add, ← Nat.div_div_eq_div_mul, h, Nat.zero_div]
    rw [← Nat.add_assoc, dg, hz, if_neg (by decide), ih, List.append_nil]

theorem pcl_le (k : Nat) : ∀ x, pcl k x ≤ k := by
  induction k with
  | zero => intro x; exact Nat.le_refl _
  | succ k ih => intro x; rw [pcl]; have := ih (x / 2); omega

theorem pcl_add (j : Nat) : ∀ (k x : Nat), pcl (j + k) x = pcl j x + pcl k (x / 2 ^ j) := by
  induction j with
  | zero => intro k x; simp [pcl]
  | succ j ih =>
    intro k x
    rw [show j + 1 + k = (j + k) + 1 by omega, pcl, ih, pcl, Nat.div_div_eq_div_mul, show 2 * 2 ^ j = 2 ^ (j + 1) by rw [Nat.pow_succ]; omega]
    omega

theorem pcl_mod (j : Nat) : ∀ x, pcl j (x % 2 ^ j) = pcl j x := by
  induction j with
  | zero => intro x; rfl
  | succ j ih =>
    intro x
    rw [pcl, pcl]
    have e1 : x % 2 ^ (j + 1) % 2 = x % 2 := by
      rw [Nat.pow_succ]; exact Nat.mod_mul_left_mod _ _ _
    have e2 : x % 2 ^ (j + 1) / 2 = x / 2 % 2 ^ j := by
      rw [Nat.pow_succ, Nat.mul_comm]; exact Nat.mod_mul_right_div_self x 2 (2 ^ j)
    rw [e1, e2, ih]

/-! ### Masks of k bytes -/
def rep (m : Nat) : Nat → Nat
  | 0 => 0
  | k + 1 => 256 * rep m k + m

theorem and_rep (a m k : Nat) (hm : m < 256) : a &&& rep m (k + 1) = 256 * (a / 256 &&& rep m k) + (a % 256 &&& m) := by
  have h1 : (a &&& rep m (k + 1)) / 2 ^ 8 = a / 2 ^ 8 &&& rep m (k + 1) / 2 ^ 8 := Nat.and_div_two_pow
  have h2 : (a &&& rep m (k + 1)) % 2 ^ 8 = (a % 2 ^ 8) &&& (rep m (k + 1) % 2 ^ 8) := Nat.and_mod_two_pow
  have e1 : rep m (k + 1) / 2 ^ 8 = rep m k := by rw [rep]; omega
  have e2 : rep m (k + 1) % 2 ^ 8 = m := by rw [rep]; omega
  rw [e1] at h1
  rw [e2] at h2
  have h3 := Nat.div_add_mod (a &&& rep m (k + 1)) (2 ^ 8)
  rw [h1, h2] at h3
  exact h3.symm

def t1 (r : Nat) : Nat := (r / 2 &&& 85) + (r &&& 85)
def t2 (r : Nat) : Nat := (r / 4 &&& 51) + (r &&& 51)
def T1 (k x : Nat) : Nat := (x / 2 &&& rep 85 k) + (x &&& rep 85 k)
def T2 (k x : Nat) : Nat := (x / 4 &&& rep 51 k) + (x &&& rep 51 k)
def T3 (k x : Nat) : Nat := (x / 16 + x) &&& rep 15 k

theorem low85 : ∀ (b : Fin 2) (r : Fin 256), (b.val * 128 + r.val / 2) &&& 85 = r.val / 2 &&& 85 := by decide +kernel
theorem low51 : ∀ (b : Fin 4) (r : Fin 256), (b.val * 64 + r.val / 4) &&& 51 = r.val / 4 &&& 51 := by decide +kernel
theorem low15 : ∀ r : Fin 256, r.val &&& 15 = r.val % 16 := by decide +kernel
theorem t1_lt : ∀ r : Fin 256, t1 r.val < 256 := by decide +kernel
theorem t2_t1 : ∀ r : Fin 256, t2 (t1 r.val) % 16 ≤ 4 ∧ t2 (t1 r.val) ≤ 68 ∧ (t2 (t1 r.val) / 16 + t2 (t1 r.val)) % 16 = pcl 8 r.val := by decide +kernel

theorem T1_step (k q r : Nat) (hr : r < 256) : T1 (k + 1) (256 * q + r) = 256 * T1 k q + t1 r := by
  unfold T1 t1
  rw [and_rep _ _ _ (by decide), and_rep _ _ _ (by decide)]
  have e1 : (256 * q + r) / 2 / 256 = q / 2 := by omega
  have e2 : (256 * q + r) / 2 % 256 = (q % 2) * 128 + r / 2 := by omega
  have e3 : (256 * q + r) / 256 = q := by omega
  have e4 : (256 * q + r) % 256 = r := by omega
  have l := low85 ⟨q % 2, by omega⟩ ⟨r, hr⟩
  simp only at l
  rw [e1, e2, e3, e4, l]
  omega

theorem T2_step (k q r : Nat) (hr : r < 256) : T2 (k + 1) (256 * q + r) = 256 * T2 k q + t2 r := by
  unfold T2 t2
  rw [and_rep _ _ _ (by decide), and_rep _ _ _ (by decide)]
  have e1 : (256 * q + r) / 4 / 256 = q / 4 := by omega
  have e2 : (256 * q + r) / 4 % 256 = (q % 4) * 64 + r / 4 := by omega
  have e3 : (256 * q + r) / 256 = q := by omega
  have e4 : (256 * q + r) % 256 = r := by omega
  have l := low51 ⟨q % 4, by omega⟩ ⟨r, hr⟩
  simp only at l
  rw [e1, e2, e3, e4, l]
  omega

theorem T3_step (k q r : Nat) (hr : r ≤ 68) (hq : q % 16 ≤ 4) : T3 (k + 1) (256 * q + r) = 256 * T3 k q + (r / 16 + r) % 16 := by
  unfold T3
  rw [and_rep _ _ _ (by decide)]
  have e1 : ((256 * q + r) / 16 + (256 * q + r)) / 256 = q / 16 + q := by omega
  have e2 : ((256 * q + r) / 16 + (256 * q + r)) % 256 % 16 = (r / 16 + r) % 16 := by omega
  have e3 : ((256 * q + r) / 16 + (256 * q + r)) % 256 < 256 := Nat.mod_lt _ (by decide)
  have l := low15 ⟨_, e3⟩
  simp only at l
  rw [e1, l, e2]

/-- The bytes' counts, side by side. -/
def sums : Nat → Nat → Nat
  | 0, _ => 0
  | k + 1, x => 256 * sums k (x / 256) + pcl 8 (x % 256)

theorem swar_low (k x : Nat) : T2 k (T1 k x) % 16 ≤ 4 := by
  cases k with
  | zero => simp [T2, T1, rep]
  | succ k =>
    have hx : x = 256 * (x / 256) + x % 256 := by omega
    have hr : x % 256 < 256 := Nat.mod_lt _ (by decide)
    have l := (t2_t1 ⟨_, hr⟩).1
    simp only at l
    rw [hx, T1_step _ _ _ hr, T2_step _ _ _ (t1_lt ⟨_, hr⟩)]
    show (256 * T2 k (T1 k (x / 256)) + t2 (t1 (x % 256))) % 16 ≤ 4
    omega

theorem swar (k : Nat) : ∀ x, T3 k (T2 k (T1 k x)) = sums k x := by
  induction k with
  | zero => intro x; simp [T3, rep, sums]
  | succ k ih =>
    intro x
    have hx : x = 256 * (x / 256) + x % 256 := by omega
    have hr : x % 256 < 256 := Nat.mod_lt _ (by decide)
    have ht := t2_t1 ⟨_, hr⟩
    simp only at ht
    rw [sums, ← ih (x / 256), ← ht.2.2]
    conv => lhs; rw [hx]
    rw [T1_step _ _ _ hr, T2_step _ _ _ (t1_lt ⟨_, hr⟩), T3_step _ _ _ ht.2.1 (swar_low k _)]

theorem T1_bound (k : Nat) : ∀ x, T1 k x < 256 ^ k := by
  induction k with
  | zero => intro x; simp [T1, rep]
  | succ k ih =>
    intro x
    have hx : x = 256 * (x / 256) + x % 256 := by omega
    have hr : x % 256 < 256 := Nat.mod_lt _ (by decide)
    rw [hx, T1_step _ _ _ hr, Nat.pow_succ]
    have := ih (x / 256)
    have := t1_lt ⟨_, hr⟩
    simp only at this
    omega

theorem swar_bound (k : Nat) : ∀ x, T2 k (T1 k x) ≤ rep 68 k := by
  induction k with
  | zero => intro x; simp [T2, T1, rep]
  | succ k ih =>
    intro x
    have hx : x = 256 * (x / 256) + x % 256 := by omega
    have hr : x % 256 < 256 := Nat.mod_lt _ (by decide)
    have ht := (t2_t1 ⟨_, hr⟩).2.1
    simp only at ht
    rw [hx, T1_step _ _ _ hr, T2_step _ _ _ (t1_lt ⟨_, hr⟩), rep]
    have := ih (x / 256)
    show 256 * T2 k (T1 k (x / 256)) + t2 (t1 (x % 256)) ≤ _
    omega

theorem div_of (A B c : Nat) (hc : 0 < c) (h : A < c) : (A + c * B) / c = B := by
  rw [Nat.add_mul_div_left _ _ hc, Nat.div_eq_of_lt h, Nat.zero_add]

theorem fold_a (p0 p1 p2 p3 p4 p5 p6 p7 u v : Nat) (h0 : p0 ≤ 8)
    (hu : u = p0 + 256 * (p1 + 256 * (p2 + 256 * (p3 + 256 * (p4 + 256 * (p5 + 256 * (p6 + 256 * p7))))))) (hv : v = u + u / 256) :
    v = ((p0 + p1) + 256 * (p1 + p2)) + 65536 * ((p2 + p3) + 256 * ((p3 + p4) + 256 * ((p4 + p5) + 256 * ((p5 + p6) + 256 * ((p6 + p7) + 256 * p7))))) := by
  have e1 : u / 256 = p1 + 256 * (p2 + 256 * (p3 + 256 * (p4 + 256 * (p5 + 256 * (p6 + 256 * p7))))) := by
    rw [hu]; exact div_of _ _ 256 (by decide) (by omega)
  rw [hv, e1, hu]
  clear e1 hu hv h0
  omega

theorem fold_b (p0 p1 p2 p3 p4 p5 p6 p7 v w : Nat) (h0 : p0 ≤ 8) (h1 : p1 ≤ 8) (h2 : p2 ≤ 8)
    (hv : v = ((p0 + p1) + 256 * (p1 + p2)) + 65536 * ((p2 + p3) + 256 * ((p3 + p4) + 256 * ((p4 + p5) + 256 * ((p5 + p6) + 256 * ((p6 + p7) + 256 * p7)))))) (hw : w = v + v / 65536) :
    w = ((p0 + p1 + p2 + p3) + 256 * ((p1 + p2 + p3 + p4) + 256 * ((p2 + p3 + p4 + p5) + 256 * (p3 + p4 + p5 + p6)))) + 4294967296 * ((p4 + p5 + p6 + p7) + 256 * ((p5 + p6 + p7) + 256 * ((p6 + p7) + 256 * p7))) := by
  have e2 : v / 65536 = (p2 + p3) + 256 * ((p3 + p4) + 256 * ((p4 + p5) + 256 * ((p5 + p6) + 256 * ((p6 + p7) + 256 * p7)))) := by
    rw [hv]; exact div_of _ _ 65536 (by decide) (by omega)
  rw [hw, e2, hv]
  clear e2 hv hw h0 h1 h2
  omega

theorem fold_c (p0 p1 p2 p3 p4 p5 p6 p7 w y : Nat) (h0 : p0 ≤ 8) (h1 : p1 ≤ 8) (h2 : p2 ≤ 8) (h3 : p3 ≤ 8) (h4 : p4 ≤ 8) (h5 : p5 ≤ 8) (h6 : p6 ≤ 8)
    (hw : w = ((p0 + p1 + p2 + p3) + 256 * ((p1 + p2 + p3 + p4) + 256 * ((p2 + p3 + p4 + p5) + 256 * (p3 + p4 + p5 + p6)))) + 4294967296 * ((p4 + p5 + p6 + p7) + 256 * ((p5 + p6 + p7) + 256 * ((p6 + p7) + 256 * p7)))) (hy : y = w + w / 4294967296) :
    y = (p0 + p1 + p2 + p3 + p4 + p5 + p6 + p7) + 256 * ((p1 + p2 + p3 + p4 + p5 + p6 + p7) + 256 * ((p2 + p3 + p4 + p5 + p6 + p7) + 256 * ((p3 + p4 + p5 + p6 + p7) + 256 * ((p4 + p5 + p6 + p7) + 256 * ((p5 + p6 + p7) + 256 * ((p6 + p7) + 256 * p7)))))) := by
  have e3 : w / 4294967296 = (p4 + p5 + p6 + p7) + 256 * ((p5 + p6 + p7) + 256 * ((p6 + p7) + 256 * p7)) := by
    rw [hw]; exact div_of _ _ 4294967296 (by decide) (by omega)
  rw [hy, e3, hw]
  clear e3 hw hy h0 h1 h2 h3 h4 h5 h6
  omega

theorem fold_sum (p0 p1 p2 p3 p4 p5 p6 p7 : Nat) (h0 : p0 ≤ 8) (h1 : p1 ≤ 8) (h2 : p2 ≤ 8) (h3 : p3 ≤ 8) (h4 : p4 ≤ 8) (h5 : p5 ≤ 8) (h6 : p6 ≤ 8) (h7 : p7 ≤ 8)
    (u v w y : Nat) (hu : u = p0 + 256 * (p1 + 256 * (p2 + 256 * (p3 + 256 * (p4 + 256 * (p5 + 256 * (p6 + 256 * p7)))))))
    (hv : v = u + u / 256) (hw : w = v + v / 65536) (hy : y = w + w / 4294967296) :
    v < 18446744073709551616 ∧ w < 18446744073709551616 ∧ y < 9223372036854775808 ∧ y % 128 = p0 + p1 + p2 + p3 + p4 + p5 + p6 + p7 := by
  have ev := fold_a p0 p1 p2 p3 p4 p5 p6 p7 u v h0 hu hv
  have ew := fold_b p0 p1 p2 p3 p4 p5 p6 p7 v w h0 h1 h2 ev hw
  have ey := fold_c p0 p1 p2 p3 p4 p5 p6 p7 w y h0 h1 h2 h3 h4 h5 h6 ew hy
  clear hu hv
  have b2 : y < 9223372036854775808 := by
    clear ev ew hw hy
    omega
  have b1 : w ≤ y := by rw [hy]; exact Nat.le_add_right _ _
  have b0 : v ≤ w := by rw [hw]; exact Nat.le_add_right _ _
  refine ⟨by omega, by omega, b2, ?_⟩
  clear b0 b1 b2 ev ew hw hy
  generalize hB : (p1 + p2 + p3 + p4 + p5 + p6 + p7) + 256 * ((p2 + p3 + p4 + p5 + p6 + p7) + 256 * ((p3 + p4 + p5 + p6 + p7) + 256 * ((p4 + p5 + p6 + p7) + 256 * ((p5 + p6 + p7) + 256 * ((p6 + p7) + 256 * p7))))) = B at ey
  clear hB
  omega
end Go.Proofs.Ytggebkcmokpcmaa
end
section
namespace Go.Proofs.Ytggebkcmokpcmaa
open Go.RowKit
set_option maxRecDepth 100000
set_option linter.unusedVariables false

theorem dg_next (n i m : Nat) (h : m = n / 2 ^ i) (l : List Int) (hl : l = dg n i) : (m % 2 = 1 → l ++ [(i : Int)] = dg n (i + 1)) ∧ (m % 2 = 0 → l = dg n (i + 1)) ∧ m / 2 = n / 2 ^ (i + 1) := by
  subst h hl
  refine ⟨fun h => ?_, fun h => ?_, ?_⟩
  · rw [dg, if_pos h]
  · rw [dg, if_neg (by omega), List.append_nil]
  · rw [Nat.div_div_eq_div_mul, Nat.pow_succ]

theorem i_lt (n i m : Nat) (h : m = n / 2 ^ i) (hn : n < 9223372036854775808) (hm : 0 < m) : i < 63 := by
  apply Decidable.byContradiction
  intro hc
  have : 2 ^ 63 ≤ 2 ^ i := Nat.pow_le_pow_right (by decide) (by omega)
  have : n / 2 ^ i = 0 := Nat.div_eq_of_lt (by omega)
  omega

theorem dg_end (n i m : Nat) (h : m = n / 2 ^ i) (hi : i ≤ 64) (hm : m = 0) : dg n i = dg n 64 := by
  have e : 64 = i + (64 - i) := by omega
  rw [e, dg_stop n i (by omega)]

end Go.Proofs.Ytggebkcmokpcmaa
end
