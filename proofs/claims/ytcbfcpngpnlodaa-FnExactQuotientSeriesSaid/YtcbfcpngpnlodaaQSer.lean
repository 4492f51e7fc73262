/-
  Plain: series of integers, and what multiplies them by 1 + x^k, by 1 - x^k and by 1 / (1 - x^k).
-/
import Derived.Test.YtcbfcpngpnlodaaPlainBits
namespace Go.Proofs.Ytcbfcpngpnlodaa
set_option maxRecDepth 100000
set_option linter.unusedVariables false

/-- The series moved up by k. -/
def shS (k : Nat) (s : Nat → Int) (n : Nat) : Int := if k ≤ n then s (n - k) else 0
def mulS (k : Nat) (s : Nat → Int) (n : Nat) : Int := s n + shS k s n
def excS (k : Nat) (s : Nat → Int) (n : Nat) : Int := s n - shS k s n
def admS (k : Nat) (s : Nat → Int) (n : Nat) : Int := if h : 0 < k ∧ k ≤ n then s n + admS k s (n - k) else s n
termination_by n
decreasing_by omega

theorem admS_low {k : Nat} (s : Nat → Int) {n : Nat} (h : n < k) : admS k s n = s n := by
  rw [admS, dif_neg (by omega)]
theorem admS_up {k : Nat} (s : Nat → Int) {n : Nat} (hk : 0 < k) (h : k ≤ n) : admS k s n = s n + admS k s (n - k) := by
  rw [admS, dif_pos ⟨hk, h⟩]
theorem admS_eq {k : Nat} (hk : 0 < k) (s : Nat → Int) (n : Nat) : admS k s n = s n + shS k (admS k s) n := by
  unfold shS
  split
  · exact admS_up s hk (by assumption)
  · rw [admS_low s (by omega)]; omega
theorem exc_adm {k : Nat} (hk : 0 < k) (s : Nat → Int) : excS k (admS k s) = s := by
  funext n
  unfold excS
  rw [admS_eq hk]
  omega
/-- What has the same product with 1 - x^k is the same. -/
theorem exc_inj {k : Nat} (hk : 0 < k) {s t : Nat → Int} (h : excS k s = excS k t) : s = t := by
  funext n
  induction n using Nat.strongRecOn with
  | ind n ih =>
    have h1 := congrFun h n
    unfold excS shS at h1
    by_cases hn : k ≤ n
    · rw [if_pos hn, if_pos hn, ih (n - k) (by omega)] at h1
      omega
    · rw [if_neg hn, if_neg hn] at h1
      omega
theorem adm_exc {k : Nat} (hk : 0 < k) (s : Nat → Int) : admS k (excS k s) = s := exc_inj hk (exc_adm hk _)
theorem sh_sh (a b : Nat) (s : Nat → Int) : shS a (shS b s) = shS (a + b) s := by
  funext n
  unfold shS
  by_cases h1 : a ≤ n
  · rw [if_pos h1]
    by_cases h2 : b ≤ n - a
    · rw [if_pos h2, if_pos (by omega), show n - a - b = n - (a + b) by omega]
    · rw [if_neg h2, if_neg (by omega)]
  · rw [if_neg h1, if_neg (by omega)]
theorem sh_sub (k : Nat) (s t : Nat → Int) (n : Nat) : shS k (fun m => s m - t m) n = shS k s n - shS k t n := by
  unfold shS; split <;> rfl
theorem exc_fun (k : Nat) (s : Nat → Int) : excS k s = fun m => s m - shS k s m := rfl
theorem exc_comm (a b : Nat) (s : Nat → Int) : excS a (excS b s) = excS b (excS a s) := by
  funext n
  have h := congrFun (sh_sh a b s) n
  have h' := congrFun (sh_sh b a s) n
  rw [Nat.add_comm b a] at h'
  show excS b s n - shS a (excS b s) n = excS a s n - shS b (excS a s) n
  rw [exc_fun b, exc_fun a, sh_sub, sh_sub]
  dsimp only
  omega
theorem adm_exc_comm {a : Nat} (ha : 0 < a) (b : Nat) (s : Nat → Int) : admS a (excS b s) = excS b (admS a s) :=
  exc_inj ha (by rw [exc_adm ha, exc_comm, exc_adm ha])
theorem adm_comm {a b : Nat} (ha : 0 < a) (hb : 0 < b) (s : Nat → Int) : admS a (admS b s) = admS b (admS a s) :=
  exc_inj ha (by rw [exc_adm ha, ← adm_exc_comm hb, exc_adm ha])
/-- 1 - x^2m is (1 + x^m) (1 - x^m). -/
theorem exc_two (m : Nat) (s : Nat → Int) : excS (2 * m) s = mulS m (excS m s) := by
  funext n
  have h := congrFun (sh_sh m m s) n
  rw [← Nat.two_mul] at h
  show s n - shS (2 * m) s n = excS m s n + shS m (excS m s) n
  rw [exc_fun m, sh_sub]
  dsimp only
  omega
/-- The products with 1 + x^w, 1 + x^2w, .., h of them. -/
def mulI (w : Nat) (s : Nat → Int) : Nat → Nat → Int
  | 0 => s
  | h + 1 => mulS (w * 2 ^ h) (mulI w s h)
theorem exc_mulI {w : Nat} (hw : 0 < w) (s : Nat → Int) (h : Nat) : excS (w * 2 ^ h) (admS w s) = mulI w s h := by
  induction h with
  | zero => rw [Nat.pow_zero, Nat.mul_one]; exact exc_adm hw s
  | succ h ih => rw [mulI, ← ih, Nat.pow_succ, ← exc_two]; congr 1; rw [← Nat.mul_assoc, Nat.mul_comm]
theorem mul_big {k n : Nat} (s : Nat → Int) (h : n < k) : mulS k s n = s n := by
  unfold mulS shS; rw [if_neg (by omega)]; omega
/-- Series that agree up to degree d. -/
def AgS (d : Nat) (s t : Nat → Int) : Prop := ∀ n, n ≤ d → s n = t n
theorem AgS.mul {d : Nat} {s t : Nat → Int} (h : AgS d s t) (k : Nat) : AgS d (mulS k s) (mulS k t) := fun n hn => by
  unfold mulS shS
  rw [h n hn]
  split
  · rw [h (n - k) (by omega)]
  · rfl
theorem mul_past {d k : Nat} (s : Nat → Int) (h : d < k) : AgS d (mulS k s) s := fun n hn => mul_big s (by omega)
/-- Behind degree d the further products change nothing. -/
theorem mulI_past {d w h : Nat} (s : Nat → Int) : ∀ j, h ≤ j → (∀ i, h ≤ i → i < j → d < w * 2 ^ i) → AgS d (mulI w s j) (mulI w s h) := by
  intro j
  induction j with
  | zero => intro h1 _; obtain rfl : h = 0 := by omega
            exact fun n _ => rfl
  | succ j ih =>
    intro h1 h2
    by_cases e : h = j + 1
    · subst e; exact fun n _ => rfl
    · intro n hn
      rw [mulI, mul_past _ (h2 j (by omega) (by omega)) n hn]
      exact ih (by omega) (fun i h3 h4 => h2 i h3 (by omega)) n hn
/-- The series that has 1 in degree 0 alone. -/
def oneS (n : Nat) : Int := if n = 0 then 1 else 0
/-- The steps of the places. -/
def stS (i : Nat) : Nat := 2 ^ (i + 1) - 1
theorem stS_pos (i : Nat) : 0 < stS i := by
  unfold stS
  have : 2 ^ 1 ≤ 2 ^ (i + 1) := Nat.pow_le_pow_right (by decide) (by omega)
  omega
/-- The series of a profile's first j numbers. -/
def serS (H : Nat → Nat) : Nat → Nat → Int
  | 0 => oneS
  | j + 1 => mulI (stS j) (serS H j) (H j)
theorem serS_step (H : Nat → Nat) (j : Nat) : serS H (j + 1) = excS (stS j * 2 ^ H j) (admS (stS j) (serS H j)) := (exc_mulI (stS_pos j) _ _).symm
theorem serS_zero (H : Nat → Nat) (n : Nat) (hz : ∀ i, n ≤ i → H i = 0) : ∀ j, n ≤ j → serS H j = serS H n := by
  intro j
  induction j with
  | zero => intro h; obtain rfl : n = 0 := by omega
            rfl
  | succ j ih =>
    intro h
    by_cases e : n = j + 1
    · subst e; rfl
    · rw [serS, hz j (by omega), mulI, ih (by omega)]
end Go.Proofs.Ytcbfcpngpnlodaa
