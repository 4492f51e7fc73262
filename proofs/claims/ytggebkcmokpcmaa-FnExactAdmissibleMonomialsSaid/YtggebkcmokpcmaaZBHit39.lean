/-
  Joined: HMon, HKam.
-/
import Derived.Test.YtggebkcmokpcmaaZBHit38
import Derived.Test.YtggebkcmokpcmaaZBHit28
import Derived.Test.YtggebkcmokpcmaaZBHit33
section
namespace Go.Proofs.Ytggebkcmokpcmaa
open Go.RowKit Go.Proofs.Ytggebkcmokpcmaa.Pl
set_option linter.unusedVariables false
set_option maxRecDepth 100000

/-- How many lists there are. -/
def cn : Nat → Nat → Nat
  | 0, _ => 1
  | f + 1, d => ((List.range (d + 1)).map fun r => cn f (d - r)).sum
theorem ms_cn : ∀ (f d : Nat) (zs : List Int), (ms f d zs).length = cn f d
  | 0, d, zs => by rw [ms, cn]; rfl
  | f + 1, d, zs => by
    rw [ms, cn, List.length_flatMap]
    congr 1
    exact List.map_congr_left fun r _ => ms_cn f (d - r) _
/-- The same in one product. -/
def cnF (f d : Nat) : Nat := match f with
  | 0 => 1
  | 1 => 1 * (d + 1) / 1
  | 2 => 1 * (d + 1) / 1 * (d + 2) / 2
  | _ => 1 * (d + 1) / 1 * (d + 2) / 2 * (d + 3) / 3
theorem cn_step (f d : Nat) : cn (f + 1) (d + 1) = cn f (d + 1) + cn (f + 1) d := by
  rw [cn, List.range_succ_eq_map, List.map_cons, List.sum_cons, List.map_map]
  rw [cn]
  congr 2
  apply List.map_congr_left
  intro r _
  show cn f (d + 1 - (r + 1)) = _
  rw [Nat.add_sub_add_right]
theorem cn_zero (f : Nat) : cn f 0 = 1 := by
  induction f with
  | zero => rfl
  | succ f ih => rw [cn]; simpa using ih
theorem cnF_step : ∀ f, f < 3 → ∀ d, d < 40 → cnF (f + 1) (d + 1) = cnF f (d + 1) + cnF (f + 1) d := by decide +kernel
theorem cnF_zero : ∀ f, f < 4 → cnF f 0 = 1 := by decide +kernel
theorem cn_all : ∀ f, f < 4 → ∀ d, d < 41 → cn f d = cnF f d
  | 0, _, d, _ => rfl
  | f + 1, hf, 0, _ => by rw [cn_zero, cnF_zero _ hf]
  | f + 1, hf, d + 1, hd => by rw [cn_step, cnF_step f (by omega) d (by omega), cn_all f (by omega) (d + 1) hd, cn_all (f + 1) hf d (by omega)]
theorem cnF_up : ∀ f, f < 4 → ∀ d, d < 41 → cnF f (d - 1) ≤ cnF f d := by decide +kernel
theorem cnF_mono (f : Nat) (hf : f < 4) (d : Nat) (hd : d < 41) : ∀ i, cnF f (d - i) ≤ cnF f d
  | 0 => Nat.le_refl _
  | i + 1 => Nat.le_trans (by have := cnF_up f hf (d - i) (by omega); rw [show d - (i + 1) = d - i - 1 by omega]; exact this) (cnF_mono f hf d hd i)
theorem cn_mono (f : Nat) (hf : f < 4) (d : Nat) (hd : d < 41) (i : Nat) : cn f (d - i) ≤ cn f d := by
  rw [cn_all f hf _ (by omega), cn_all f hf d hd]
  exact cnF_mono f hf d hd i

/-- Each list with the degree is there. -/
theorem ms_in : ∀ (f d : Nat) (zs : List Int) (ns : List Nat), ns.length = f + 1 → ns.sum = d → zs ++ ns.map (fun n : Nat => (n : Int)) ∈ ms f d zs
  | 0, d, zs, ns, hl, hs => by
    match ns, hl with
    | [n], _ =>
      rw [ms]
      simp at hs
      subst hs
      simp
  | f + 1, d, zs, ns, hl, hs => by
    match ns, hl with
    | n :: r, hl =>
      rw [ms]
      rw [List.sum_cons] at hs
      have h1 := ms_in f (d - n) (zs ++ [(n : Int)]) r (by simpa using hl) (by omega)
      refine List.mem_flatMap.2 ⟨n, List.mem_range.2 (by omega), ?_⟩
      simpa using h1
theorem ms_mem : ∀ (f d : Nat) (zs : List Int) (x : List Int), x ∈ ms f d zs → ∃ ns : List Nat, x = zs ++ ns.map (fun n : Nat => (n : Int)) ∧ ns.length = f + 1 ∧ ns.sum = d
  | 0, d, zs, x, h => by
    rw [ms] at h
    exact ⟨[d], by simpa using h, rfl, by simp⟩
  | f + 1, d, zs, x, h => by
    rw [ms] at h
    obtain ⟨r, hr, h⟩ := List.mem_flatMap.1 h
    have hr := List.mem_range.1 hr
    obtain ⟨ns, h1, h2, h3⟩ := ms_mem f (d - r) _ x h
    exact ⟨r :: ns, by rw [h1]; simp, by simp [h2], by rw [List.sum_cons, h3]; omega⟩
/-- The terms of degree d in f + 1 variables. -/
def TmP (f d : Nat) (t : List Int) : Prop := t.length = f + 1 ∧ Mono4 d (padY t)
theorem ms_tm {f d : Nat} (hf : f < 4) {x : List Int} (h : x ∈ ms f d []) : TmP f d x := by
  obtain ⟨ns, rfl, h2, h3⟩ := ms_mem f d [] x h
  rw [List.nil_append]
  refine ⟨by simp [h2], ?_⟩
  match ns, f, hf, h2, h3 with
  | [a], 0, _, _, h3 => exact ⟨a, 0, 0, 0, by simp [padY, List.replicate], by simpa using h3⟩
  | [a, b], 1, _, _, h3 => exact ⟨a, b, 0, 0, by simp [padY, List.replicate], by simpa using h3⟩
  | [a, b, c], 2, _, _, h3 => exact ⟨a, b, c, 0, by simp [padY], by simp at h3; omega⟩
  | [a, b, c, e], 3, _, _, h3 => exact ⟨a, b, c, e, by simp [padY], by simp at h3; omega⟩
theorem tm_ms {f d : Nat} (hf : f < 4) {x : List Int} (h : TmP f d x) : x ∈ ms f d [] := by
  obtain ⟨hl, a, b, c, e, h1, h2⟩ := h
  have ht : x = (padY x).take (f + 1) := (take_pad hl).symm
  rw [h1] at ht
  match f, hf, hl with
  | 0, _, hl =>
    have hz : (padY x).drop 1 = [(0 : Int), 0, 0] := by
      unfold padY
      rw [hl, List.drop_append_of_le_length (by omega), List.drop_eq_nil_of_le (by omega)]
      rfl
    rw [h1] at hz
    simp at hz ht
    have := ms_in 0 d [] [a] rfl (by simp; omega)
    rw [ht]; simpa using this
  | 1, _, hl =>
    have hz : (padY x).drop 2 = [(0 : Int), 0] := by
      unfold padY
      rw [hl, List.drop_append_of_le_length (by omega), List.drop_eq_nil_of_le (by omega)]
      rfl
    rw [h1] at hz
    simp at hz ht
    have := ms_in 1 d [] [a, b] rfl (by simp; omega)
    rw [ht]; simpa using this
  | 2, _, hl =>
    have hz : (padY x).drop 3 = [(0 : Int)] := by
      unfold padY
      rw [hl, List.drop_append_of_le_length (by omega), List.drop_eq_nil_of_le (by omega)]
      rfl
    rw [h1] at hz
    simp at hz ht
    have := ms_in 2 d [] [a, b, c] rfl (by simp; omega)
    rw [ht]; simpa using this
  | 3, _, hl =>
    simp at ht
    have := ms_in 3 d [] [a, b, c, e] rfl (by simp; omega)
    rw [ht]; simpa using this
/-- A polynomial has no more terms than there are. -/
theorem tms_len {f d : Nat} (hf : f < 4) {T : List (List Int)} (hT : Asc T) (h : ∀ t ∈ T, TmP f d t) : T.length ≤ cn f d := by
  rw [← ms_cn f d []]
  exact nodup_lenY T _ hT.nodup fun x hx => tm_ms hf (h x hx)
/-- The monomials in order. -/
theorem ms_asc : ∀ (f d : Nat) (zs : List Int), Asc (ms f d zs)
  | 0, d, zs => by rw [ms]; exact List.pairwise_singleton _ _
  | f + 1, d, zs => by
    rw [ms]
    unfold Asc
    rw [List.pairwise_flatMap]
    refine ⟨fun r _ => ms_asc f _ _, (range_lt _).imp ?_⟩
    intro r r' h x hx y hy
    obtain ⟨ns, rfl, _⟩ := ms_mem _ _ _ _ hx
    obtain ⟨ns', rfl, _⟩ := ms_mem _ _ _ _ hy
    rw [List.append_assoc, List.append_assoc]
    have pre : ∀ (zs x y : List Int), lexLt x y = true → lexLt (zs ++ x) (zs ++ y) = true := fun zs x y h => by
      induction zs with
      | nil => exact h
      | cons z zs ih => rw [List.cons_append, List.cons_append, lexLt_cons_eq]; exact ih
    exact pre _ _ _ (lexLt_cons_ne (by omega))

/-- The rows that a list of monomials adds. -/
def hitM (i : Nat) (R : List (List (List Int))) (L : List (List Int)) : List (List (List Int)) := L.foldl (fun R m => withR R (oddY (sqAll [m] i))) R
theorem hitM_snoc (i : Nat) (R : List (List (List Int))) (L : List (List Int)) (m : List Int) : hitM i R (L ++ [m]) = withR (hitM i R L) (oddY (sqAll [m] i)) := by simp [hitM]
theorem hitM_nil (i : Nat) (R : List (List (List Int))) : hitM i R [] = R := rfl
/-- The rows of hit polynomials, of the first j powers of 2. -/
def hitTo (f d : Nat) : Nat → List (List (List Int))
  | 0 => []
  | j + 1 => if 2 ^ j ≤ d then hitM (2 ^ j) (hitTo f d j) (ms f (d - 2 ^ j) []) else hitTo f d j
def hitR (f d : Nat) : List (List (List Int)) := hitTo f d 6
theorem hitTo_stop (f d j : Nat) (h : d < 2 ^ j) : ∀ q, hitTo f d (j + q) = hitTo f d j
  | 0 => rfl
  | q + 1 => by
    rw [← Nat.add_assoc, hitTo, if_neg, hitTo_stop f d j h q]
    have : 2 ^ j ≤ 2 ^ (j + q) := Nat.pow_le_pow_right (by decide) (by omega)
    omega
theorem hitTo_end (f d j : Nat) (h : d < 2 ^ j) (hj : j ≤ 6) : hitTo f d j = hitR f d := by
  have := hitTo_stop f d j h (6 - j)
  rw [show j + (6 - j) = 6 by omega] at this
  exact this.symm

theorem sqL_nat : ∀ (ns : List Nat) (i : Nat) (z : List Int), z ∈ sqL (ns.map (fun n : Nat => (n : Int))) i → ∃ qs : List Nat, z = qs.map (fun n : Nat => (n : Int)) ∧ qs.length = ns.length ∧ qs.sum = ns.sum + i
  | [], i, z, h => by
    rw [List.map_nil, sqL] at h
    split at h
    · rename_i e
      subst e
      exact ⟨[], List.mem_singleton.1 h, rfl, rfl⟩
    · simp at h
  | n :: r, i, z, h => by
    rw [List.map_cons, sqL] at h
    obtain ⟨j, hj, h⟩ := List.mem_flatMap.1 h
    have hj := List.mem_range.1 hj
    split at h
    · obtain ⟨z', hz', rfl⟩ := List.mem_map.1 h
      obtain ⟨qs, rfl, h2, h3⟩ := sqL_nat r (i - j) z' hz'
      exact ⟨(n + j) :: qs, by simp, by simp [h2], by rw [List.sum_cons, List.sum_cons, h3]; omega⟩
    · simp at h
theorem sqL_mono {d i : Nat} {x z : List Int} (hx : Mono4 d x) (hz : z ∈ sqL x i) : Mono4 (d + i) z := by
  obtain ⟨a, b, c, f, rfl, hs⟩ := hx
  obtain ⟨qs, rfl, h2, h3⟩ := sqL_nat [a, b, c, f] i z hz
  match qs, h2, h3 with
  | [a', b', c', f'], _, h3 => exact ⟨a', b', c', f', rfl, by simp at h3; omega⟩

theorem sqM_ok {f e i d : Nat} (hf : f < 4) (hd : e + i = d) (h40 : d ≤ 40) {m : List Int} (hm : m ∈ ms f e []) : Asc (oddY (sqAll [m] i)) ∧ ∀ t ∈ oddY (sqAll [m] i), TmP f d t := by
  refine ⟨(oddY_spec _).1, fun t ht => ?_⟩
  have h1 := oddY_mem ht
  obtain ⟨x, hx, h2⟩ := List.mem_flatMap.1 h1
  obtain rfl := List.mem_singleton.1 hx
  obtain ⟨hl, hM⟩ := ms_tm hf hm
  refine ⟨by rw [sqL_row x i t h2, hl], ?_⟩
  have h3 : padY t ∈ sqL (padY x) i := by rw [sqL_pad]; exact List.mem_map.2 ⟨t, h2, rfl⟩
  rw [← hd]
  exact sqL_mono hM h3
theorem hitM_ok {f e i d : Nat} (hf : f < 4) (hd : e + i = d) (h40 : d ≤ 40) : ∀ (L : List (List Int)), (∀ m ∈ L, m ∈ ms f e []) → ∀ R, RowsOk (TmP f d) R → RowsOk (TmP f d) (hitM i R L) ∧ (hitM i R L).length ≤ R.length + L.length
  | [], _, R, h => ⟨h, Nat.le_refl _⟩
  | m :: L, hL, R, h => by
    obtain ⟨h1, h2⟩ := sqM_ok hf hd h40 (hL m List.mem_cons_self)
    have h3 := withR_ok h h1 h2
    obtain ⟨h4, h5⟩ := hitM_ok hf hd h40 L (fun x hx => hL x (List.mem_cons_of_mem _ hx)) _ h3
    refine ⟨h4, Nat.le_trans h5 ?_⟩
    have := withR_len R (oddY (sqAll [m] i))
    rw [List.length_cons]
    omega
theorem hitTo_ok {f d : Nat} (hf : f < 4) (h40 : d ≤ 40) (hc : cn f d ≤ 100) : ∀ j, RowsOk (TmP f d) (hitTo f d j) ∧ (hitTo f d j).length ≤ j * 100
  | 0 => ⟨RowsOk.nil _, by simp [hitTo]⟩
  | j + 1 => by
    obtain ⟨h1, h2⟩ := hitTo_ok hf h40 hc j
    rw [hitTo]
    split
    · rename_i hj
      obtain ⟨h3, h4⟩ := hitM_ok hf (show d - 2 ^ j + 2 ^ j = d by omega) h40 (ms f (d - 2 ^ j) []) (fun m hm => hm) _ h1
      refine ⟨h3, Nat.le_trans h4 ?_⟩
      rw [ms_cn]
      have := cn_mono f hf d (by omega) (2 ^ j)
      omega
    · exact ⟨h1, by omega⟩

/-! ### With zeros behind -/
theorem RowsOk.wide {f d : Nat} {R : List (List (List Int))} (h : RowsOk (TmP f d) R) : ∀ r ∈ R, r ≠ [] ∧ ∀ t ∈ r, t.length = f + 1 := fun r hr => ⟨h.ne r hr, fun t ht => (h.all r hr t ht).1⟩
def padR (R : List (List (List Int))) : List (List (List Int)) := R.map (List.map padY)
theorem sqAll_padS (m : List Int) (i : Nat) : sqAll [padY m] i = (sqAll [m] i).map padY := by
  have := sqAll_pad [m] i
  simpa using this
theorem odd_padS {f : Nat} {m : List Int} {i : Nat} (hm : m.length = f + 1) : oddY (sqAll [padY m] i) = (oddY (sqAll [m] i)).map padY := by
  rw [sqAll_padS]
  refine oddY_pad (k := f + 1) _ fun t ht => ?_
  exact sqAll_len_row (k := f + 1) (L := [m]) (fun x hx => by rw [List.mem_singleton.1 hx]; exact hm) t ht
end Go.Proofs.Ytggebkcmokpcmaa
end
section
namespace Go.Proofs.Ytggebkcmokpcmaa
open Go.RowKit Go.Proofs.Ytggebkcmokpcmaa.Pl
set_option linter.unusedVariables false
set_option maxRecDepth 100000

theorem lexLt_map (f : Int → Int) : ∀ (xs ys : List Int), (∀ a ∈ xs, ∀ b ∈ ys, (f a = f b ↔ a = b) ∧ (f a < f b ↔ a < b)) → lexLt (xs.map f) (ys.map f) = lexLt xs ys
  | [], [], _ => rfl
  | [], _ :: _, _ => rfl
  | _ :: _, [], _ => rfl
  | a :: l, b :: l', h => by
    obtain ⟨h1, h2⟩ := h a List.mem_cons_self b List.mem_cons_self
    have ih := lexLt_map f l l' fun x hx y hy => h x (List.mem_cons_of_mem _ hx) y (List.mem_cons_of_mem _ hy)
    rw [List.map_cons, List.map_cons, lexLt, lexLt]
    by_cases e : a = b
    · rw [if_pos e, if_pos (h1.2 e), ih]
    · rw [if_neg e, if_neg fun e' => e (h1.1 e')]
      by_cases hlt : a < b
      · rw [decide_eq_true hlt, decide_eq_true (h2.2 hlt)]
      · rw [decide_eq_false hlt, decide_eq_false fun h' => hlt (h2.1 h')]
theorem asc_map (f : List Int → List Int) {L : List (List Int)} (h : Asc L) (hf : ∀ x ∈ L, ∀ y ∈ L, lexLt x y = true → lexLt (f x) (f y) = true) : Asc (L.map f) := by
  unfold Asc
  rw [List.pairwise_map]
  exact List.Pairwise.imp_of_mem (fun {a b} ha hb hab => hf a ha b hb hab) h
/-- A list behind all others. -/
theorem mrg_last : ∀ (L : List (List Int)) (x : List Int), Asc (L ++ [x]) → mrg L [x] = L ++ [x]
  | [], x, _ => by rw [mrg]; rfl
  | y :: L, x, h => by
    obtain ⟨h1, h2⟩ := List.pairwise_cons.1 h
    rw [mrg, if_pos (h1 x (by simp)), mrg_last L x h2]
    rfl

def upE (n : Int) : Int := 2 * n + 1
def upL (t : List Int) : List Int := t.map upE
theorem up_lt (xs ys : List Int) : lexLt (upL xs) (upL ys) = lexLt xs ys := lexLt_map upE xs ys fun a _ b _ => by unfold upE; exact ⟨by omega, by omega⟩
theorem upL_len (t : List Int) : (upL t).length = t.length := List.length_map ..
theorem asc_up {L : List (List Int)} (h : Asc L) : Asc (L.map upL) := asc_map upL h fun x _ y _ hxy => by rw [up_lt]; exact hxy

/-- Exponents that are all odd. -/
def allOdd (t : List Int) : Bool := t.all fun n => n % 2 == 1
def dnE (n : Int) : Int := n / 2
def dnL (t : List Int) : List Int := t.map dnE
theorem dnL_len (t : List Int) : (dnL t).length = t.length := List.length_map ..
def dnS (L : List (List Int)) : List (List Int) := (L.filter allOdd).map dnL
theorem dnS_len (L : List (List Int)) : (dnS L).length ≤ L.length := by
  unfold dnS
  rw [List.length_map]
  exact List.length_filter_le _ _
theorem dnS_snoc (L : List (List Int)) (x : List Int) : dnS (L ++ [x]) = dnS L ++ (if allOdd x then [dnL x] else []) := by
  unfold dnS
  rw [List.filter_append, List.map_append]
  congr 1
  by_cases h : allOdd x = true
  · rw [if_pos h, List.filter_cons_of_pos h]; rfl
  · rw [if_neg h, List.filter_cons_of_neg h]; rfl
theorem asc_dn {L : List (List Int)} (h : Asc L) : Asc (dnS L) := by
  unfold dnS
  refine asc_map dnL (List.Pairwise.filter _ h) fun x hx y hy hxy => ?_
  have ox := (List.mem_filter.1 hx).2
  have oy := (List.mem_filter.1 hy).2
  unfold allOdd at ox oy
  rw [List.all_eq_true] at ox oy
  unfold dnL
  rw [lexLt_map dnE x y fun a ha b hb => ?_]
  · exact hxy
  · have h1 := ox a ha
    have h2 := oy b hb
    rw [beq_iff_eq] at h1 h2
    unfold dnE
    exact ⟨by omega, by omega⟩
theorem rows_snoc (X : Nat → List Int) (m : Nat) : rowsL X (m + 1) = rowsL X m ++ [X m] := rowsL_succ X m
theorem asc_pre {L : List (List Int)} {x : List Int} (h : Asc (L ++ [x])) : Asc L := (List.pairwise_append.1 h).1
end Go.Proofs.Ytggebkcmokpcmaa
end
