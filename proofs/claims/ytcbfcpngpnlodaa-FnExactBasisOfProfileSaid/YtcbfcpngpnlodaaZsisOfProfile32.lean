/-
  Joined: QRg, WPartPlain.
-/
import Derived.Test.YtcbfcpngpnlodaaZsisOfProfile18
import Derived.Test.YtcbfcpngpnlodaaZsisOfProfile31
import Derived.Test.YtcbfcpngpnlodaaZsisOfProfile12
import Derived.Test.YtcbfcpngpnlodaaZsisOfProfile22
section
namespace Go.Proofs.Ytcbfcpngpnlodaa
open Go Go.RowKit Go.Maps
set_option linter.unusedVariables false
set_option maxRecDepth 100000

/-- A key. -/
abbrev PKey := { k : Array Value // KOKQ k }
theorem okX_of {r : List Int} (h : goodE r) : okX r := ⟨by have := h.1.1; omega, fun i hi => good_forty h i hi⟩

section
variable {w w' : World} {b r n : Nat} {D : DataW Value} {left : Lit → Bool} {cnt : Nat}
theorem rgQ_lt (h : w.ranges Try.prog 56 RawQ b r n D left cnt) : b < w.heap.size ∧ r < w.heap.size := by
  obtain ⟨es, clock, since, seen, c0, h1, h2, h3, h4, h5, h6⟩ := h
  exact ⟨(Array.getElem?_eq_some_iff.1 h1).1, (Array.getElem?_eq_some_iff.1 h5).1⟩
theorem rgQ_below (h : w.ranges Try.prog 56 RawQ b r n D left cnt) (m : Below w.heap.size w w') : w'.ranges Try.prog 56 RawQ b r n D left cnt := by
  obtain ⟨hb, hr⟩ := rgQ_lt h
  obtain ⟨es, clock, since, seen, c0, h1, h2, h3, h4, h5, h6⟩ := h
  exact ⟨es, clock, since, seen, c0, (m.block b hb).trans h1, h2, h3, h4, (m.block r hr).trans h5, h6⟩
end

/-- The loop's state: the walk over the map, and which lists have been seen. -/
structure RgJ (w : World) (m g it k : Nat) (D : DataW Value) (X : Nat → List Int) (P : Nat → Prop) (left : Lit → Bool) (cnt : Nat) (wr : World) : Prop where
  bel : Below w.heap.size w wr
  ge : w.heap.size ≤ it
  rg : wr.ranges Try.prog 56 RawQ g it k D left cnt
  has_ : ∀ K l, keyOf Try.prog 56 (.agg K) = some l → Maps.has D l = true → ∃ i, i < m ∧ kyX (X i) = K
  ok : ∀ i l, i < m → keyOf Try.prog 56 (.agg (kyX (X i))) = some l → left l = false → P i
section
variable {w wr w' : World} {m g it k : Nat} {D : DataW Value} {X : Nat → List Int} {P : Nat → Prop} {left : Lit → Bool} {cnt : Nat} {VS : Nat → Value}
theorem RgJ.start {wm : World} {B : Nat} {SV : Array Value → Value} (hb : Below w.heap.size w wm) (M : MapQ wm B g k D SV (grpQ X VS m)) (hg : wm.grownBy wr none) (h : wr.ranges Try.prog 56 RawQ g wm.heap.size k D (Maps.has D) cnt) : RgJ w m g wm.heap.size k D X P (Maps.has D) cnt wr := by
  refine ⟨hb.grown hg hb.size (fun q hq => by cases hq), hb.size, h, fun K l hk hh => ?_, fun i l hi hk hl => ?_⟩
  · exact (grpQ_some X VS K m).1 ((M.has_ K l hk).1 hh)
  · have := (M.has_ _ l hk).2 ((grpQ_some X VS _ m).2 ⟨i, hi, rfl⟩)
    rw [this] at hl
    cases hl
theorem RgJ.up (h : RgJ w m g it k D X P left cnt wr) (b : Below wr.heap.size wr w') : RgJ w m g it k D X P left cnt w' :=
  ⟨h.bel.step1 b, h.ge, rgQ_below h.rg b, h.has_, h.ok⟩
theorem RgJ.drop {P' : Nat → Prop} (h : RgJ w m g it k D X P left cnt wr) (hP : ∀ i, P i → P' i) : RgJ w m g it k D X P' left cnt wr :=
  ⟨h.bel, h.ge, h.rg, h.has_, fun i l hi hk hl => hP i (h.ok i l hi hk hl)⟩
/-- A key is taken. -/
theorem RgJ.turn {K : Array Value} {kl : Lit} {cnt' : Nat} (h : RgJ w m g it k D X P left cnt wr) (hk : keyOf Try.prog 56 (.agg K) = some kl) (hg : wr.grownBy w' (some it)) (hr : w'.ranges Try.prog 56 RawQ g it k D (fun z => left z && !z.sameKey kl) cnt')
    (hP : ∀ i, i < m → kyX (X i) = K → P i) : RgJ w m g it k D X P (fun z => left z && !z.sameKey kl) cnt' w' := by
  refine ⟨h.bel.grown hg h.bel.size (fun q hq => by cases hq; exact h.ge), h.ge, hr, h.has_, fun i l hi hk' hl => ?_⟩
  cases hll : left l with
  | false => exact h.ok i l hi hk' hll
  | true =>
    have hs : l.sameKey kl = true := by simpa [hll] using hl
    have e1 := WideAt.sameKey_eq hs
    subst e1
    have e2 := keyedQ.inj hk' hk
    injection e2 with e2
    exact hP i hi e2
theorem RgJ.all (h : RgJ w m g it k D X P left cnt wr) (hX : ∀ i, i < m → okX (X i)) (hl : ∀ l, left l = false) : ∀ i, i < m → P i := fun i hi => by
  obtain ⟨l, hk⟩ := kyX_key (hX i hi)
  exact h.ok i l hi hk (hl l)
end

theorem kyX_eq {r s : List Int} (h : kyX r = kyX s) (i : Nat) (hi : i < 16) : lnX r i = lnX s i := arK_inj h i hi
/-- A least profile is contained in a profile when the basis element is in its part. -/
theorem lnX_in {r : List Int} (hr : okX r) {n : Nat} {H : Nat → Int} (h : okPr H n) : sameA (meetF (lnX r) (padF n H)) (lnX r) = true ↔ inL r.length (fun j => r[j]?.getD 0) H n := by
  rw [sameA_iff]
  have key : ∀ i, i < r.length → (meetF (lnX r) (padF n H) i = lnX r i ↔ stepL (fun j => r[j]?.getD 0) H n i) := fun i hi => by
    have p1 := padF_nonneg h i
    have p2 := hr.2 i hi
    dsimp only at p2
    obtain ⟨x, hx⟩ := Int.eq_ofNat_of_zero_le p2.1
    obtain ⟨s, hs⟩ := Int.eq_ofNat_of_zero_le p1.1
    unfold meetF lnX lenF stepL
    rw [if_pos hi]
    dsimp only
    rw [hx, hs, Int.toNat_natCast, Int.toNat_natCast]
    have h3 : ((2 ^ s : Nat) : Int) = (2 : Int) ^ s := by simp
    have h4 := bl_lt x s
    omega
  constructor
  · intro h1 i hi
    exact (key i hi).1 (h1 i (by have := hr.1; omega))
  · intro h1 i hi
    by_cases c : i < r.length
    · exact (key i c).2 (h1 i c)
    · have p1 := padF_nonneg h i
      have : lnX r i = 0 := if_neg c
      unfold meetF
      rw [this]
      omega
/-- The same list of numbers of digits: the same answer. -/
theorem in_same {r s : List Int} (hr : okX r) (hs : okX s) {n : Nat} {H : Nat → Int} (h : okPr H n) (e : kyX r = kyX s) : inL r.length (fun j => r[j]?.getD 0) H n ↔ inL s.length (fun j => s[j]?.getD 0) H n := by
  rw [← lnX_in hr h, ← lnX_in hs h, sameA_iff, sameA_iff]
  constructor
  · intro h1 i hi
    have := h1 i hi
    unfold meetF at *
    rw [← kyX_eq e i hi]
    exact this
  · intro h1 i hi
    have := h1 i hi
    unfold meetF at *
    rw [kyX_eq e i hi]
    exact this

/-- listsByProfile at the terms of an element. -/
theorem lists_rows {V : Value} {m : Nat} {X : Nat → List Int} {w : World} (h : RdSS w V m X) (hm : m ≤ 1000000) (hX : ∀ i, i < m → okX (X i)) : ∃ VS, Calls Try.prog 71 #[V] w (LbpPost X VS m w) := by
  obtain ⟨hd, _, VS, hc, hr⟩ := h
  exact ⟨VS, lists_any V m X VS w hd hm hc hr hX⟩
end Go.Proofs.Ytcbfcpngpnlodaa
end
section
namespace Go.Proofs.Ytcbfcpngpnlodaa
open Go.RowKit
set_option maxRecDepth 100000
set_option linter.unusedVariables false

/-- How many exponents of the weight p fit into d. -/
def cnt (d p : Nat) : Nat := if p ≤ d then d / p + 1 else 0

/-- All exponent lists that begin with zs and whose others have the degree d, at most f others. -/
def parts : Nat → List Int → Nat → List (List Int)
  | 0, zs, d => if d = 0 then [zs] else []
  | f + 1, zs, d => if d = 0 then [zs] else (List.range (cnt d (sp zs.length))).flatMap fun (r : Nat) => parts f (zs ++ [(r : Int)]) (d - r * sp zs.length)

/-- The same, the first j exponents alone. -/
def partsTo (f : Nat) (zs : List Int) (d j : Nat) : List (List Int) := (List.range j).flatMap fun (r : Nat) => parts f (zs ++ [(r : Int)]) (d - r * sp zs.length)
theorem partsTo_zero (f : Nat) (zs : List Int) (d : Nat) : partsTo f zs d 0 = [] := rfl
theorem partsTo_succ (f : Nat) (zs : List Int) (d j : Nat) : partsTo f zs d (j + 1) = partsTo f zs d j ++ parts f (zs ++ [(j : Int)]) (d - j * sp zs.length) := by
  unfold partsTo
  rw [List.range_succ, List.flatMap_append]
  simp
theorem parts_zero (f : Nat) (zs : List Int) : parts f zs 0 = [zs] := by
  cases f <;> simp [parts]
theorem parts_succ (f : Nat) (zs : List Int) (d : Nat) (h : 0 < d) : parts (f + 1) zs d = partsTo f zs d (cnt d (sp zs.length)) := by
  rw [parts, if_neg (by omega)]
  rfl
theorem parts_none (f : Nat) (zs : List Int) (d : Nat) (h : 0 < d) (hp : d < sp zs.length) : parts f zs d = [] := by
  cases f with
  | zero => rw [parts, if_neg (by omega)]
  | succ f => rw [parts_succ _ _ _ h, show cnt d (sp zs.length) = 0 by unfold cnt; rw [if_neg (by omega)]]; rfl

theorem sp_pos (i : Nat) : 0 < sp i := by have := sp_gt i; omega

/-- Whether j exponents more fit. -/
theorem cnt_le (d p j : Nat) (hp : 0 < p) (hd : p ≤ d) : j < cnt d p ↔ j * p ≤ d := by
  unfold cnt
  rw [if_pos hd]
  constructor
  · intro h
    exact (Nat.le_div_iff_mul_le hp).1 (by omega)
  · intro h
    have := (Nat.le_div_iff_mul_le hp).2 h
    omega
theorem cnt_eq (d p j : Nat) (hp : 0 < p) (hd : p ≤ d) (h : j * p = d) : cnt d p = j + 1 := by
  unfold cnt
  rw [if_pos hd, ← h, Nat.mul_div_cancel _ hp]

theorem partsTo_len (f : Nat) (N : Nat) (h : ∀ zs d, d ≤ 40 → (parts f zs d).length ≤ N) (zs : List Int) (d : Nat) (hd : d ≤ 40) (j : Nat) : (partsTo f zs d j).length ≤ j * N := by
  induction j with
  | zero => simp [partsTo_zero]
  | succ j ih =>
    rw [partsTo_succ, List.length_append, Nat.succ_mul]
    have := h (zs ++ [(j : Int)]) (d - j * sp zs.length) (by omega)
    omega
theorem parts_len (f : Nat) : ∀ (zs : List Int) (d : Nat), d ≤ 40 → (parts f zs d).length ≤ 41 ^ f := by
  induction f with
  | zero => intro zs d _; rw [parts]; split <;> simp
  | succ f ih =>
    intro zs d hd
    by_cases h0 : d = 0
    · subst h0
      rw [parts_zero]
      exact Nat.pow_pos (by decide)
    · rw [parts_succ _ _ _ (by omega)]
      have h1 := partsTo_len f (41 ^ f) ih zs d hd (cnt d (sp zs.length))
      have h2 : cnt d (sp zs.length) ≤ 41 := by
        unfold cnt
        split
        · have : d / sp zs.length ≤ d := Nat.div_le_self _ _
          omega
        · omega
      have h3 : cnt d (sp zs.length) * 41 ^ f ≤ 41 * 41 ^ f := Nat.mul_le_mul_right _ h2
      rw [Nat.pow_succ]
      omega

end Go.Proofs.Ytcbfcpngpnlodaa
end
