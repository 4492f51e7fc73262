/-
  Joined: PSumS, PGrp, NNilA, NNilB, PFill2.
-/
import Derived.Test.YtnmilkehggjpfaaZBMil40
import Derived.Test.YtnmilkehggjpfaaZBMil03
import Derived.Test.YtnmilkehggjpfaaZBMil06
import Derived.Maps.OwnSet
import Derived.Maps.RangeWalk
import Derived.Maps.Views
import Derived.Test.YtnmilkehggjpfaaZBMil38
import Derived.Test.YtnmilkehggjpfaaZBMil37
import Derived.Deep.RegionWith
import Derived.Deep.DeepCutAuto
import Derived.Deep.RegionHeld3
import Derived.Deep.RegionLaw
import Derived.Deep.AppendLies
section
namespace Go.Proofs.Ytnmilkehggjpfaa.Ml
open Go.RowKit
set_option linter.unusedVariables false
set_option maxRecDepth 100000

theorem range_get (x : List Int) : (List.range x.length).map (fun j => x[j]?.getD 0) = x := by
  refine List.ext_getElem (by simp) fun i h1 h2 => ?_
  simp at h1
  simp [h1]
theorem good_ok {x : List Int} (h : goodE x) : x.length ≤ 5 ∧ ∀ z ∈ x, 0 ≤ z ∧ z ≤ 10000000 := ⟨good_len h, fun z hz => by have := good_small h z hz; omega⟩
theorem sumW_short {W : List (List Int)} {d : Int} (h : ∀ l ∈ W, okW l ∧ l.sum = d) : ∀ x ∈ sumW W, x.length ≤ 5 ∧ ∀ z ∈ x, 0 ≤ z ∧ z ≤ 10000000 := fun x hx => good_ok (sumW_good h x hx).1
theorem wT_short {l : List Int} (h : okW l) : ∀ x ∈ wT l, x.length ≤ 5 ∧ ∀ z ∈ x, 0 ≤ z ∧ z ≤ 10000000 := fun x hx => good_ok (wT_mem h hx).1
theorem wT_asc : ∀ l : List Int, Asc (wT l)
  | [] => List.pairwise_singleton _ _
  | n :: l => (prodT_spec _ _ _ _).1
theorem sumW_snoc (W : List (List Int)) (l : List Int) : mrg (sumW W) (wT l) = sumW (W ++ [l]) := by
  obtain ⟨h1, h2⟩ := mrg_spec (sumW W) (wT l) (sumW_asc W) (wT_asc l)
  refine sumW_eq h1 fun z => ?_
  rw [h2, List.flatMap_append, par_append, sumW_mem]
  have e : par ([l].flatMap wT) z ↔ z ∈ wT l := by
    rw [List.flatMap_cons, List.flatMap_nil, List.append_nil, par_nodup _ (wT_asc l).nodup]
  rw [e]

set_option maxHeartbeats 1000000 in
theorem l05Milnor_any (V : Value) (m : Nat) (X : Nat → List Int) (d : Int) (w : World) (h : RdSS w V m X) (hm : m ≤ 1000000) (hok : ∀ i, i < m → okW (X i) ∧ (X i).sum = d) (hl : ∀ i, i < m → (X i).length ≤ 1000) :
    Calls Try.prog 80 #[V] w (TermsPost (sumW (rowsL X m)) w) := by
  obtain ⟨⟨a, cap, rfl⟩, hsm, VS, hc, hr⟩ := h
  have HC : Hid (∀ i, i < m → ∃ b off, a = some ⟨b, off, none⟩ ∧ w.cell? ⟨b, off + i, none⟩ = some (VS i)) := Lib.hid fun i hi => by
    obtain ⟨b, off, ⟨cap', e⟩, hc'⟩ := hc.resolve_left (by omega)
    cases e
    exact ⟨b, off, rfl, hc' i hi⟩
  have HR := Lib.hid hr
  have HOK := Lib.hid hok
  have HL := Lib.hid hl
  have okT : ∀ k, k ≤ m → ∀ l ∈ rowsL X k, okW l ∧ l.sum = d := fun k hk l hl => by
    obtain ⟨i, hi, rfl⟩ := mem_rowsL hl
    exact hok i (by omega)
  have OKT := Lib.hid okT
  have P0 : Hid (WdI w (.slice (some ⟨w.heap.size, 0, none⟩) 0 0) (fun _ => undef) (sumW (rowsL X 0)) (w.alloc (.cells #[] 65))) := Lib.hid
    ⟨(Below.refl _ w).alloc (Nat.le_refl _) _, ⟨World.ownsRow_made w #[] 0 (Nat.le_refl _) (Nat.zero_le _) (by simp), fun i hi => absurd hi (Nat.not_lt_zero _)⟩, sepNil⟩
  clear hc hr hok hl okT
  go_enter Try.func80, Try.ntmps80
  go_wp2_with fail
  go_loopw [3, 4] (fun S kv wr => ∃ (i : Nat) (US : Nat → Value), i ≤ m ∧ kv = .int .i64 (i : Int) ∧ Hid (WdI w S US (sumW (rowsL X i)) wr)) (fun _ kv _ => m - (intOf kv).toNat)
  case atStart => exact ⟨0, _, Nat.zero_le _, rfl, P0⟩
  case round =>
    clear P0
    obtain ⟨i, US, hi, rfl, hI⟩ := hrel
    by_cases hlt : i < m
    · have hlt' : (i : Int) < (m : Int) := by omega
      obtain ⟨b, off, rfl, hcell⟩ := HC.out i hlt
      have c1 : wr.cell? ⟨b, off + i, none⟩ = some (VS i) := (hI.out.bel.cell (p := ⟨b, off + i, none⟩) (World.block_lt_of_cell? w _ hcell)).trans hcell
      have r1 : RdL wr (VS i) (X i) := (HR.out i hlt).below hI.out.bel
      have WD := l05Word_any (VS i) (X i).length (fun j => (X i)[j]?.getD 0) wr r1 (by rw [range_get]; exact (HOK.out i hlt).1) (HL.out i hlt)
      rw [range_get] at WD
      have WD := Lib.hid WD
      obtain ⟨sa, sc, rfl, _, _⟩ := hI.out.fam.head
      have hs1 := sumW_short (OKT.out i (by omega))
      have hs2 := wT_short (HOK.out i hlt).1
      have n1 := okMl_few (sumW_el (OKT.out i (by omega)))
      have n2 := okMl_few (w_ok (HOK.out i hlt).1).el
      have SM := Lib.hid (fun w5 V2 U2 B2 (hb : Below wr.heap.size wr w5) (f2 : FamL w5 B2 V2 U2 (wT (X i))) => comSum hs1 hs2 (by omega) (by omega) w5 _ V2 US U2 w.heap.size B2 (Fam.below hI.out.fam hb) f2)
      have HT : Hid (sumW (rowsL X (i + 1)) = mrg (sumW (rowsL X i)) (wT (X i))) := Lib.hid (by rw [rowsL_succ, sumW_snoc])
      have BI := Lib.hid hI.out.bel
      generalize VS i = vi at c1 WD
      generalize (sumW (rowsL X i)).length = q at *
      clear hcell r1 hs1 hs2 n1 n2 hI
      go_wp2_with fail
      refine WD.out.mono ?_
      rintro e w5 ⟨V5, U5, rfl, f5, s5, b5⟩
      have SM5 := Lib.hid (SM.out w5 V5 U5 _ b5 f5)
      have B5 := Lib.hid (BI.out.step1 b5)
      obtain ⟨av, cv, rfl, _, _⟩ := Fam.head f5
      clear f5 s5 b5 SM WD c1
      go_wp2_with fail
      refine SM5.out.mono ?_
      rintro e w6 ⟨V6, U6, rfl, f6, s6, b6⟩
      have P6 : Hid (WdI w V6 U6 (sumW (rowsL X (i + 1))) w6) := Lib.hid ⟨B5.out.step1 b6, by rw [HT.out]; exact Fam.base f6 B5.out.size, by rw [HT.out]; exact s6⟩
      clear f6 s6 b6 SM5
      go_wp2_with fail
      go_roundw
      case rel => exact ⟨i + 1, U6, by omega, by first | rfl | go_num, P6⟩
      case measure => simp [intOf]; omega
    · obtain rfl : i = m := by omega
      have hlt' : ¬ (i : Int) < (i : Int) := by omega
      go_wp2_with fail
      go_ret
      exact ⟨_, US, rfl, hI.out.fam, hI.out.sep, hI.out.bel⟩
end Go.Proofs.Ytnmilkehggjpfaa.Ml
end
section
namespace Go.Proofs.Ytnmilkehggjpfaa.Ml
open Go.RowKit Go.Maps
set_option linter.unusedVariables false
set_option maxRecDepth 100000

/-- An element is read as itself. -/
def RawG (v : Value) : Option (DataW Value × List MemPlace) := some (.held v, [])
/-- Slice values that the call owns; what they read as lay in the world w0. -/
def Grp (w0 W : World) (B : Nat) (S : Value) (Y : List (List Int)) : Prop :=
  ∃ VS : Nat → Value, W.ownsRow B 65 1 S Y.length ((List.range Y.length).map VS) ∧ ∀ j, j < Y.length → RdN w0 (VS j) (Y[j]?.getD [])
theorem Grp.nil (w0 W : World) (B : Nat) : Grp w0 W B (.slice none 0 0) [] := ⟨fun _ => undef, World.ownsRow_nil _ _ _ _, fun j hj => absurd hj (Nat.not_lt_zero _)⟩
theorem Grp.kept {w0 W W' : World} {B : Nat} {S : Value} {Y : List (List Int)} {row : Option Nat} (h : Grp w0 W B S Y) (hg : W.grownBy W' row) (hne : S.ownBlock = none ∨ S.ownBlock ≠ row) : Grp w0 W' B S Y := by
  obtain ⟨VS, h1, h2⟩ := h
  exact ⟨VS, h1.kept hg hne, h2⟩
theorem Grp.below {w0 W W' : World} {B : Nat} {S : Value} {Y : List (List Int)} (h : Grp w0 W B S Y) (k : Below W.heap.size W W') : Grp w0 W' B S Y := by
  obtain ⟨VS, h1, h2⟩ := h
  exact ⟨VS, own_below h1 k, h2⟩
theorem Grp.blk {w0 W : World} {B g : Nat} {S : Value} {Y : List (List Int)} (h : Grp w0 W B S Y) (e : S.ownBlock = some g) : B ≤ g ∧ g < W.heap.size := by
  obtain ⟨VS, h1, _⟩ := h
  exact h1.lt g e
/-- V holds the words W. -/
def RdW (w : World) (V : Value) (W : List (List Int)) : Prop :=
  (∃ a cap, V = .slice a W.length cap) ∧ W.length ≤ maxLen ∧ ∃ VS : Nat → Value, (W.length = 0 ∨ ∃ b off, (∃ cap, V = .slice (some ⟨b, off, none⟩) W.length cap) ∧ ∀ i, i < W.length → w.cell? ⟨b, off + i, none⟩ = some (VS i)) ∧ ∀ i, i < W.length → RdN w (VS i) (W[i]?.getD [])
theorem Grp.rdw {w0 W : World} {B : Nat} {S : Value} {Y : List (List Int)} (h : Grp w0 W B S Y) (k : Below w0.heap.size w0 W) : RdW W S Y := by
  obtain ⟨VS, h1, h2⟩ := h
  have hr : ∀ i, i < Y.length → RdN W (VS i) (Y[i]?.getD []) := fun i hi => (h2 i hi).below k
  rcases h1.2 with ⟨rfl, h0⟩ | ⟨g, cap, cur, rfl, hb, hg, k1, k2, k3, k4⟩
  · exact ⟨⟨none, 0, by rw [h0]⟩, by rw [h0]; exact Nat.zero_le _, VS, .inl h0, hr⟩
  · refine ⟨⟨_, cap, rfl⟩, Nat.le_trans k1 k2, VS, .inr ⟨g, 0, ⟨cap, rfl⟩, fun i hi => ?_⟩, hr⟩
    rw [Nat.zero_add, h1.cellAt i (by omega)]
    simp [hi]
theorem RdW.below {w w' : World} {V : Value} {W : List (List Int)} (h : RdW w V W) (k : Below w.heap.size w w') : RdW w' V W := by
  obtain ⟨h1, h2, VS, h3, h4⟩ := h
  refine ⟨h1, h2, VS, ?_, fun i hi => (h4 i hi).below k⟩
  rcases h3 with h0 | ⟨b, off, h5, h6⟩
  · exact .inl h0
  · exact .inr ⟨b, off, h5, fun i hi => (k.cell (p := ⟨b, off + i, none⟩) (World.block_lt_of_cell? w _ (h6 i hi))).trans (h6 i hi)⟩
/-- One more. -/
theorem Grp.push {w0 W' : World} {B : Nat} {S' v : Value} {Y : List (List Int)} {VS : Nat → Value} {y : List Int} (h2 : ∀ j, j < Y.length → RdN w0 (VS j) (Y[j]?.getD [])) (ho : W'.ownsRow B 65 1 S' (Y.length + 1) ((List.range Y.length).map VS ++ [v])) (hv : RdN w0 v y) : Grp w0 W' B S' (Y ++ [y]) := by
  refine ⟨ext VS Y.length v, ?_, fun j hj => ?_⟩
  · rw [List.length_append, List.length_singleton, ext_map]
    exact ho
  · rw [List.length_append, List.length_singleton] at hj
    by_cases e : j < Y.length
    · rw [ext, if_pos e, List.getElem?_append_left e]
      exact h2 j e
    · obtain rfl : j = Y.length := by omega
      rw [ext, if_neg (Nat.lt_irrefl _), List.getElem?_append_right (Nat.le_refl _)]
      simpa using hv

/-- The map: SV x is the value at x (nil, if there is none), tl x what it reads as. -/
structure MapG (w0 W : World) (B gm k : Nat) (D : DataW Value) (SV : Int → Value) (tl : Int → List (List Int)) : Prop where
  own : W.ownsMap Try.prog 2 RawG gm k D
  low : gm < B
  at_ : ∀ x, D.atKey (.int .i64 x) (.held (.slice none 0 0)) = .held (SV x)
  has_ : ∀ x, Maps.has D (.int .i64 x) = true ↔ tl x ≠ []
  grp : ∀ x, Grp w0 W B (SV x) (tl x)
  sep : ∀ x y, x ≠ y → (SV x).ownBlock = none ∨ (SV x).ownBlock ≠ (SV y).ownBlock
theorem MapG.start (w0 w : World) : MapG w0 (w.alloc (.map #[] 0)) (w.heap.size + 1) w.heap.size 0 (.map []) (fun _ => .slice none 0 0) (fun _ => []) :=
  ⟨World.ownsMap_made w _ _ _, Nat.lt_succ_self _, fun x => rfl, fun x => ⟨fun h => (by cases h), fun h => absurd rfl h⟩, fun x => Grp.nil _ _ _, fun x y _ => .inl rfl⟩
theorem MapG.below {w0 W W' : World} {B gm k : Nat} {D : DataW Value} {SV : Int → Value} {tl : Int → List (List Int)} (h : MapG w0 W B gm k D SV tl) (b : Below W.heap.size W W') : MapG w0 W' B gm k D SV tl :=
  ⟨by
    obtain ⟨es, clock, hb, r⟩ := h.own
    exact ⟨es, clock, (b.block gm (Array.getElem?_eq_some_iff.1 hb).1).trans hb, r⟩, h.low, h.at_, h.has_, fun x => (h.grp x).below b, h.sep⟩
/-- A word is put. -/
theorem MapG.put {w0 W W' W'' : World} {B gm k : Nat} {D : DataW Value} {SV : Int → Value} {tl : Int → List (List Int)} {x : Int} {S' v : Value} {VS : Nat → Value} {y : List Int} (h : MapG w0 W B gm k D SV tl) (hwf : (Lit.int .i64 x).wf = true)
    (h2 : ∀ j, j < (tl x).length → RdN w0 (VS j) ((tl x)[j]?.getD [])) (ho : W'.ownsRow B 65 1 S' ((tl x).length + 1) ((List.range (tl x).length).map VS ++ [v])) (hv : RdN w0 v y)
    (hg : W.grownBy W' (SV x).ownBlock) (hlie : S'.ownBlock = (SV x).ownBlock ∨ S'.ownBlock = some W.heap.size)
    (hm : W''.ownsMap Try.prog 2 RawG gm (k + 1) (D.put (.int .i64 x) (.held S'))) (hg2 : W'.grownBy W'' (some gm)) :
    MapG w0 W'' B gm (k + 1) (D.put (.int .i64 x) (.held S')) (fun z => if z = x then S' else SV z) (fun z => if z = x then tl x ++ [y] else tl z) := by
  have hk : WideAt.IsKeyLit (.int .i64 x) := by simp [WideAt.IsKeyLit]
  have off : ∀ {V : Value} {Y : List (List Int)} {U : World}, Grp w0 U B V Y → V.ownBlock = none ∨ V.ownBlock ≠ some gm := fun {V Y U} hG => by
    by_cases e : V.ownBlock = some gm
    · have := (hG.blk e).1
      have := h.low
      omega
    · exact .inr e
  have g1 : Grp w0 W' B S' (tl x ++ [y]) := Grp.push h2 ho hv
  refine ⟨hm, h.low, fun z => ?_, fun z => ?_, fun z => ?_, fun a b hab => ?_⟩
  · by_cases e : z = x
    · subst e
      rw [if_pos rfl, atKey_put_same h.own.isMap hk]
    · rw [if_neg e, atKey_put_other (by intro h; cases h; exact e rfl), h.at_]
  · by_cases e : z = x
    · subst e
      rw [if_pos rfl, has_put_same h.own.isMap hk]
      simp
    · rw [if_neg e, has_put_other (by intro h; cases h; exact e rfl), h.has_]
  · by_cases e : z = x
    · subst e
      rw [if_pos rfl, if_pos rfl]
      exact g1.kept hg2 (off g1)
    · simp only [if_neg e]
      have g2 := (h.grp z).kept hg (h.sep z x e)
      exact g2.kept hg2 (off g2)
  · have new : ∀ c, c ≠ x → (SV c).ownBlock ≠ some W.heap.size := fun c _ e => by have := ((h.grp c).blk e).2; omega
    by_cases e1 : a = x
    · subst e1
      have e2 : b ≠ a := fun e => hab e.symm
      simp only [↓reduceIte, if_neg e2]
      rcases hlie with l | l
      · rw [l]; exact h.sep a b hab
      · rw [l]; exact .inr fun e => new b e2 e.symm
    · by_cases e2 : b = x
      · subst e2
        simp only [↓reduceIte, if_neg e1]
        rcases hlie with l | l
        · rw [l]; exact h.sep a b hab
        · rw [l]; exact .inr (new a e1)
      · simp only [if_neg e1, if_neg e2]
        exact h.sep a b hab
end Go.Proofs.Ytnmilkehggjpfaa.Ml
end
section
namespace Go.Proofs.Ytnmilkehggjpfaa.Ml
open Go.RowKit
set_option linter.unusedVariables false
set_option maxRecDepth 100000

theorem infoM1 : (Try.prog.info? 45).map (fun i => (i.zero, i.size, i.bytes)) = some (some (.agg #[.slice none 0 0]), 1, 24) := by kernel_rfl
/-- The power number j + 1: its terms, and how many. -/
noncomputable def npw (X : Nat → List Int) (m : Nat) : Nat → (Nat → List Int) × Nat
  | 0 => (X, m)
  | j + 1 => (rowsOf (prodT (npw X m j).1 X (npw X m j).2 m), (prodT (npw X m j).1 X (npw X m j).2 m).length)
/-- The terms of the power number j + 2. -/
noncomputable def npL (X : Nat → List Int) (m j : Nat) : List (List Int) := prodT (npw X m j).1 X (npw X m j).2 m
theorem npw_succ (X : Nat → List Int) (m j : Nat) : npw X m (j + 1) = (rowsOf (npL X m j), (npL X m j).length) := rfl
structure NpOk (X : Nat → List Int) (m j : Nat) : Prop where
  el : okMl (npw X m j).1 (npw X m j).2
  deg : 0 < (npw X m j).2 → dgL ((npw X m j).1 0) = ((j : Int) + 1) * dgL (X 0)
theorem np_zero {X : Nat → List Int} {m : Nat} (hX : okMl X m) : NpOk X m 0 := ⟨hX, fun _ => by simp [npw]⟩
theorem np_fac {X : Nat → List Int} {m j : Nat} (hX : okMl X m) (h : NpOk X m j) (hd : ((j : Int) + 2) * dgL (X 0) ≤ 40) : Fac (npw X m j).1 X (npw X m j).2 m :=
  ⟨h.el, hX, fun a b => by
    rw [h.deg a]
    have e : ((j : Int) + 2) * dgL (X 0) = ((j : Int) + 1) * dgL (X 0) + dgL (X 0) := by rw [Int.add_mul, Int.add_mul]; omega
    omega⟩
theorem np_succ {X : Nat → List Int} {m j : Nat} (hX : okMl X m) (h : NpOk X m j) (hd : ((j : Int) + 2) * dgL (X 0) ≤ 40) : NpOk X m (j + 1) := by
  have hF := np_fac hX h hd
  refine ⟨hF.el, fun h0 => ?_⟩
  have h1 := hF.deg h0
  show dgL (rowsOf (prodT _ _ _ _) 0) = _
  rw [h1]
  by_cases c : 0 < (npw X m j).2
  · rw [h.deg c]
    have : ((j + 1 : Nat) : Int) = (j : Int) + 1 := by omega
    rw [this]
    have e : ((j : Int) + 1 + 1) * dgL (X 0) = ((j : Int) + 1) * dgL (X 0) + dgL (X 0) := by rw [Int.add_mul ((j : Int) + 1), Int.one_mul]
    omega
  · exfalso
    have e : (npw X m j).2 = 0 := by omega
    have hz : prodT (npw X m j).1 X (npw X m j).2 m = [] := by
      rw [e]
      rfl
    change 0 < (prodT (npw X m j).1 X (npw X m j).2 m).length at h0
    rw [hz] at h0
    simp at h0
theorem np_le {d : Int} (hd : 0 ≤ d) {j n : Nat} (h : j + 1 < n) (hn : (n : Int) * d ≤ 40) : ((j : Int) + 2) * d ≤ 40 := by
  have : ((j : Int) + 2) * d ≤ (n : Int) * d := Int.mul_le_mul_of_nonneg_right (by omega) hd
  omega
theorem np_all {X : Nat → List Int} {m n : Nat} (hX : okMl X m) (hd : 0 ≤ dgL (X 0)) (hn : (n : Int) * dgL (X 0) ≤ 40) : ∀ j, j < n → NpOk X m j
  | 0, _ => np_zero hX
  | j + 1, hj => np_succ hX (np_all hX hd hn j (by omega)) (np_le hd hj hn)

/-! ### slices.IndexFunc -/
structure PwS (w : World) (X : Nat → List Int) (m k : Nat) (va S : Value) (US : Nat → Value) (W : World) : Prop where
  bel : Below w.heap.size w W
  bA : Box1 W w.heap.size 45 va
  row : W.ownsRow (w.heap.size + 1) 45 1 S (k + 1) ((List.range (k + 1)).map US)
  shp : ∀ j, j < k + 1 → ∃ a c, US j = .slice a (npw X m j).2 c
  last : RdSS W (US k) (npw X m k).2 (npw X m k).1
theorem PwS.start {w : World} {X : Nat → List Int} {m cap : Nat} {a : Option Addr} (h : RdSS w (.slice a m cap) m X) :
    PwS w X m 0 (.slice a m cap) (.slice (some ⟨w.heap.size + 1, 0, none⟩) 1 1) (fun _ => .slice a m cap) ((w.alloc (.cells #[.slice a m cap] 45)).alloc (.cells #[.slice a m cap] 45)) := by
  have b1 : Below w.heap.size w (w.alloc (.cells #[.slice a m cap] 45)) := (Below.refl _ w).alloc (Nat.le_refl _) _
  have b2 := b1.alloc b1.size (.cells #[.slice a m cap] 45)
  refine ⟨b2, (Box1.new w _ _).alloc _, ?_, fun j hj => by
    have e : j = 0 := by omega
    subst e
    exact ⟨a, cap, rfl⟩, h.below b2⟩
  refine ⟨rfl, .inr ⟨w.heap.size + 1, 1, #[.slice a m cap], rfl, Nat.le_refl _, ?_, Nat.le_refl _, by unfold maxLen; omega, rfl, by simp [List.range_succ]⟩⟩
  have := heap_alloc_new (w.alloc (.cells #[.slice a m cap] 45)) (.cells #[.slice a m cap] 45)
  rw [World.size_alloc] at this
  exact this
theorem PwS.push {w wr w5 w7 : World} {X : Nat → List Int} {m k : Nat} {va S S' V : Value} {US VS : Nat → Value} (h : PwS w X m k va S US wr) (b : Below wr.heap.size wr w5) (f : FamL w5 wr.heap.size V VS (npL X m k))
    (ho : w7.ownsRow (w.heap.size + 1) 45 1 S' (k + 1 + 1) ((List.range (k + 1)).map US ++ [V])) (hg : (w5.alloc (.cells #[V] 45)).grownBy w7 S.ownBlock) : PwS w X m (k + 1) va S' (ext US (k + 1) V) w7 := by
  have b6 : Below wr.heap.size wr (w5.alloc (.cells #[V] 45)) := b.alloc b.size _
  have B6 := h.bel.step1 b6
  have O6 := own_below h.row b6
  have F6 : FamL (w5.alloc (.cells #[V] 45)) wr.heap.size V VS (npL X m k) := Fam.below f ((Below.refl _ w5).alloc (Nat.le_refl _) _)
  have A6 := h.bA.up b6
  refine ⟨B6.grown hg B6.size (fun q hq => by have := (O6.lt q (hq.symm ▸ rfl)).1; omega), ?_, by rw [ext_map]; exact ho, fun j hj => ?_, ?_⟩
  · exact (hg.block _ A6.lt (fun e => by first | (have := (O6.lt _ e).1; omega) | (have := (O6.lt _ e.symm).1; omega))).trans A6
  · by_cases hlt : j < k + 1
    · rw [ext, if_pos hlt]; exact h.shp j hlt
    · obtain rfl : j = k + 1 := by omega
      rw [ext, if_neg (Nat.lt_irrefl _)]
      obtain ⟨av, cv, e, _⟩ := Fam.head f
      exact ⟨av, cv, e⟩
  · rw [ext, if_neg (Nat.lt_irrefl _)]
    have F7 : FamL w7 wr.heap.size V VS (npL X m k) := ⟨F6.out.kept hg (own_types F6.out O6 (by decide)), fun i hi => (F6.inn i hi).kept hg (own_types (F6.inn i hi) O6 (by decide))⟩
    exact Fam.rdss F7
end Go.Proofs.Ytnmilkehggjpfaa.Ml
end
section
namespace Go.Proofs.Ytnmilkehggjpfaa.Ml
open Go.RowKit
set_option linter.unusedVariables false
set_option maxRecDepth 100000

/-- What powersOf gives back. -/
def PwPost (w : World) (X : Nat → List Int) (m n : Nat) (e : Ending) (w' : World) : Prop :=
  ∃ (g cap : Nat) (US : Nat → Value), e = .returned (.slice (some ⟨g, 0, none⟩) n cap) ∧ g < w'.heap.size ∧ (∀ j, j < n → w'.cell? ⟨g, j, none⟩ = some (US j)) ∧ (∀ j, j < n → ∃ a c, US j = .slice a (npw X m j).2 c) ∧ Below w.heap.size w w'
theorem PwS.head {w W : World} {X : Nat → List Int} {m k : Nat} {va S : Value} {US : Nat → Value} (h : PwS w X m k va S US W) :
    ∃ g cap, S = .slice (some ⟨g, 0, none⟩) (k + 1) cap ∧ g < W.heap.size ∧ ∀ j, j < k + 1 → W.cell? ⟨g, j, none⟩ = some (US j) := by
  rcases h.row.2 with ⟨_, h0⟩ | ⟨g, cap, cur, rfl, hb, hg, h1, h2, h3, h4⟩
  · omega
  · refine ⟨g, cap, rfl, World.block_lt_of_cell? (a := ⟨g, 0, none⟩) (u := US 0) W ?_, fun i hi => ?_⟩
    · rw [h.row.cellAt 0 (by omega)]
      simp
    · rw [h.row.cellAt i (by omega)]
      simp [hi]

end Go.Proofs.Ytnmilkehggjpfaa.Ml
end
section
namespace Go.Proofs.Ytnmilkehggjpfaa.Ml
open Go.RowKit Go.Maps
set_option linter.unusedVariables false
set_option maxRecDepth 100000

theorem keyedI : Keyed Try.prog 2 := int_keyed Try.underlying2
/-- The tails that the words so far give. -/
def tlOf (W : List (List Int)) (i : Nat) : Int → List (List Int) := fun x => tails x (W.take i)
theorem tails_append (x : Int) : ∀ A B : List (List Int), tails x (A ++ B) = tails x A ++ tails x B
  | [], B => rfl
  | [] :: A, B => by rw [List.cons_append, tails, tails, tails_append x A B]
  | (z :: v) :: A, B => by
    rw [List.cons_append, tails, tails]
    by_cases e : z = x
    · rw [if_pos e, if_pos e, tails_append x A B]; rfl
    · rw [if_neg e, if_neg e, tails_append x A B]
theorem tlOf_succ {W : List (List Int)} {i : Nat} (hi : i < W.length) {x : Int} {v : List Int} (e : W[i]?.getD [] = x :: v) : tlOf W (i + 1) = fun z => if z = x then tlOf W i x ++ [v] else tlOf W i z := by
  funext z
  have e2 : W.take (i + 1) = W.take i ++ [x :: v] := by
    rw [List.take_add_one, List.getElem?_eq_getElem hi]
    rw [List.getElem?_eq_getElem hi] at e
    simp only [Option.getD_some] at e
    rw [e]
    rfl
  unfold tlOf
  rw [e2, tails_append]
  by_cases c : z = x
  · subst c
    rw [if_pos rfl]
    simp [tails]
  · rw [if_neg c]
    have : x ≠ z := fun h => c h.symm
    simp [tails, this]

/-- What the first loop keeps. -/
structure FlI (w : World) (W : List (List Int)) (i : Nat) (wr : World) : Prop where
  bel : Below w.heap.size w wr
  box : Box1 wr w.heap.size 45 (.slice none 0 0)
  map : ∃ k D SV, k ≤ i ∧ MapG w wr (w.heap.size + 1 + 1) (w.heap.size + 1) k D SV (tlOf W i)
/-- One word is put. -/
theorem fl_put {w U : World} {W : List (List Int)} {i : Nat} {x : Int} {v : List Int} {tv : Value} (bel : Below w.heap.size w U) (box : Box1 U w.heap.size 45 (.slice none 0 0)) {k : Nat} {D : DataW Value} {SV : Int → Value} (hk : k ≤ i) (hi : i < 1000000) (hiW : i < W.length)
    (M : MapG w U (w.heap.size + 1 + 1) (w.heap.size + 1) k D SV (tlOf W i)) (e : W[i]?.getD [] = x :: v) (hwf : (Lit.int .i64 x).wf = true) (hv : RdN w tv v) :
    ∃ xs : List Value, xs.length = (tlOf W i x).length ∧ U.ownsRow (w.heap.size + 1 + 1) 65 1 (SV x) (tlOf W i x).length xs ∧ ∀ v7 w7, w7.ownsRow (w.heap.size + 1 + 1) 65 1 v7 ((tlOf W i x).length + 1) (xs ++ [tv]) → U.grownBy w7 (SV x).ownBlock → (v7.ownBlock = (SV x).ownBlock ∨ v7.ownBlock = some U.heap.size) →
      Below w.heap.size w w7 ∧ ∃ w8, (Instr.mapUpdate 125 (.map (some (w.heap.size + 1))) (.int .i64 x) v7).run Try.prog w7 = .ok () w8 ∧ FlI w W (i + 1) w8 := by
  obtain ⟨VS, h1, h2⟩ := M.grp x
  refine ⟨_, by simp, h1, fun v7 w7 ho hg hlie => ?_⟩
  have off : some (w.heap.size + 1) ≠ (SV x).ownBlock := fun e2 => by
    have := (h1.lt _ e2.symm).1
    omega
  have own7 := M.own.kept hg off
  obtain ⟨w8, hr, o8, g8⟩ := own7.update keyedI Try.underlying125 (by unfold maxLen; omega) (keyOf_int_mk Try.underlying2 hwf) (val := v7) (d := .held v7) (ps := []) rfl
  have b7 := bel.grown hg bel.size (fun q hq => by have := (h1.lt q (hq.symm ▸ rfl)).1; omega)
  refine ⟨b7, w8, hr, ?_, ?_, k + 1, D.put (.int .i64 x) (.held v7), fun z => if z = x then v7 else SV z, by omega, ?_⟩
  · exact b7.grown g8 b7.size (fun q hq => by cases hq; omega)
  · have x7 : Box1 w7 w.heap.size 45 (.slice none 0 0) := (hg.block _ box.lt (fun e2 => by have := (h1.lt _ e2.symm).1; omega)).trans box
    exact (g8.block _ x7.lt (fun e2 => by have := Option.some.inj e2; omega)).trans x7
  · rw [tlOf_succ hiW e]
    exact MapG.put M hwf h2 ho hv hg hlie o8 g8
end Go.Proofs.Ytnmilkehggjpfaa.Ml
end
