/-
  Joined: WOwnB, WArgs, WOwnC, WFam.
-/
import Derived.Test.YtnmilkehggjpfaaZBMil01
section
namespace Go.Proofs.Ytnmilkehggjpfaa
set_option maxRecDepth 100000
set_option linter.unusedVariables false
open Go.RowKit

theorem Try.info2 : (Try.prog.info? 2).map (fun i => (i.zero, i.size, i.bytes)) = some (some (.int .i64 0), 1, 8) := by kernel_rfl

theorem own_below {w w' : World} {B : Nat} {v : Value} {n : Nat} {xs : List Value} {e : TypeId} {s : Nat} (h : w.ownsRow B e s v n xs) (k : Below w.heap.size w w') : w'.ownsRow B e s v n xs := by
  refine ⟨h.1, ?_⟩
  rcases h.2 with hn | ⟨g, cap, cur, rfl, hb, hg, rest⟩
  · exact .inl hn
  · refine .inr ⟨g, cap, cur, rfl, hb, ?_, rest⟩
    rw [k.block g (Array.getElem?_eq_some_iff.1 hg).1]
    exact hg

theorem own_drewN {w : World} {B : Nat} {v : Value} {n : Nat} {xs : List Value} {e : TypeId} {s : Nat} (h : w.ownsRow B e s v n xs) (q : Nat) : (w.drewN q).ownsRow B e s v n xs := h

theorem own_base {w : World} {B B' : Nat} {v : Value} {n : Nat} {xs : List Value} {e : TypeId} {s : Nat} (h : w.ownsRow B e s v n xs) (hb : B' ≤ B) : w.ownsRow B' e s v n xs := by
  refine ⟨h.1, ?_⟩
  rcases h.2 with hn | ⟨g, cap, cur, rfl, hb2, rest⟩
  · exact .inl hn
  · exact .inr ⟨g, cap, cur, rfl, Nat.le_trans hb hb2, rest⟩

theorem own_apart {w w' : World} {B m n : Nat} {v v' : Value} {xs ys : List Value} {e e' : TypeId} {s s' : Nat} (h : w.ownsRow B e s v n xs) (k : w'.ownsRow w.heap.size e' s' v' m ys) : v.ownBlock = none ∨ v.ownBlock ≠ v'.ownBlock := by
  cases hv : v.ownBlock with
  | none => exact .inl rfl
  | some a =>
    refine .inr fun he => ?_
    have h1 := (h.lt a hv).2
    have h2 := (k.lt a he.symm).1
    omega

theorem rd_of_own {w : World} {B : Nat} {v : Value} {zs : List Int} {n : Nat} (h : w.ownsRow B 2 1 v n (zs.map (Value.int .i64))) (hn : n = zs.length) : RdI w v n (fun i => zs[i]?.getD 0) := by
  subst hn
  rcases h.2 with ⟨rfl, h0⟩ | ⟨g, cap, cur, rfl, hb, hg, h1, h2, h3, h4⟩
  · exact ⟨none, 0, by rw [h0], by rw [h0]; exact Nat.zero_le _, .inl h0⟩
  · refine ⟨_, cap, rfl, Nat.le_trans h1 h2, ?_⟩
    by_cases h0 : zs.length = 0
    · exact .inl h0
    · refine .inr ⟨g, 0, rfl, fun i hi => ?_⟩
      rw [Nat.zero_add, h.cellAt i (by omega), List.getElem?_map]
      simp [hi]

end Go.Proofs.Ytnmilkehggjpfaa
end
section
namespace Go.Proofs.Ytnmilkehggjpfaa
open Go.RowKit
set_option maxRecDepth 100000
set_option linter.unusedVariables false

/-- A slice that came in: its n elements are G 0, G 1, .., each an int of the kind k. -/
def IsRow (k : IntKind) (w : World) (a : Option Addr) (n cap : Nat) (zs : List Int) : Prop :=
  (a = none ∧ n = 0 ∧ cap = 0 ∧ zs = []) ∨
  ∃ x, a = some x ∧ n ≤ cap ∧ cap ≤ maxLen ∧ zs.length = cap ∧ (∀ i, i < zs.length → w.cell? (x.add i) = some (.int k (zs.getD i 0))) ∧ ∀ z ∈ zs, (Lit.int k z).wf = true

theorem IsRow.rd {w : World} {a : Option Addr} {n cap : Nat} {zs : List Int} (h : IsRow .i64 w a n cap zs) : RdI w (.slice a n cap) n (fun i => zs.getD i 0) := by
  rcases h with ⟨rfl, rfl, rfl, _⟩ | ⟨x, rfl, h1, h2, h3, h4, _⟩
  · exact ⟨none, 0, rfl, Nat.zero_le _, .inl rfl⟩
  · refine ⟨_, cap, rfl, Nat.le_trans h1 h2, ?_⟩
    by_cases h0 : n = 0
    · exact .inl h0
    · obtain ⟨b, off, spot⟩ := x
      have hc := h4 0 (by omega)
      have hs : spot = none := by simpa [Addr.add] using World.cell?_spot hc
      subst hs
      refine .inr ⟨b, off, rfl, fun i hi => ?_⟩
      have h5 := h4 i (by omega)
      have e : (⟨b, off, none⟩ : Addr).add i = ⟨b, off + i, none⟩ := by
        by_cases h6 : i = 0
        · subst h6; simp [Addr.add]
        · simp [Addr.add, h6]
      rw [← e]
      exact h5

theorem IsRow.bounds {w : World} {a : Option Addr} {n cap : Nat} {zs : List Int} (h : IsRow .i64 w a n cap zs) (i : Nat) : -9223372036854775808 ≤ zs.getD i 0 ∧ zs.getD i 0 ≤ 9223372036854775807 := by
  have hd : ∀ z ∈ zs, (Lit.int .i64 z).wf = true := by
    rcases h with ⟨_, _, _, rfl⟩ | ⟨x, _, _, _, _, _, h⟩
    · intro z hz; simp at hz
    · exact h
  by_cases hi : i < zs.length
  · have hm : zs.getD i 0 ∈ zs := by
      rw [List.getD_eq_getElem?_getD, List.getElem?_eq_getElem hi]
      exact List.getElem_mem hi
    exact i64_bounds (hd _ hm)
  · rw [List.getD_eq_getElem?_getD, List.getElem?_eq_none (by omega)]
    simp

theorem RdI.below {w w' : World} {v : Value} {n : Nat} {G : Nat → Int} (h : RdI w v n G) (k : Below w.heap.size w w') : RdI w' v n G := by
  obtain ⟨a, cap, rfl, hm, hc⟩ := h
  refine ⟨a, cap, rfl, hm, ?_⟩
  rcases hc with h0 | ⟨b, off, rfl, hc⟩
  · exact .inl h0
  · refine .inr ⟨b, off, rfl, fun i hi => ?_⟩
    have h1 := hc i hi
    exact (k.cell (p := ⟨b, off + i, none⟩) (World.block_lt_of_cell? w _ h1)).trans h1

theorem RdI.drewN {w : World} {v : Value} {n : Nat} {G : Nat → Int} (h : RdI w v n G) (q : Nat) : RdI (w.drewN q) v n G := h

theorem RdI.congr {w : World} {v : Value} {n : Nat} {G G' : Nat → Int} (h : RdI w v n G) (e : ∀ i, i < n → G i = G' i) : RdI w v n G' := by
  obtain ⟨a, cap, rfl, hm, hc⟩ := h
  refine ⟨a, cap, rfl, hm, ?_⟩
  rcases hc with h0 | ⟨b, off, rfl, hc⟩
  · exact .inl h0
  · exact .inr ⟨b, off, rfl, fun i hi => by rw [hc i hi, e i hi]⟩

/-- n numbers, the first j of which are G 0, .. and the others 0. -/
def cpy (G : Nat → Int) (n j : Nat) : List Int := (List.range n).map fun i => if i < j then G i else 0
theorem cpy_length (G : Nat → Int) (n j : Nat) : (cpy G n j).length = n := by simp [cpy]
theorem cpy_set (G : Nat → Int) (n j : Nat) : (cpy G n j).set j (G j) = cpy G n (j + 1) := by
  apply List.ext_getElem
  · simp [cpy]
  · intro i h1 h2
    simp only [cpy, List.getElem_set, List.getElem_map, List.getElem_range]
    by_cases e : j = i
    · subst e; rw [if_pos rfl, if_pos (by omega)]
    · rw [if_neg e]
      by_cases h : i < j
      · rw [if_pos h, if_pos (by omega)]
      · rw [if_neg h, if_neg (by omega)]
theorem cpy_zero (G : Nat → Int) (n : Nat) : cpy G n 0 = List.replicate n 0 := by
  apply List.ext_getElem
  · simp [cpy]
  · intro i h1 h2; simp [cpy]
theorem cpy_get (G : Nat → Int) (n i : Nat) (h : i < n) : (cpy G n n)[i]?.getD 0 = G i := by
  simp [cpy, h]

theorem made_list0 (n : Nat) : (madeCells (Value.cells (.int .i64 0)) (n * 1)).toList = (List.replicate n (0 : Int)).map (Value.int .i64) := by
  rw [Nat.mul_one, List.map_replicate]
  exact toList_madeCells_one _ _

theorem own_at {w : World} {B g n cap : Nat} {xs : List Int} (h : w.ownsRow B 2 1 (.slice (some ⟨g, 0, none⟩) n cap) n (xs.map (Value.int .i64))) (j : Nat) (hj : j < n) : w.cell? ⟨g, j, none⟩ = some (.int .i64 (xs[j]?.getD 0)) := by
  have hl := h.1
  rw [List.length_map] at hl
  rw [h.cellAt j (by omega), List.getElem?_map, List.getElem?_eq_getElem (by omega)]
  rfl

/-- The copy: in new memory; it owns the numbers and reads as they do. -/
theorem toInt64S_any (v : Value) (n : Nat) (G : Nat → Int) (w : World) (hn : n ≤ 17592186044416) (h : RdI w v n G) :
    Calls Try.prog 46 #[v] w fun e w' => ∃ u, e = .returned u ∧ w'.ownsRow w.heap.size 2 1 u n ((cpy G n n).map (Value.int .i64)) ∧ Below w.heap.size w w' := by
  obtain ⟨i0, hi, hz0, hz1, hz2⟩ := info_parts Try.info2
  obtain ⟨a, cap, rfl, hm, hc⟩ := h
  by_cases h0 : n = 0
  · subst h0
    clear hc
    go_enter Try.func46, Try.ntmps46
    go_wp2_with (at_make; refine wpList_make_full _ rfl _ _ 65 rfl w.heap.size 2 i0 (.int .i64 0) 1 Try.underlying65 hi hz0 hz1 .i64 .i64 0 0 0 rfl rfl rfl rfl (by omega) (by unfold maxLen; omega) (Nat.le_refl _) ?_; intro w1 hown hgrow; rw [made_list0, ← cpy_zero G 0] at hown; have H1 := Lib.hid hown; have G1 := Lib.hid hgrow; clear hown hgrow)
    refine wp_loop_rounds 1 ?_
    rw [rounds_succ]
    go_wp2
    go_ret
    exact ⟨_, rfl, H1.out, (Below.refl _ w).grown G1.out (Nat.le_refl _) (by intro k hk; cases hk)⟩
  · obtain ⟨b, off, rfl, hc'⟩ := hc.resolve_left h0
    have HC := Lib.hid hc'
    have hlt0 : ∀ i, i < n → b < w.heap.size := fun i hi => World.block_lt_of_cell? w ⟨b, off + i, none⟩ (hc' i hi)
    have hbl := hlt0 0 (by omega)
    clear hc hc' hlt0 h0
    go_enter Try.func46, Try.ntmps46
    go_wp2_with (at_make; refine wpList_make_full _ rfl _ _ 65 rfl w.heap.size 2 i0 (.int .i64 0) 1 Try.underlying65 hi hz0 hz1 .i64 .i64 (n : Int) (n : Int) n rfl rfl rfl rfl (by rw [hz2]; omega) hm (Nat.le_refl _) ?_; intro w1 hown hgrow; rw [made_list0, ← cpy_zero G n] at hown; have H1 := Lib.hid hown; have G1 := Lib.hid hgrow; clear hown hgrow)
    unfold maxLen at hm
    have B1 : Below w.heap.size w w1 := (Below.refl _ w).grown G1.out (Nat.le_refl _) (by intro k hk; cases hk)
    clear G1
    go_loopw [4] (fun c wr => ∃ j : Nat, j ≤ n ∧ c = .int .i64 j ∧ Hid (wr.ownsRow w.heap.size 2 1 (.slice (some ⟨w.heap.size, 0, none⟩) n n) n ((cpy G n j).map (Value.int .i64))) ∧ Below w.heap.size w wr) (fun c _ => n - (intOf c).toNat)
    case atStart => exact ⟨0, by omega, rfl, H1, B1⟩
    case round =>
      clear H1 B1
      obtain ⟨j, hj, rfl, ho, hb⟩ := hrel
      by_cases hlt : j < n
      · have hlt' : (j : Int) < (n : Int) := by omega
        have c1 : wr.cell? ⟨b, off + j, none⟩ = some (.int .i64 (G j)) := (hb.cell (p := ⟨b, off + j, none⟩) hbl).trans (HC.out j hlt)
        have c2 := own_at ho.out j hlt
        have f2 := ho.out.frozenAt j
        have hst := ho.out.stored j (.int .i64 (G j))
        rw [← List.map_set, cpy_set] at hst
        have HS := Lib.hid hst
        generalize (cpy G n j)[j]?.getD 0 = z at c2
        clear hst ho
        go_wp2
        go_roundw
        case rel => exact ⟨j + 1, by omega, by go_num, Lib.hid HS.out.1, hb.setCell (Nat.le_refl _) _⟩
        case measure => simp [intOf]; omega
      · obtain rfl : j = n := by omega
        go_wp2
        go_ret
        exact ⟨_, rfl, ho.out, hb⟩
end Go.Proofs.Ytnmilkehggjpfaa
end
section
namespace Go.Proofs.Ytnmilkehggjpfaa
open Go.RowKit
set_option maxRecDepth 100000
set_option linter.unusedVariables false

theorem own_sameblock {w w' : World} {B : Nat} {v : Value} {n : Nat} {xs : List Value} {e : TypeId} {s : Nat} (h : w.ownsRow B e s v n xs)
    (k : ∀ g, v.ownBlock = some g → w'.heap[g]? = w.heap[g]?) : w'.ownsRow B e s v n xs := by
  refine ⟨h.1, ?_⟩
  rcases h.2 with hn | ⟨g, cap, cur, rfl, hb, hg, rest⟩
  · exact .inl hn
  · refine .inr ⟨g, cap, cur, rfl, hb, ?_, rest⟩
    rw [k g rfl]
    exact hg

/-- Two rows of different element types lie in different blocks. -/
theorem own_types {w : World} {B B' : Nat} {v v' : Value} {n n' : Nat} {xs xs' : List Value} {e e' : TypeId} {s s' : Nat} (h : w.ownsRow B e s v n xs) (h' : w.ownsRow B' e' s' v' n' xs') (he : e ≠ e') :
    v.ownBlock = none ∨ v.ownBlock ≠ v'.ownBlock := by
  rcases h.2 with ⟨rfl, _⟩ | ⟨g, cap, cur, rfl, _, hg, _⟩
  · exact .inl rfl
  · refine .inr fun e0 => ?_
    rcases h'.2 with ⟨rfl, _⟩ | ⟨g', cap', cur', rfl, _, hg', _⟩
    · cases e0
    · simp only [Value.ownBlock, Option.some.injEq] at e0
      subst e0
      rw [hg] at hg'
      cases hg'
      exact he rfl

end Go.Proofs.Ytnmilkehggjpfaa
end
section
namespace Go.Proofs.Ytnmilkehggjpfaa
open Go.RowKit
set_option maxRecDepth 100000
set_option linter.unusedVariables false

/-- V owns a row of m slice values VS 0, .., each of which owns the numbers Y i. -/
structure Fam (w : World) (B : Nat) (V : Value) (m : Nat) (VS : Nat → Value) (Y : Nat → List Int) : Prop where
  out : w.ownsRow B 65 1 V m ((List.range m).map VS)
  inn : ∀ i, i < m → w.ownsRow B 2 1 (VS i) (Y i).length ((Y i).map (Value.int .i64))

/-- The rows do not share memory. -/
def Sep (m : Nat) (VS : Nat → Value) : Prop := ∀ i j, i < m → j < m → i ≠ j → (VS i).ownBlock = none ∨ (VS i).ownBlock ≠ (VS j).ownBlock

theorem Fam.below {w w' : World} {B : Nat} {V : Value} {m : Nat} {VS : Nat → Value} {Y : Nat → List Int} (h : Fam w B V m VS Y) (k : Below w.heap.size w w') : Fam w' B V m VS Y :=
  ⟨own_below h.out k, fun i hi => own_below (h.inn i hi) k⟩

theorem Fam.drewN {w : World} {B : Nat} {V : Value} {m : Nat} {VS : Nat → Value} {Y : Nat → List Int} (h : Fam w B V m VS Y) (q : Nat) : Fam (w.drewN q) B V m VS Y := ⟨h.out, h.inn⟩

/-- What lies below C stays when all that lies below C stays. -/
theorem own_lowC {w w' : World} {B C : Nat} {v : Value} {n : Nat} {xs : List Value} {e : TypeId} {s : Nat} (h : w.ownsRow B e s v n xs) (hc : ∀ g, v.ownBlock = some g → g < C) (k : Below C w w') : w'.ownsRow B e s v n xs :=
  own_sameblock h fun g hg => k.block g (hc g hg)

theorem Fam.lowC {w w' : World} {B C : Nat} {V : Value} {m : Nat} {VS : Nat → Value} {Y : Nat → List Int} (h : Fam w B V m VS Y) (hV : ∀ g, V.ownBlock = some g → g < C) (hS : ∀ i, i < m → ∀ g, (VS i).ownBlock = some g → g < C) (k : Below C w w') : Fam w' B V m VS Y :=
  ⟨own_lowC h.out hV k, fun i hi => own_lowC (h.inn i hi) (hS i hi) k⟩

/-- The shape of a family's head. -/
theorem Fam.head {w : World} {B : Nat} {V : Value} {m : Nat} {VS : Nat → Value} {Y : Nat → List Int} (h : Fam w B V m VS Y) : ∃ a cap, V = .slice a m cap ∧ m ≤ maxLen ∧ (m = 0 ∨ ∃ b, a = some ⟨b, 0, none⟩ ∧ ∀ i, i < m → w.cell? ⟨b, i, none⟩ = some (VS i)) := by
  rcases h.out.2 with ⟨rfl, h0⟩ | ⟨g, cap, cur, rfl, hb, hg, h1, h2, h3, h4⟩
  · exact ⟨none, 0, by rw [h0], by rw [h0]; exact Nat.zero_le _, .inl h0⟩
  · refine ⟨_, cap, rfl, Nat.le_trans h1 h2, .inr ⟨g, rfl, fun i hi => ?_⟩⟩
    rw [h.out.cellAt i (by omega)]
    simp [hi]

theorem Fam.rd {w : World} {B : Nat} {V : Value} {m : Nat} {VS : Nat → Value} {Y : Nat → List Int} (h : Fam w B V m VS Y) (i : Nat) (hi : i < m) : RdI w (VS i) (Y i).length (fun j => (Y i)[j]?.getD 0) :=
  rd_of_own (h.inn i hi) rfl

theorem eqInt64SS_same (Va Vb : Value) (m : Nat) (Ba Bb : Nat) (VA VB : Nat → Value) (Y : Nat → List Int) (w : World) (ha : Fam w Ba Va m VA Y) (hb : Fam w Bb Vb m VB Y) :
    Calls Try.prog 54 #[Va, Vb] w fun e w' => e = .returned (.bool true) ∧ ∃ q, w' = w.drewN q := by
  obtain ⟨aa, capa, rfl, hm, hca⟩ := ha.head
  obtain ⟨ab, capb, rfl, _, hcb⟩ := hb.head
  unfold maxLen at hm
  have RA := Lib.hid ha.rd
  have RB := Lib.hid hb.rd
  clear ha hb
  by_cases h0 : m = 0
  · subst h0
    clear hca hcb RA RB
    go_enter Try.func54, Try.ntmps54
    go_wp2
    refine wp_loop_rounds 1 ?_
    rw [rounds_succ]
    go_wp2
    go_ret
    exact ⟨rfl, 0, rfl⟩
  · obtain ⟨ba, rfl, hca'⟩ := hca.resolve_left h0
    obtain ⟨bb, rfl, hcb'⟩ := hcb.resolve_left h0
    have hpos : 0 < m := by omega
    have HA := Lib.hid hca'
    have HB := Lib.hid hcb'
    clear hca hcb hca' hcb' h0
    go_enter Try.func54, Try.ntmps54
    go_wp2
    go_loopw [5] (fun i wr => ∃ k q : Nat, k ≤ m ∧ i = .int .i64 k ∧ Hid (wr = w.drewN q)) (fun i _ => m - (intOf i).toNat)
    case atStart => exact ⟨0, 0, by omega, rfl, Lib.hid rfl⟩
    case round =>
      obtain ⟨k, q, hk, rfl, hw⟩ := hrel
      by_cases hlt : k < m
      · have c1 : wr.cell? ⟨ba, k, none⟩ = some (VA k) := by rw [hw.out]; exact HA.out k hlt
        have c2 : wr.cell? ⟨bb, k, none⟩ = some (VB k) := by rw [hw.out]; exact HB.out k hlt
        have hlt' : (k : Int) < (m : Int) := by omega
        have E : ∀ n, Calls Try.prog 48 #[VA k, VB k] (wr.drewN n) fun e w' => e = .returned (.bool true) ∧ ∃ p, w' = (wr.drewN n).drewN p := by
          intro n
          have e1 : RdI (wr.drewN n) (VA k) (Y k).length (fun j => (Y k)[j]?.getD 0) := by rw [hw.out]; exact RA.out k hlt
          have e2 : RdI (wr.drewN n) (VB k) (Y k).length (fun j => (Y k)[j]?.getD 0) := by rw [hw.out]; exact RB.out k hlt
          exact eqInt64S_same _ _ _ _ _ e1 e2
        have E := Lib.hid E
        generalize VA k = va at c1 E
        generalize VB k = vb at c2 E
        go_wp2
        go_quiet ((go_at_call 48; exact Calls.quiet_of (E.out _)))
        go_wp2
        go_roundw
        case rel => exact ⟨k + 1, q + nq, by omega, by go_num, Lib.hid (by rw [hw.out]; exact World.drewN_drewN ..)⟩
        case measure => simp [intOf]; omega
      · go_wp2
        go_ret
        exact ⟨rfl, q, hw.out⟩

/-- The first number of row i, if the numbers k, k + 1, .. are laid into the rows one after the other. -/
def off (k : Int) (L : Nat → Nat) : Nat → Int
  | 0 => k
  | i + 1 => off k L i + (L i : Int)
theorem off_mono (k : Int) (L : Nat → Nat) (i j : Nat) : off k L i ≤ off k L (i + j) := by
  induction j with
  | zero => exact Int.le_refl _
  | succ j ih => rw [← Nat.add_assoc, off]; omega
theorem off_le (k : Int) (L : Nat → Nat) (i m : Nat) (h : i ≤ m) : off k L i ≤ off k L m := by
  obtain ⟨j, rfl⟩ : ∃ j, m = i + j := ⟨m - i, by omega⟩
  exact off_mono k L i j
theorem off_low (k : Int) (L : Nat → Nat) (i : Nat) : k ≤ off k L i := by
  have h := off_mono k L 0 i
  rw [Nat.zero_add] at h
  exact h

/-- The rows behind the marking of the first j. -/
def mkd (k : Int) (Y : Nat → List Int) (j : Nat) (i : Nat) : List Int := if i < j then marks (off k (fun i => (Y i).length) i) (Y i).length else Y i
theorem mkd_len (k : Int) (Y : Nat → List Int) (j i : Nat) : (mkd k Y j i).length = (Y i).length := by
  unfold mkd
  split
  · exact marks_length _ _
  · rfl

theorem markInt64SS_own (V : Value) (m : Nat) (B : Nat) (VS : Nat → Value) (Y : Nat → List Int) (w : World) (h : Fam w B V m VS Y) (hs : Sep m VS)
    (hk : off 1 (fun i => (Y i).length) m ≤ 1152921504606846976) :
    Calls Try.prog 60 #[V, .int .i64 1] w fun e w' => e = .returned (.int .i64 (off 1 (fun i => (Y i).length) m)) ∧ Fam w' B V m VS (mkd 1 Y m) ∧ Below B w w' := by
  obtain ⟨a, cap, hV, hm, hc⟩ := h.head
  unfold maxLen at hm
  by_cases h0 : m = 0
  · subst h0
    subst hV
    clear hc
    have H := Lib.hid h
    go_enter Try.func60, Try.ntmps60
    go_wp2
    refine wp_loop_rounds 1 ?_
    rw [rounds_succ]
    go_wp2
    go_ret
    exact ⟨rfl, ⟨H.out.out, fun i hi => absurd hi (by omega)⟩, Below.refl _ _⟩
  · obtain ⟨b, rfl, hc'⟩ := hc.resolve_left h0
    have hB0 : B ≤ b := by
      have := h.out.lt b (by rw [hV]; rfl)
      exact this.1
    have HK := Lib.hid hk
    have HS := Lib.hid hs
    have H := Lib.hid h
    have HV := Lib.hid hV
    generalize hL : (fun i => (Y i).length) = L at hk ⊢
    have HL := Lib.hid hL
    clear hL hc hc' h0 hs h
    rw [HV.out]
    clear hV
    go_enter Try.func60, Try.ntmps60
    go_wp2
    go_loopw [1, 5] (fun c i wr => ∃ j : Nat, j ≤ m ∧ i = .int .i64 j ∧ c = .int .i64 (off 1 L j) ∧ Hid (Fam wr B V m VS (mkd 1 Y j)) ∧ Hid (Below B w wr)) (fun _ i _ => m - (intOf i).toNat)
    case atStart => exact ⟨0, by omega, rfl, rfl, Lib.hid ⟨H.out.out, fun i hi => by rw [show mkd 1 Y 0 i = Y i by unfold mkd; rw [if_neg (by omega)]]; exact H.out.inn i hi⟩, Lib.hid (Below.refl _ _)⟩
    case round =>
      obtain ⟨j, hj, rfl, rfl, hF, hB⟩ := hrel
      by_cases hlt : j < m
      · have hlt' : (j : Int) < (m : Int) := by omega
        have c1 : wr.cell? ⟨b, j, none⟩ = some (VS j) := by
          obtain ⟨a', cap', hV', _, hc'⟩ := hF.out.head
          rw [HV.out] at hV'
          cases hV'
          obtain ⟨b', e, hc''⟩ := hc'.resolve_left (by omega)
          cases e
          exact hc'' j hlt
        have hlow := off_low 1 L j
        have hup := off_le 1 L (j + 1) m (by omega)
        have hsm : off 1 L m ≤ 1152921504606846976 := by rw [← HL.out]; exact HK.out
        have hnx : off 1 L (j + 1) = off 1 L j + (L j : Int) := rfl
        have hY : mkd 1 Y j j = Y j := by unfold mkd; rw [if_neg (by omega)]
        have hLj : (Y j).length = L j := by rw [← HL.out]
        have hin := hF.out.inn j hlt
        rw [hY, hLj] at hin
        have M := Lib.hid (markInt64S_own (VS j) (L j) _ (off 1 L j) B wr (by omega) (by omega) (by omega) hin)
        have NX : Hid (off 1 L (j + 1) = off 1 L j + (L j : Int)) := Lib.hid hnx
        clear hin hY hLj hnx hup hlow hsm hk
        generalize hvj : VS j = vj at c1 M
        have HVJ := Lib.hid hvj
        clear hvj
        go_wp2_with fail
        refine M.out.mono ?_
        rintro e w2 ⟨rfl, ho2, hg2, hs2⟩
        have F2 : Hid (Fam w2 B V m VS (mkd 1 Y (j + 1))) := by
          refine Lib.hid ⟨?_, fun i hi => ?_⟩
          · refine hF.out.out.kept hg2 ?_
            rw [← HVJ.out]
            exact own_types hF.out.out (hF.out.inn j hlt) (by decide)
          · by_cases e : i = j
            · subst e
              have e2 : mkd 1 Y (i + 1) i = marks (off 1 L i) (L i) := by unfold mkd; rw [if_pos (by omega), HL.out, ← HL.out]
              rw [e2, marks_length, HVJ.out]
              exact ho2
            · have e2 : mkd 1 Y (j + 1) i = mkd 1 Y j i := by
                unfold mkd
                by_cases h1 : i < j
                · rw [if_pos h1, if_pos (by omega)]
                · rw [if_neg h1, if_neg (by omega)]
              rw [e2]
              refine (hF.out.inn i hi).kept hg2 ?_
              rw [← HVJ.out]
              exact HS.out i j hi hlt e
        have hsz : B ≤ wr.heap.size := by
          have h1 := (hF.out.out.lt b (by rw [HV.out]; rfl))
          omega
        have B2 : Hid (Below B w w2) := Lib.hid (hB.out.grown hg2 hsz (fun k hk2 => ((hF.out.inn j hlt).lt k (by rw [HVJ.out]; exact hk2.symm ▸ rfl)).1))
        clear hg2 ho2 hs2 hF hB M
        go_wp2
        go_roundw
        case rel => exact ⟨j + 1, by omega, by go_num, by rw [NX.out], F2, B2⟩
        case measure => simp [intOf]; omega
      · obtain rfl : j = m := by omega
        go_wp2
        go_ret
        exact ⟨rfl, by rw [← HV.out]; exact hF.out, hB.out⟩

theorem heldInt64SS_own (V : Value) (m : Nat) (B : Nat) (VS : Nat → Value) (Y : Nat → List Int) (w : World) (h : Fam w B V m VS (mkd 1 Y m))
    (hk : off 1 (fun i => (Y i).length) m ≤ 1152921504606846976) :
    Calls Try.prog 61 #[V, .int .i64 1] w fun e w' => e = .returned (.int .i64 (off 1 (fun i => (Y i).length) m)) ∧ w = w' := by
  obtain ⟨a, cap, rfl, hm, hc⟩ := h.head
  unfold maxLen at hm
  by_cases h0 : m = 0
  · subst h0
    clear hc h
    go_enter Try.func61, Try.ntmps61
    go_wp2
    refine wp_loop_rounds 1 ?_
    rw [rounds_succ]
    go_wp2
    go_ret
    exact ⟨rfl, rfl⟩
  · obtain ⟨b, rfl, hc'⟩ := hc.resolve_left h0
    have HK := Lib.hid hk
    have H := Lib.hid h
    have HC := Lib.hid hc'
    generalize hL : (fun i => (Y i).length) = L at hk ⊢
    have HL := Lib.hid hL
    clear hL hc hc' h0 h
    go_enter Try.func61, Try.ntmps61
    go_wp2
    go_loop [1, 5] (fun c i => ∃ j : Nat, j ≤ m ∧ i = .int .i64 j ∧ c = .int .i64 (off 1 L j)) (fun _ i => m - (intOf i).toNat)
    case atStart => exact ⟨0, by omega, rfl, rfl⟩
    case round =>
      obtain ⟨j, hj, rfl, rfl⟩ := hrel
      by_cases hlt : j < m
      · have hlt' : (j : Int) < (m : Int) := by omega
        have c1 := HC.out j hlt
        have hlow := off_low 1 L j
        have hup := off_le 1 L (j + 1) m (by omega)
        have hsm : off 1 L m ≤ 1152921504606846976 := by rw [← HL.out]; exact HK.out
        have hnx : off 1 L (j + 1) = off 1 L j + (L j : Int) := rfl
        have hY : mkd 1 Y m j = marks (off 1 L j) (L j) := by unfold mkd; rw [if_pos hlt, ← HL.out]
        have hin := H.out.inn j hlt
        rw [hY, marks_length] at hin
        have M := Lib.hid (heldInt64S_own (VS j) (L j) (off 1 L j) B w (by omega) (by omega) (by omega) hin)
        have NX : Hid (off 1 L (j + 1) = off 1 L j + (L j : Int)) := Lib.hid hnx
        have hge : ¬ off 1 L j + (L j : Int) < 0 := by omega
        clear hin hY hnx hup hlow hsm hk
        generalize VS j = vj at c1 M
        go_wp2_with (go_at_call 94; refine M.out.mono ?_; rintro e w2 ⟨rfl, rfl⟩)
        go_round
        case rel => exact ⟨j + 1, by omega, by go_num, by rw [NX.out]⟩
        case measure => simp [intOf]; omega
      · obtain rfl : j = m := by omega
        go_wp2
        go_ret
        exact ⟨rfl, rfl⟩
end Go.Proofs.Ytnmilkehggjpfaa
end
