/-
  Joined: YJoin, YImMul.
-/
import Derived.Test.YtggebkcmokpcmaaZBHit22
import Derived.Test.YtggebkcmokpcmaaZBHit20
import Derived.Test.YtggebkcmokpcmaaZBHit21
section
namespace Go.Proofs.Ytggebkcmokpcmaa
open Go.RowKit Go.Maps
set_option linter.unusedVariables false
set_option maxRecDepth 100000

theorem flat_atY (s : Nat) : ∀ (ks : List (Array Value)), (∀ k ∈ ks, k.size = s) → ∀ i, i < ks.length → ∀ j, j < s → (ks.flatMap Array.toList)[i * s + j]? = (ks[i]?.getD #[]).toList[j]?
  | [], _, i, hi, _, _ => absurd hi (Nat.not_lt_zero _)
  | k :: ks, h, 0, _, j, hj => by
    have hk := h k List.mem_cons_self
    rw [List.flatMap_cons, List.getElem?_append_left (by rw [Array.length_toList]; omega)]
    simp
  | k :: ks, h, i + 1, hi, j, hj => by
    have hk := h k List.mem_cons_self
    have e : (i + 1) * s + j = s + (i * s + j) := by rw [Nat.succ_mul]; omega
    rw [List.flatMap_cons, List.getElem?_append_right (by rw [Array.length_toList, e]; omega), Array.length_toList, hk, e, Nat.add_sub_cancel_left]
    have := flat_atY s ks (fun k' hk' => h k' (List.mem_cons_of_mem _ hk')) i (by simpa using hi) j hj
    simpa using this
theorem rdY_of_own {w : World} {B : Nat} {v : Value} {zs : List (List Int)} (h : OwnY w B v (zs.map pwK)) (hz : ∀ z ∈ zs, z.length = 4) : RdY w v (zs.map pwK) := by
  have hk : ∀ k ∈ zs.map pwK, k.size = 4 := fun k hk => by
    obtain ⟨z, h1, rfl⟩ := List.mem_map.1 hk
    rw [pwK_size, hz z h1]
  unfold OwnY at h
  generalize zs.map pwK = ks at *
  rcases h.2 with ⟨rfl, h0⟩ | ⟨g, cap, cur, rfl, hb, hg, h1, h2, h3, h4⟩
  · exact ⟨none, 0, by rw [h0], by rw [h0]; exact Nat.zero_le _, .inl h0⟩
  · refine ⟨_, cap, rfl, Nat.le_trans h1 h2, .inr ⟨g, 0, rfl, (Array.getElem?_eq_some_iff.1 hg).1, fun i hi j u hj => ?_⟩⟩
    have hks : (ks[i]?.getD #[]).size = 4 := by
      rw [List.getElem?_eq_getElem hi]
      exact hk _ (List.getElem_mem hi)
    have hjs : j < 4 := by
      have := (List.getElem?_eq_some_iff.1 hj).1
      rw [Array.length_toList, hks] at this
      exact this
    have e := flat_atY 4 ks hk i hi j hjs
    rw [hj] at e
    have hlen : i * 4 + j < (ks.flatMap Array.toList).length := (List.getElem?_eq_some_iff.1 e).1
    rw [Nat.zero_add, h.cellAt (i * 4 + j) (by have := h.1; omega)]
    exact e

/-- V reads as lists of monomials. -/
def RdPs (w : World) (V : Value) (P : List (List (List Int))) : Prop :=
  ∃ (a : Option Addr) (cap : Nat) (vs : Nat → Value), V = .slice a P.length cap ∧ P.length ≤ maxLen ∧ (P.length = 0 ∨ ∃ b off, a = some ⟨b, off, none⟩ ∧ b < w.heap.size ∧ ∀ i, i < P.length → w.cell? ⟨b, off + i, none⟩ = some (vs i)) ∧ ∀ i, i < P.length → RdY w (vs i) ((P[i]?.getD []).map pwK)
theorem RdPs.below {w w' : World} {V : Value} {P : List (List (List Int))} (h : RdPs w V P) (k : Below w.heap.size w w') : RdPs w' V P := by
  obtain ⟨a, cap, vs, e, hm, hc, hr⟩ := h
  refine ⟨a, cap, vs, e, hm, ?_, fun i hi => (hr i hi).below k⟩
  rcases hc with h0 | ⟨b, off, e, hb, hc⟩
  · exact .inl h0
  · exact .inr ⟨b, off, e, Nat.lt_of_lt_of_le hb k.size, fun i hi => (k.cell (p := ⟨b, off + i, none⟩) hb).trans (hc i hi)⟩

end Go.Proofs.Ytggebkcmokpcmaa
end
section
namespace Go.Proofs.Ytggebkcmokpcmaa.Pl
open Go.RowKit
set_option linter.unusedVariables false
set_option maxRecDepth 100000

/-- What IsPoly tells of both. -/
def IsPsM (r0 r1 : Bool) (k0 k1 : Int) (a0 a1 : Option Addr) (m n q0 q1 : Nat) (w : World) : Prop :=
  (∀ wx, Below w.heap.size w wx → Calls Try.prog 57 #[.agg #[.int .i64 k0, .slice a0 m q0]] wx (SaysB r0 wx)) ∧ (∀ wx, Below w.heap.size w wx → Calls Try.prog 57 #[.agg #[.int .i64 k1, .slice a1 n q1]] wx (SaysB r1 wx))

theorem gb_below {w w' : World} (h : Below w.heap.size w w') (q : Option Nat) : w.grownBy w' q := ⟨h.os, h.tape, h.output, h.size, fun k hk _ => h.block k hk⟩
theorem _root_.Go.Proofs.Ytggebkcmokpcmaa.Box.gb {w w' : World} {g R : Nat} {t : TypeId} {x y : Value} (h : Box w g t x y) (k : w.grownBy w' (some R)) (hne : g ≠ R) : Box w' g t x y := (k.block g h.lt (by simpa using hne)).trans h

/-- RdSS, told of a degree: 0 has the degree 0. -/
def DegPM (w : World) (k : Int) (a : Option Addr) (m q : Nat) (x : Int) : Prop := ∀ wx, Below w.heap.size w wx → Calls Try.prog 58 #[.agg #[.int .i64 k, .slice a m q]] wx fun e w' => e = .returned (.int .i64 x) ∧ Below wx.heap.size wx w'

/-- What ends the call with a polynomial. -/
theorem okEndM {w w3 wD : World} {k0 k1 : Int} {V0 V1 : Value} {C : Int} {M : List (List Int)} {va : Option Addr} {vc : Nat} {VS : Nat → Value} (h : Bx3M w k0 V0 k1 V1 w3) (b : Below w3.heap.size w3 wD) (f : FamL wD w.heap.size (.slice va M.length vc) VS M) (s : Sep M.length VS) (cd : Int) :
    Box ((wD.setCell ⟨w.heap.size + 1 + 1, 0, none⟩ (.int .i64 C)).setCell ⟨w.heap.size + 1 + 1, 1, none⟩ (.slice va M.length vc)) (w.heap.size + 1 + 1) 31 (.int .i64 C) (.slice va M.length vc) ∧
    ResY C M cd w (.returned (.tuple #[.agg #[.int .i64 C, .slice va M.length vc], .int .i64 cd])) ((wD.setCell ⟨w.heap.size + 1 + 1, 0, none⟩ (.int .i64 C)).setCell ⟨w.heap.size + 1 + 1, 1, none⟩ (.slice va M.length vc)) := by
  have S9 := h.up b
  have FIN := OwnF.stored (w0 := w) (c := C) S9.boxR f s (by omega)
  exact ⟨FIN.box, _, VS, rfl, FIN.fam, FIN.sep, (S9.bel.setCell (p := ⟨w.heap.size + 1 + 1, 0, none⟩) (by simp; omega) _).setCell (p := ⟨w.heap.size + 1 + 1, 1, none⟩) (by simp; omega) _⟩

theorem unpackedM_any (v : Value) (k : Nat) (zs : List (List Int)) (w : World) (h : RdY w v (zs.map pwK)) (hk : 1 ≤ k ∧ k ≤ 4) (hz : ∀ z ∈ zs, z.length = 4) :
    Calls Try.prog 55 #[v, .int .i64 (k : Int)] w (ResY (fitC k (zs.map (List.take k))) (fitL (zs.map (List.take k))) (fitD (zs.map (List.take k))) w) := by
  by_cases hl : zs.length ≤ 2000
  · have h2 : (zs.map (List.take k)).length ≤ 2000 := by rw [List.length_map]; exact hl
    rw [show fitC (k : Int) (zs.map (List.take k)) = (k : Int) from if_pos h2, show fitL (zs.map (List.take k)) = zs.map (List.take k) from if_pos h2, show fitD (zs.map (List.take k)) = 0 from if_pos h2]
    exact unpacked_few v k zs w h hl hk hz
  · have h2 : ¬ (zs.map (List.take k)).length ≤ 2000 := by rw [List.length_map]; exact hl
    rw [show fitC (k : Int) (zs.map (List.take k)) = 0 from if_neg h2, show fitL (zs.map (List.take k)) = [] from if_neg h2, show fitD (zs.map (List.take k)) = 3 from if_neg h2]
    exact unpacked_many v k zs w h (by omega)

end Go.Proofs.Ytggebkcmokpcmaa.Pl
end
