/-
  Joined: NNilB.
-/
import Derived.Test.YtfgkpkdoemnnmaaZNilpotenceOf01
import Derived.Deep.DeepCutAuto
import Derived.Deep.RegionHeld3
import Derived.Deep.RegionLaw
import Derived.Deep.AppendLies
section
namespace Go.Proofs.Ytfgkpkdoemnnmaa.Ml
open Go.RowKit
set_option linter.unusedVariables false
set_option maxRecDepth 100000

/-- What powersOf gives back. -/
def PwPost (w : World) (X : Nat → List Int) (m n : Nat) (e : Ending) (w' : World) : Prop :=
  ∃ (g cap : Nat) (US : Nat → Value), e = .returned (.slice (some ⟨g, 0, none⟩) n cap) ∧ g < w'.heap.size ∧ (∀ j, j < n → w'.cell? ⟨g, j, none⟩ = some (US j)) ∧ (∀ j, j < n → ∃ a c, US j = .slice a (npw X m j).2 c) ∧ Below w.heap.size w w'
theorem PwS.head {w W : World} {X : Nat → List Int} {m k : Nat} {va S : Value} {US : Nat → Value} (h : PwS w X m k va S US W) :
    ∃ g cap, S = .slice (some ⟨g, 0, none⟩) (k + 1) cap ∧ g < W.heap.size ∧ ∀ j, j < k + 1 → W.cell? ⟨g, j, none⟩ = some (US j) := by
  rcases h.row.2 with ⟨_, h0⟩ | ⟨g, cap, cur, rfl, hb, hg, h1, h2, h3, h4⟩
  · omega
  · refine ⟨g, cap, rfl, World.block_lt_of_cell? (a := ⟨g, 0, none⟩) (u := US 0) W ?_, fun i hi => ?_⟩
    · rw [h.row.cellAt 0 (by omega)]
      simp
    · rw [h.row.cellAt i (by omega)]
      simp [hi]

/-- append of one struct, as a step of a region that draws. -/
theorem step_mil1 {w : World} {ops : Array Oper} {o : Oper} {a : Act} {K : Act → World → Prop} {Q : Exit → Act → World → Prop} {E : Prop} (hgd : o.guard = none) (s x : Operand)
    (ho : o.op = .call { callee := .builtin .append, args := #[s, x], argTypes := #[79, 79] })
    (B : Nat) (v : Value) (n : Nat) (xs : List Value) (hs : a.eval s = v) (hown : w.ownsRow B 26 1 v n xs)
    (ra : Option Addr) (rl rc g c : Nat) (hx : a.eval x = .slice (some ⟨g, 0, none⟩) 1 c) (hc : w.cell? ⟨g, 0, none⟩ = some (.slice ra rl rc)) (hn : n ≤ 1000000) (hB : B ≤ w.heap.size)
    (h : ∀ va vc w', w'.ownsRow B 26 1 (.slice va (n + 1) vc) (n + 1) (xs ++ [.slice ra rl rc]) → w.grownBy w' v.ownBlock → K (a.put o.dst (.slice va (n + 1) vc)) w') :
    if Region.wanted o (yielded ops a.tmps) = true then Oper.wp Try.prog o a w K Q else E := by
  obtain ⟨i0, hi, hz0, hz1, hz2⟩ := info_parts infoM1
  refine step_append_lies w hgd s x 79 ho B 26 i0 (.agg #[.slice none 0 0]) 1 24 Try.underlying79 hi hz0 hz1 hz2 rfl (by decide) v n xs hs hown ⟨g, 0, none⟩ 1 c [.slice ra rl rc] hx rfl ?_ ?_ (by decide) ?_ ?_ hB _ rfl ?_
  · intro j u hj
    match j, hj with
    | 0, hj => simp at hj; subst hj; simpa [Addr.add] using hc
  · intro u hu; simp at hu; subst hu; rfl
  · unfold maxLen; omega
  · omega
  · intro g' cap w' h1 h2 _ _
    exact h _ _ w' h1 h2

set_option maxHeartbeats 2000000 in
theorem powersOf_any (X : Nat → List Int) (a : Option Addr) (m cap n : Nat) (w : World) (hr : RdSS w (.slice a m cap) m X) (h1 : 1 ≤ n) (hn : n ≤ 40)
    (T : Hid (∀ j, j + 1 < n → ∀ wx S, Below w.heap.size w wx → RdSS wx S (npw X m j).2 (npw X m j).1 → Calls Try.prog 50 #[.agg #[S], .agg #[.slice a m cap]] wx (ResT (npL X m j) wx))) :
    Calls Try.prog 76 #[.agg #[.slice a m cap], .int .i64 (n : Int), .func (.func 50) #[] #[]] w (PwPost w X m n) := by
  have t2 := Try.underlying26
  have P0 := Lib.hid (PwS.start hr)
  clear hr
  go_enter Try.func76, Try.ntmps76
  go_wp2_with fail
  go_loopw [7, 8] (fun S kv wr => ∃ (k : Nat) (US : Nat → Value), k + 1 ≤ n ∧ kv = .int .i64 ((k + 2 : Nat) : Int) ∧ Hid (PwS w X m k (.slice a m cap) S US wr)) (fun _ kv _ => n + 2 - (intOf kv).toNat)
  case atStart => exact ⟨0, _, h1, rfl, P0⟩
  case round =>
    clear P0
    obtain ⟨k, US, hk, rfl, hI⟩ := hrel
    obtain ⟨g, sc, rfl, hg, hcs⟩ := hI.out.head
    by_cases hlt : k + 1 < n
    · have hlt' : ((k + 2 : Nat) : Int) ≤ (n : Int) := by omega
      have d0 := hI.out.bA.c
      have d1 := hcs k (by omega)
      obtain ⟨la, lc, ea⟩ := hI.out.shp k (by omega)
      have ST : Hid (∀ wx, Below wr.heap.size wr wx → Calls Try.prog 50 #[.agg #[US k], .agg #[.slice a m cap]] wx (ResT (npL X m k) wx)) := Lib.hid fun wx hx => T.out k hlt wx _ (hI.out.bel.step1 hx) (hI.out.last.below hx)
      have PU := Lib.hid (fun w5 V VS S' w7 b f ho hg => PwS.push (w5 := w5) (V := V) (VS := VS) (S' := S') (w7 := w7) hI.out b f ho hg)
      have OW : Hid (∀ w5 v, Below wr.heap.size wr w5 → (w5.alloc (.cells #[v] 26)).ownsRow (w.heap.size + 1) 26 1 (.slice (some ⟨g, 0, none⟩) (k + 1) sc) (k + 1) ((List.range (k + 1)).map US)) := Lib.hid fun w5 v b => own_below hI.out.row (b.alloc b.size _)
      have SR : Hid (∀ (w5 : World) v jj u, [v][jj]? = some u → (w5.alloc (.cells #[v] 26)).cell? ((⟨w5.heap.size, 0, none⟩ : Addr).add jj) = some u) := Lib.hid fun w5 v jj u hu => by
        have h0 : jj = 0 := by have := (List.getElem?_eq_some_iff.1 hu).1; simp at this; omega
        subst h0
        simp at hu
        subst hu
        exact cell_of_row _ w5.heap.size 0 _ _ (0, 0) (heap_alloc_new w5 _)
      have SZ : Hid (∀ (w5 : World) v, Below wr.heap.size wr w5 → w.heap.size + 1 ≤ (w5.alloc (.cells #[v] 26)).heap.size) := Lib.hid fun w5 v b => by
        have := hI.out.bA.lt
        have := (b.alloc b.size (.cells #[v] 26)).size
        omega
      have hw1 : wrap64 (((k + 1 : Nat) : Int) - 1) = (k : Int) := by unfold wrap64; omega
      have hw2 : IntKind.i64.wrap (((k + 1 : Nat) : Int) - 1) = (k : Int) := by rw [IntKind.wrap_i64]; omega
      have hkg : k < k + 1 := by omega
      rw [ea] at d1 ST
      clear hcs hI ea
      obtain ⟨c2, hc2⟩ : ∃ c2 : Nat, k + 2 = c2 := ⟨_, rfl⟩
      rw [hc2] at hlt' ⊢
      generalize hq : k + 1 = q at *
      have hki : (k : Int) < (q : Int) := by omega
      have hk0 : ¬ (k : Int) < 0 := by omega
      have hk0' : (0 : Int) ≤ (k : Int) := by omega
      have hwk : wrap64 ((c2 : Int) + 1) = ((q + 2 : Nat) : Int) := by unfold wrap64; omega
      have HW3 := Lib.hid hwk
      have hqk := Lib.hid hq
      have hcq := Lib.hid hc2
      clear hq hc2
      go_wp2_with fail
      go_region_law (first
        | (refine step_mil1 (by rfl) _ _ (by rfl) (w.heap.size + 1) _ q _ (by rfl) (OW.out _ _ B5) av5 _ cv5 _ 1 (by rfl) (World.cell?_alloc_new _ _ _ _) (by omega) (SZ.out _ _ B5) ?_; intro va7 vc7 w7 ho7 hg7)
        | (go_simp; go_at_call 50; refine (ST.out _ ?_).mono ?_; (first | exact (Below.refl _ _).drew | exact Below.refl _ _); rintro e w5 ⟨V5, VS5, rfl, f5, s5, b5⟩; obtain ⟨av5, cv5, rfl, _, _⟩ := Fam.head f5; have B5 : Below wr.heap.size wr w5 := (by first | exact b5 | exact Below.step1 ((Below.refl _ _).drew) b5)))
      all_goals
        have P7 := Lib.hid (PU.out _ _ _ _ _ B5 f5 ho7 hg7)
        clear ho7 hg7 B5 f5 s5 b5
        go_wp2_with fail
        go_roundw
        case rel =>
          have h1 := hqk.out
          have h2 := hcq.out
          have h3 : (c2 : Int) + 1 = ((q + 2 : Nat) : Int) := by clear hwk; omega
          exact ⟨q, _, by clear hwk; omega, congrArg (Value.int .i64) h3, P7⟩
        case measure =>
          have h1 := hqk.out
          have h2 := hcq.out
          simp only [intOf]
          clear hwk
          omega
    · obtain rfl : n = k + 1 := by omega
      have hlt' : ¬ ((k + 2 : Nat) : Int) ≤ ((k + 1 : Nat) : Int) := by omega
      go_wp2_with fail
      go_ret
      exact ⟨g, sc, US, rfl, hg, hcs, hI.out.shp, hI.out.bel⟩
end Go.Proofs.Ytfgkpkdoemnnmaa.Ml
end
