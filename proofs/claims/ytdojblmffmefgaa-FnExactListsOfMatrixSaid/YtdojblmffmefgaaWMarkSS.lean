/-
  laws.markInt64SS: what it leaves as it was.
-/
import Derived.Test.YtdojblmffmefgaaWToSS
import Derived.Test.YtdojblmffmefgaaMLaw
namespace Go.Proofs.Ytdojblmffmefgaa
open Go.RowKit
set_option linter.unusedVariables false
set_option maxRecDepth 100000

/-- All blocks are as they were but those of the rows VS. -/
def MRest (m : Nat) (VS : Nat → Value) (w w' : World) : Prop := w.heap.size ≤ w'.heap.size ∧ ∀ b, b < w.heap.size → (∀ i, i < m → (VS i).ownBlock ≠ some b) → w'.heap[b]? = w.heap[b]?
theorem MRest.refl (m : Nat) (VS : Nat → Value) (w : World) : MRest m VS w w := ⟨Nat.le_refl _, fun _ _ _ => rfl⟩
theorem MRest.grown {m : Nat} {VS : Nat → Value} {w wr w2 : World} (h : MRest m VS w wr) {j : Nat} {vj : Value} (hj : j < m) (e : VS j = vj) (k : wr.grownBy w2 vj.ownBlock) : MRest m VS w w2 :=
  ⟨Nat.le_trans h.1 k.size, fun b hb hn => (k.block b (Nat.lt_of_lt_of_le hb h.1) (fun e2 => hn j hj (by rw [e]; exact e2.symm))).trans (h.2 b hb hn)⟩

theorem markSS_rest (V : Value) (m : Nat) (B : Nat) (VS : Nat → Value) (Y : Nat → List Int) (w : World) (h : Fam w B V m VS Y) (hs : Sep m VS)
    (hk : off 1 (fun i => (Y i).length) m ≤ 1152921504606846976) :
    Calls Try.prog 19 #[V, .int .i64 1] w fun e w' => e = .returned (.int .i64 (off 1 (fun i => (Y i).length) m)) ∧ Fam w' B V m VS (mkd 1 Y m) ∧ Below B w w' ∧ MRest m VS w w' := by
  obtain ⟨a, cap, hV, hm, hc⟩ := h.head
  unfold maxLen at hm
  by_cases h0 : m = 0
  · subst h0
    subst hV
    clear hc
    have H := Lib.hid h
    go_enter Try.func19, Try.ntmps19
    go_wp2
    refine wp_loop_rounds 1 ?_
    rw [rounds_succ]
    go_wp2
    go_ret
    exact ⟨rfl, ⟨H.out.out, fun i hi => absurd hi (by omega)⟩, Below.refl _ _, MRest.refl _ _ _⟩
  · obtain ⟨b, rfl, hc'⟩ := hc.resolve_left h0
    have hB0 : B ≤ b := by
      have := h.out.lt b (by rw [hV]; rfl)
      exact this.1
    have HK := Lib.hid hk
    have HS := Lib.hid hs
    have H := Lib.hid h
    have HV := Lib.hid hV
    generalize hL : (fun i => (Y i).length) = L at hk ⊢
    have HL := Lib.hid hL
    clear hL hc hc' h0 hs h
    rw [HV.out]
    clear hV
    go_enter Try.func19, Try.ntmps19
    go_wp2
    go_loopw [1, 5] (fun c i wr => ∃ j : Nat, j ≤ m ∧ i = .int .i64 j ∧ c = .int .i64 (off 1 L j) ∧ Hid (Fam wr B V m VS (mkd 1 Y j)) ∧ Hid (Below B w wr) ∧ Hid (MRest m VS w wr)) (fun _ i _ => m - (intOf i).toNat)
    case atStart => exact ⟨0, by omega, rfl, rfl, Lib.hid ⟨H.out.out, fun i hi => by rw [show mkd 1 Y 0 i = Y i by unfold mkd; rw [if_neg (by omega)]]; exact H.out.inn i hi⟩, Lib.hid (Below.refl _ _), Lib.hid (MRest.refl _ _ _)⟩
    case round =>
      obtain ⟨j, hj, rfl, rfl, hF, hB, hR⟩ := hrel
      by_cases hlt : j < m
      · have hlt' : (j : Int) < (m : Int) := by omega
        have c1 : wr.cell? ⟨b, j, none⟩ = some (VS j) := by
          obtain ⟨a', cap', hV', _, hc'⟩ := hF.out.head
          rw [HV.out] at hV'
          cases hV'
          obtain ⟨b', e, hc''⟩ := hc'.resolve_left (by omega)
          cases e
          exact hc'' j hlt
        have hlow := off_low 1 L j
        have hup := off_le 1 L (j + 1) m (by omega)
        have hsm : off 1 L m ≤ 1152921504606846976 := by rw [← HL.out]; exact HK.out
        have hnx : off 1 L (j + 1) = off 1 L j + (L j : Int) := rfl
        have hY : mkd 1 Y j j = Y j := by unfold mkd; rw [if_neg (by omega)]
        have hLj : (Y j).length = L j := by rw [← HL.out]
        have hin := hF.out.inn j hlt
        rw [hY, hLj] at hin
        have M := Lib.hid (markInt64S_own (VS j) (L j) _ (off 1 L j) B wr (by omega) (by omega) (by omega) hin)
        have NX : Hid (off 1 L (j + 1) = off 1 L j + (L j : Int)) := Lib.hid hnx
        clear hin hY hLj hnx hup hlow hsm hk
        generalize hvj : VS j = vj at c1 M
        have HVJ := Lib.hid hvj
        clear hvj
        go_wp2_with fail
        refine M.out.mono ?_
        rintro e w2 ⟨rfl, ho2, hg2, hs2⟩
        have F2 : Hid (Fam w2 B V m VS (mkd 1 Y (j + 1))) := by
          refine Lib.hid ⟨?_, fun i hi => ?_⟩
          · refine hF.out.out.kept hg2 ?_
            rw [← HVJ.out]
            exact own_types hF.out.out (hF.out.inn j hlt) (by decide)
          · by_cases e : i = j
            · subst e
              have e2 : mkd 1 Y (i + 1) i = marks (off 1 L i) (L i) := by unfold mkd; rw [if_pos (by omega), HL.out, ← HL.out]
              rw [e2, marks_length, HVJ.out]
              exact ho2
            · have e2 : mkd 1 Y (j + 1) i = mkd 1 Y j i := by
                unfold mkd
                by_cases h1 : i < j
                · rw [if_pos h1, if_pos (by omega)]
                · rw [if_neg h1, if_neg (by omega)]
              rw [e2]
              refine (hF.out.inn i hi).kept hg2 ?_
              rw [← HVJ.out]
              exact HS.out i j hi hlt e
        have hsz : B ≤ wr.heap.size := by
          have h1 := (hF.out.out.lt b (by rw [HV.out]; rfl))
          omega
        have B2 : Hid (Below B w w2) := Lib.hid (hB.out.grown hg2 hsz (fun k hk2 => ((hF.out.inn j hlt).lt k (by rw [HVJ.out]; exact hk2.symm ▸ rfl)).1))
        have R2 : Hid (MRest m VS w w2) := Lib.hid (hR.out.grown hlt HVJ.out hg2)
        clear hg2 ho2 hs2 hF hB hR M
        go_wp2
        go_roundw
        case rel => exact ⟨j + 1, by omega, by go_num, by rw [NX.out], F2, B2, R2⟩
        case measure => simp [intOf]; omega
      · obtain rfl : j = m := by omega
        go_wp2
        go_ret
        exact ⟨rfl, by rw [← HV.out]; exact hF.out, hB.out, hR.out⟩


theorem off_tot (X : Nat → List Int) (m : Nat) : off 1 (fun i => (X i).length) m = 1 + (tot X m : Int) := by
  induction m with
  | zero => rfl
  | succ m ih => rw [off, ih, tot]; omega

/-- A struct's block is none of the rows'. -/
theorem Box.rest {t : TypeId} {m : Nat} {VS : Nat → Value} {w w' : World} {g B : Nat} {x y : Value} {Y : Nat → List Int} (h : Box w g t x y) (ht : t ≠ 2) (r : MRest m VS w w')
    (hi : ∀ i, i < m → w.ownsRow B 2 1 (VS i) (Y i).length ((Y i).map (Value.int .i64))) : Box w' g t x y := by
  refine (r.2 g h.lt fun i hlt e => ?_).trans h
  rcases (hi i hlt).2 with ⟨e2, _⟩ | ⟨q', cap', cur, e2, _, hG, _⟩
  · rw [e2] at e; cases e
  · rw [e2] at e
    simp only [Value.ownBlock, Option.some.injEq] at e
    subst e
    unfold Box at h
    rw [hG] at h
    simp only [Option.some.injEq, Obj.cells.injEq] at h
    exact ht h.2.1.symm
theorem OwnB.rest {m : Nat} {VS : Nat → Value} {w0 w w' : World} {g B : Nat} {C : Int} {v : Value} {L : List Int} {Y : Nat → List Int} (h : OwnB w0 g C v L w) (r : MRest m VS w w')
    (hi : ∀ i, i < m → w.ownsRow B 2 1 (VS i) (Y i).length ((Y i).map (Value.int .i64))) (ap : ∀ i, i < m → (VS i).ownBlock = none ∨ (VS i).ownBlock ≠ v.ownBlock) : OwnB w0 g C v L w' := by
  refine ⟨own_sameblock h.own fun q hq => r.2 q (h.own.lt q hq).2 fun i hlt e => ?_, h.box.rest (by decide) r hi, h.ge⟩
  rcases ap i hlt with h1 | h1
  · rw [h1] at e; cases e
  · exact h1 (by rw [e, hq])
end Go.Proofs.Ytdojblmffmefgaa
