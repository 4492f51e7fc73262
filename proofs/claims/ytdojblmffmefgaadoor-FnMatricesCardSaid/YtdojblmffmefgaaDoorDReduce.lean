/-
  Contract of spec.l02Reduce.
-/
import Derived.Test.YtdojblmffmefgaaDoorDPut
import Derived.Test.YtdojblmffmefgaaDoorPlainKer
namespace Go.Proofs.YtdojblmffmefgaaDoor
open Go.RowKit
set_option linter.unusedVariables false
set_option maxRecDepth 100000

theorem rowsK_len (S : Nat → TR) (k : Nat) : (rowsK S k).length ≤ k := by
  induction k with
  | zero => exact Nat.le_refl _
  | succ k ih =>
    rw [rowsK, List.length_append]
    split
    · simp; omega
    · simp; omega
theorem putAll_ok {L : List Nat} (h : ∀ x ∈ L, x < 2 ^ 60) : okRows (putAll [] L) ∧ (putAll [] L).length ≤ 60 := by
  rw [← spaceL_rows h]
  refine ⟨fun i hi => ?_, rowsK_len _ _⟩
  have hm : (rowsK (spaceL L) 60).getD i 0 ∈ rowsK (spaceL L) 60 := by
    rw [List.getD_eq_getElem?_getD, List.getElem?_eq_getElem hi]; exact List.getElem_mem hi
  obtain ⟨j, hj, h0, e⟩ := (rowsK_mem 60 _).1 hm
  rw [e]
  exact ⟨h0, (spaceL_piv h).lt j hj⟩
theorem putAll_take (R : List Nat) (j : Nat) (hj : j < R.length) : putAll [] (R.take (j + 1)) = put (putAll [] (R.take j)) (R.getD j 0) := by
  have e : R.take (j + 1) = R.take j ++ [R.getD j 0] := by
    rw [List.take_add_one, List.getD_eq_getElem?_getD, List.getElem?_eq_getElem hj]; rfl
  unfold putAll
  rw [e, List.foldl_append]
  rfl
theorem mem_take {R : List Nat} {c : Nat} (h : ∀ x ∈ R, x < c) (j : Nat) : ∀ x ∈ R.take j, x < c := fun x hx => h x (List.mem_of_mem_take hx)

theorem l02Reduce_any (s : Value) (R : List Nat) (w : World) (h : RdN w s R) (hR : ∀ x ∈ R, x < 2 ^ 60) (hl : R.length ≤ 400) :
    Calls Tryd.prog 89 #[s] w (PutRes w.heap.size (putAll [] R) w) := by
  have H := Lib.hid h
  have HR := Lib.hid hR
  obtain ⟨a, cap, rfl, hm, hc⟩ := h
  clear hc hR
  generalize hn : R.length = n at *
  have HN := Lib.hid hn
  clear hn
  go_enter Tryd.func89, Tryd.ntmps89
  go_wp2_with fail
  go_loopw [3, 4] (fun o i wr => ∃ (j : Nat) (va : Option Addr) (vc : Nat), j ≤ n ∧ i = .int .i64 j ∧ o = .slice va (putAll [] (R.take j)).length vc ∧ Hid (wr.ownsRow w.heap.size 2 1 (.slice va (putAll [] (R.take j)).length vc) (putAll [] (R.take j)).length ((nI (putAll [] (R.take j))).map (Value.int .i64))) ∧ Hid (Below w.heap.size w wr)) (fun _ i _ => n - (intOf i).toNat)
  case atStart => exact ⟨0, _, 0, by omega, rfl, rfl, Lib.hid (World.ownsRow_made w #[] 0 (Nat.le_refl _) (by decide) (by simp)), Lib.hid ((Below.refl _ _).alloc (Nat.le_refl _) _)⟩
  case round =>
    obtain ⟨j, va, vc, hj, rfl, rfl, OW, BL⟩ := hrel
    by_cases hlt : j < n
    · have hlt' : (j : Int) < (n : Int) := by omega
      obtain ⟨_, _, e, _, hc⟩ := (H.out.below BL.out)
      cases e
      rw [HN.out] at hc
      obtain ⟨b, off, rfl, hc2⟩ := hc.resolve_left (by omega)
      have c1 : wr.cell? ⟨b, off + j, none⟩ = some (.int .i64 ((R.getD j 0 : Nat) : Int)) := hc2 j hlt
      clear hc hc2
      have hjl : j < R.length := by rw [HN.out]; exact hlt
      have PT := Lib.hid (putAll_take R j hjl)
      have hmem : R.getD j 0 < 2 ^ 60 := HR.out _ (by rw [List.getD_eq_getElem?_getD, List.getElem?_eq_getElem hjl]; exact List.getElem_mem hjl)
      obtain ⟨ok1, ok2⟩ := putAll_ok (mem_take HR.out j)
      have P := Lib.hid (l02Put_any w.heap.size _ (putAll [] (R.take j)) (R.getD j 0) wr OW.out hmem ok1 (by omega) BL.out.size)
      clear hmem ok1 hjl
      generalize R.getD j 0 = r at *
      generalize putAll [] (R.take j) = M at *
      go_wp2_with fail
      refine P.out.mono ?_
      rintro e w2 ⟨u, rfl, o2, b2⟩
      obtain ⟨ua, uc, rfl⟩ := o2.shape
      have O2 := Lib.hid o2
      have B2 := Lib.hid (BL.out.trans (b2.mono BL.out.size))
      clear o2 b2 P
      go_wp2_with fail
      go_roundw
      case rel => exact ⟨j + 1, ua, uc, by omega, by go_num, by rw [PT.out], Lib.hid (by rw [PT.out]; exact O2.out), B2⟩
      case measure => simp [intOf]; omega
    · obtain rfl : j = n := by omega
      have E : Hid (R.take j = R) := Lib.hid (List.take_of_length_le (by rw [HN.out]; exact Nat.le_refl _))
      go_wp2_with fail
      go_ret
      exact ⟨_, rfl, by have := OW.out; rwa [E.out] at this ⊢, BL.out⟩

/-- A matrix's rows as masks. -/
theorem mat_nat {c : Int} {n : Nat} {G : Nat → Int} (h : okMat c n G) : ∃ (k : Nat) (R : List Nat), c = (k : Int) ∧ k ≤ 60 ∧ n ≤ 200 ∧ R.length = n ∧ (∀ i, i < n → G i = ((R.getD i 0 : Nat) : Int)) ∧ (∀ x ∈ R, x < 2 ^ k) := by
  obtain ⟨k, rfl, hk, hn, hg⟩ := h
  have hb : ∀ i, i < n → 0 ≤ G i ∧ G i < 2 ^ k := fun i hi => by
    have := hg i hi
    unfold maskB at this
    simpa using this
  refine ⟨k, (List.range n).map fun i => (G i).toNat, rfl, hk, hn, by simp, fun i hi => ?_, fun x hx => ?_⟩
  · have := (hb i hi).1
    simp [List.getD_eq_getElem?_getD, hi]
    omega
  · obtain ⟨i, hi, rfl⟩ := List.mem_map.1 hx
    have := hb i (List.mem_range.1 hi)
    have e : ((2 ^ k : Nat) : Int) = 2 ^ k := by simp
    omega
end Go.Proofs.YtdojblmffmefgaaDoor
