/-
  Contracts of the helpers of the exact laws over []int64: eqInt64S, markInt64S, heldInt64S.
-/
import Derived.Test.YtcfgjbfgdlmilaaDoorRows
import Derived.Test.YtcfgjbfgdlmilaaDoorPlainBits
import Derived.WalkLawsBesides
import Derived.WalkSpells
import Derived.WalkSmall
import Derived.Lib.Hide
import Derived.Deep.QuietTactic
import Derived.BigQuiet
namespace Go.Proofs.YtcfgjbfgdlmilaaDoor
open Go.RowKit
set_option maxRecDepth 100000

/-- The slice value v reads as the n numbers G 0, G 1, .. -/
def RdI (w : World) (v : Value) (n : Nat) (G : Nat → Int) : Prop :=
  ∃ a cap, v = .slice a n cap ∧ n ≤ maxLen ∧ (n = 0 ∨ ∃ b off, a = some ⟨b, off, none⟩ ∧ ∀ i, i < n → w.cell? ⟨b, off + i, none⟩ = some (.int .i64 (G i)))

theorem eqInt64S_same (va vb : Value) (n : Nat) (G : Nat → Int) (w : World) (ha : RdI w va n G) (hb : RdI w vb n G) :
    Calls Tryd.prog 27 #[va, vb] w fun e w' => e = .returned (.bool true) ∧ ∃ q, w' = w.drewN q := by
  obtain ⟨aa, capa, rfl, hm, ha⟩ := ha
  obtain ⟨ab, capb, rfl, _, hb⟩ := hb
  unfold maxLen at hm
  by_cases h0 : n = 0
  · subst h0
    clear ha hb
    go_enter Tryd.func27, Tryd.ntmps27
    go_wp2
    refine wp_loop_rounds 1 ?_
    rw [rounds_succ]
    go_wp2
    go_ret
    exact ⟨rfl, 0, rfl⟩
  · obtain ⟨ba, offa, rfl, hca⟩ := ha.resolve_left h0
    obtain ⟨bb, offb, rfl, hcb⟩ := hb.resolve_left h0
    clear ha hb
    have hpos : 0 < n := by omega
    have HA := Lib.hid hca
    have HB := Lib.hid hcb
    clear hca hcb h0
    go_enter Tryd.func27, Tryd.ntmps27
    go_wp2
    go_loopw [5] (fun i wr => ∃ k q : Nat, k ≤ n ∧ i = .int .i64 k ∧ Hid (wr = w.drewN q)) (fun i _ => n - (intOf i).toNat)
    case atStart => exact ⟨0, 0, by omega, rfl, Lib.hid rfl⟩
    case round =>
      obtain ⟨k, q, hk, rfl, hw⟩ := hrel
      by_cases hlt : k < n
      · have c1 : wr.cell? ⟨ba, offa + k, none⟩ = some (.int .i64 (G k)) := by rw [hw.out]; exact HA.out k hlt
        have c2 : wr.cell? ⟨bb, offb + k, none⟩ = some (.int .i64 (G k)) := by rw [hw.out]; exact HB.out k hlt
        have hlt' : (k : Int) < (n : Int) := by omega
        go_wp2
        go_quiet (fail)
        go_wp2
        go_roundw
        case rel => exact ⟨k + 1, q + nq, by omega, by go_num, Lib.hid (by rw [hw.out]; exact World.drewN_drewN ..)⟩
        case measure => simp [intOf]; omega
      · go_wp2
        go_ret
        exact ⟨rfl, q, hw.out⟩

/-- The numbers k, k + 1, .. -/
def marks (k : Int) : Nat → List Int
  | 0 => []
  | n + 1 => marks k n ++ [k + (n : Int)]
theorem marks_length (k : Int) (n : Nat) : (marks k n).length = n := by
  induction n with
  | zero => rfl
  | succ n ih => rw [marks, List.length_append, ih]; rfl
theorem marks_get (k : Int) (n : Nat) : ∀ i, i < n → (marks k n)[i]? = some (k + (i : Int)) := by
  induction n with
  | zero => intro i h; omega
  | succ n ih =>
    intro i h
    rw [marks]
    by_cases e : i < n
    · rw [List.getElem?_append_left (by rw [marks_length]; exact e)]; exact ih i e
    · have : i = n := by omega
      subst this
      rw [List.getElem?_append_right (by rw [marks_length]; omega), marks_length, Nat.sub_self]; rfl

theorem set_marks (k : Int) (j : Nat) (xs : List Value) (h : j < xs.length) :
    (((marks k j).map (Value.int .i64)) ++ xs.drop j).set j (Value.int .i64 (k + (j : Int))) = ((marks k (j + 1)).map (Value.int .i64)) ++ xs.drop (j + 1) := by
  have hl : ((marks k j).map (Value.int .i64)).length = j := by rw [List.length_map, marks_length]
  rw [List.set_append_right _ _ (by omega), hl, Nat.sub_self, marks, List.map_append, List.append_assoc]
  congr 1
  have e : xs.drop j = xs[j] :: xs.drop (j + 1) := List.drop_eq_getElem_cons h
  rw [e]
  rfl

end Go.Proofs.YtcfgjbfgdlmilaaDoor
