/-
  Joined: PlainBits, WLaws, WOwnB.
-/
import Derived.WalkKit
import Derived.Test.YtggebkcmokpcmaaRows
import Derived.WalkLawsBesides
import Derived.WalkSpells
import Derived.WalkSmall
import Derived.Lib.Hide
import Derived.Deep.QuietTactic
import Derived.BigQuiet
section
namespace Go.Proofs.Ytggebkcmokpcmaa
open Go.RowKit
set_option maxRecDepth 100000

theorem i64_keep : ∀ n : Int, 0 ≤ n → n < 2 ^ 63 → IntKind.i64.wrap n = n := by
  intro n h0 h1
  rw [IntKind.wrap_i64]
  omega

theorem i64_and (a b : Nat) (ha : a < 2 ^ 63) (hb : b < 2 ^ 63) : bits .and .i64 (a : Int) (b : Int) = ((a &&& b : Nat) : Int) :=
  (bits_nat .i64 63 (by decide) i64_keep a b ha hb).1

theorem i64_or (a b : Nat) (ha : a < 2 ^ 63) (hb : b < 2 ^ 63) : bits .or .i64 (a : Int) (b : Int) = ((a ||| b : Nat) : Int) :=
  (bits_nat .i64 63 (by decide) i64_keep a b ha hb).2

theorem i64_andNot (a b : Nat) (ha : a < 2 ^ 63) (hb : b < 2 ^ 63) : bits .andNot .i64 (a : Int) (b : Int) = ((a &&& (2 ^ 64 - (b + 1)) : Nat) : Int) := by
  have hx : a &&& (2 ^ 64 - (b + 1)) < 2 ^ 63 := Nat.lt_of_le_of_lt Nat.and_le_left ha
  show IntKind.i64.wrap ((BitVec.ofInt 64 (a : Int) &&& ~~~BitVec.ofInt 64 (b : Int)).toNat : Int) = _
  have h1 : (BitVec.ofInt 64 (a : Int)).toNat = a := by
    rw [BitVec.ofInt_natCast, BitVec.toNat_ofNat]; exact Nat.mod_eq_of_lt (by omega)
  have h2 : (BitVec.ofInt 64 (b : Int)).toNat = b := by
    rw [BitVec.ofInt_natCast, BitVec.toNat_ofNat]; exact Nat.mod_eq_of_lt (by omega)
  rw [BitVec.toNat_and, BitVec.toNat_not, h1, h2, IntKind.wrap_i64]
  have e : 2 ^ 64 - 1 - b = 2 ^ 64 - (b + 1) := by omega
  rw [e]
  omega

/-- All digits of k are digits of n: told by 'and', or by 'and not'. -/
theorem andNot_zero (k n : Nat) (hk : k < 2 ^ 63) (hn : n < 2 ^ 63) : (k &&& (2 ^ 64 - (n + 1)) = 0) ↔ (n &&& k = k) := by
  have hn' : n < 2 ^ 64 := by omega
  constructor
  · intro h
    apply Nat.eq_of_testBit_eq
    intro i
    have hi := congrArg (fun x => Nat.testBit x i) h
    simp only [Nat.testBit_and, Nat.testBit_two_pow_sub_succ hn', Nat.zero_testBit] at hi
    simp only [Nat.testBit_and]
    by_cases h64 : i < 64
    · simp [h64] at hi
      cases hb : k.testBit i <;> simp_all
    · have : k.testBit i = false := Nat.testBit_lt_two_pow (Nat.lt_of_lt_of_le hk (Nat.pow_le_pow_right (by decide) (by omega)))
      simp [this]
  · intro h
    apply Nat.eq_of_testBit_eq
    intro i
    have hi := congrArg (fun x => Nat.testBit x i) h
    simp only [Nat.testBit_and] at hi
    simp only [Nat.testBit_and, Nat.testBit_two_pow_sub_succ hn', Nat.zero_testBit]
    cases hb : k.testBit i <;> simp_all

/-- BinomialParity's two tests say the same. -/
theorem binomial_tests (n k : Int) (h0 : 0 ≤ n) (h1 : n ≤ 1000000000000) (h2 : 0 ≤ k) (h3 : k ≤ 1000000000000) :
    (bits .andNot .i64 k n != 0) = (decide (n < k) || (bits .and .i64 n k != k)) := by
  obtain ⟨N, rfl⟩ := Int.eq_ofNat_of_zero_le h0
  obtain ⟨K, rfl⟩ := Int.eq_ofNat_of_zero_le h2
  rw [i64_andNot K N (by omega) (by omega), i64_and N K (by omega) (by omega)]
  have hz := andNot_zero K N (by omega) (by omega)
  have hle : N &&& K ≤ N := Nat.and_le_left
  by_cases h : N &&& K = K
  · have h' := hz.2 h
    rw [h', h]
    have : ¬ (N : Int) < K := by omega
    simp [this]
  · have h' : K &&& (2 ^ 64 - (N + 1)) ≠ 0 := fun e => h (hz.1 e)
    have e1 : (((K &&& (2 ^ 64 - (N + 1)) : Nat) : Int) != 0) = true := by
      rw [bne_iff_ne]; intro e; exact h' (by exact_mod_cast e)
    have e2 : ((((N &&& K : Nat) : Int)) != (K : Int)) = true := by
      rw [bne_iff_ne]; intro e; exact h (by exact_mod_cast e)
    rw [e1, e2]; simp

theorem i64_bounds {n : Int} (h : (Lit.int .i64 n).wf = true) : -9223372036854775808 ≤ n ∧ n ≤ 9223372036854775807 := by
  have e : (Lit.int .i64 n).wf = (decide (IntKind.i64.min ≤ n) && decide (n ≤ IntKind.i64.max)) := rfl
  rw [e] at h
  simp [IntKind.min, IntKind.max, IntKind.signed, IntKind.bits] at h
  omega
end Go.Proofs.Ytggebkcmokpcmaa
end
section
namespace Go.Proofs.Ytggebkcmokpcmaa
open Go.RowKit
set_option maxRecDepth 100000

/-- The slice value v reads as the n numbers G 0, G 1, .. -/
def RdI (w : World) (v : Value) (n : Nat) (G : Nat → Int) : Prop :=
  ∃ a cap, v = .slice a n cap ∧ n ≤ maxLen ∧ (n = 0 ∨ ∃ b off, a = some ⟨b, off, none⟩ ∧ ∀ i, i < n → w.cell? ⟨b, off + i, none⟩ = some (.int .i64 (G i)))

theorem eqInt64S_same (va vb : Value) (n : Nat) (G : Nat → Int) (w : World) (ha : RdI w va n G) (hb : RdI w vb n G) :
    Calls Try.prog 35 #[va, vb] w fun e w' => e = .returned (.bool true) ∧ ∃ q, w' = w.drewN q := by
  obtain ⟨aa, capa, rfl, hm, ha⟩ := ha
  obtain ⟨ab, capb, rfl, _, hb⟩ := hb
  unfold maxLen at hm
  by_cases h0 : n = 0
  · subst h0
    clear ha hb
    go_enter Try.func35, Try.ntmps35
    go_wp2
    refine wp_loop_rounds 1 ?_
    rw [rounds_succ]
    go_wp2
    go_ret
    exact ⟨rfl, 0, rfl⟩
  · obtain ⟨ba, offa, rfl, hca⟩ := ha.resolve_left h0
    obtain ⟨bb, offb, rfl, hcb⟩ := hb.resolve_left h0
    clear ha hb
    have hpos : 0 < n := by omega
    have HA := Lib.hid hca
    have HB := Lib.hid hcb
    clear hca hcb h0
    go_enter Try.func35, Try.ntmps35
    go_wp2
    go_loopw [5] (fun i wr => ∃ k q : Nat, k ≤ n ∧ i = .int .i64 k ∧ Hid (wr = w.drewN q)) (fun i _ => n - (intOf i).toNat)
    case atStart => exact ⟨0, 0, by omega, rfl, Lib.hid rfl⟩
    case round =>
      obtain ⟨k, q, hk, rfl, hw⟩ := hrel
      by_cases hlt : k < n
      · have c1 : wr.cell? ⟨ba, offa + k, none⟩ = some (.int .i64 (G k)) := by rw [hw.out]; exact HA.out k hlt
        have c2 : wr.cell? ⟨bb, offb + k, none⟩ = some (.int .i64 (G k)) := by rw [hw.out]; exact HB.out k hlt
        have hlt' : (k : Int) < (n : Int) := by omega
        go_wp2
        go_quiet (fail)
        go_wp2
        go_roundw
        case rel => exact ⟨k + 1, q + nq, by omega, by go_num, Lib.hid (by rw [hw.out]; exact World.drewN_drewN ..)⟩
        case measure => simp [intOf]; omega
      · go_wp2
        go_ret
        exact ⟨rfl, q, hw.out⟩

/-- The numbers k, k + 1, .. -/
def marks (k : Int) : Nat → List Int
  | 0 => []
  | n + 1 => marks k n ++ [k + (n : Int)]
theorem marks_length (k : Int) (n : Nat) : (marks k n).length = n := by
  induction n with
  | zero => rfl
  | succ n ih => rw [marks, List.length_append, ih]; rfl
theorem marks_get (k : Int) (n : Nat) : ∀ i, i < n → (marks k n)[i]? = some (k + (i : Int)) := by
  induction n with
  | zero => intro i h; omega
  | succ n ih =>
    intro i h
    rw [marks]
    by_cases e : i < n
    · rw [List.getElem?_append_left (by rw [marks_length]; exact e)]; exact ih i e
    · have : i = n := by omega
      subst this
      rw [List.getElem?_append_right (by rw [marks_length]; omega), marks_length, Nat.sub_self]; rfl

theorem set_marks (k : Int) (j : Nat) (xs : List Value) (h : j < xs.length) :
    (((marks k j).map (Value.int .i64)) ++ xs.drop j).set j (Value.int .i64 (k + (j : Int))) = ((marks k (j + 1)).map (Value.int .i64)) ++ xs.drop (j + 1) := by
  have hl : ((marks k j).map (Value.int .i64)).length = j := by rw [List.length_map, marks_length]
  rw [List.set_append_right _ _ (by omega), hl, Nat.sub_self, marks, List.map_append, List.append_assoc]
  congr 1
  have e : xs.drop j = xs[j] :: xs.drop (j + 1) := List.drop_eq_getElem_cons h
  rw [e]
  rfl

theorem markInt64S_own (v : Value) (n : Nat) (xs : List Value) (k : Int) (B : Nat) (w : World) (hk0 : 0 ≤ k) (hk : k ≤ 2305843009213693952) (hn : n ≤ 2305843009213693952) (hown : w.ownsRow B 2 1 v n xs) :
    Calls Try.prog 36 #[v, .int .i64 k] w fun e w' => e = .returned (.int .i64 (k + (n : Int))) ∧ w'.ownsRow B 2 1 v n ((marks k n).map (Value.int .i64)) ∧ w.grownBy w' v.ownBlock ∧ w'.heap.size = w.heap.size := by
  by_cases h0 : n = 0
  · subst h0
    obtain ⟨a, cap, rfl⟩ : ∃ a cap, v = .slice a 0 cap := by
      rcases hown.2 with ⟨rfl, _⟩ | ⟨g, cap, cur, rfl, _⟩
      · exact ⟨none, 0, rfl⟩
      · exact ⟨_, cap, rfl⟩
    have hx : xs = [] := by have := hown.1; simpa using this
    subst hx
    have H := Lib.hid hown
    clear hown
    go_enter Try.func36, Try.ntmps36
    go_wp2
    refine wp_loop_rounds 1 ?_
    rw [rounds_succ]
    go_wp2
    go_ret
    exact ⟨by simp, H.out, ⟨rfl, rfl, rfl, Nat.le_refl _, fun _ _ _ => rfl⟩, rfl⟩
  · obtain ⟨g, cap, rfl⟩ : ∃ g cap, v = .slice (some ⟨g, 0, none⟩) n cap := by
      rcases hown.2 with ⟨_, h⟩ | ⟨g, cap, cur, rfl, _⟩
      · exact absurd h h0
      · exact ⟨g, cap, rfl⟩
    have hxl : xs.length = n := by have := hown.1; omega
    have HX := Lib.hid hxl
    clear hxl h0
    go_enter Try.func36, Try.ntmps36
    go_wp2
    go_loopw [1, 5] (fun c i wr => ∃ j : Nat, j ≤ n ∧ i = .int .i64 j ∧ c = .int .i64 (k + (j : Int)) ∧ wr.ownsRow B 2 1 (.slice (some ⟨g, 0, none⟩) n cap) n (((marks k j).map (Value.int .i64)) ++ xs.drop j) ∧ w.grownBy wr (some g) ∧ Hid (wr.heap.size = w.heap.size)) (fun _ i _ => n - (intOf i).toNat)
    case atStart => exact ⟨0, by omega, rfl, by simp, by simpa [marks] using hown, ⟨rfl, rfl, rfl, Nat.le_refl _, fun _ _ _ => rfl⟩, Lib.hid rfl⟩
    case round =>
      obtain ⟨j, hj, rfl, rfl, ho, hg, hs⟩ := hrel
      by_cases hlt : j < n
      · have hlt' : (j : Int) < (n : Int) := by omega
        have hc := ho.cellAt j (by omega)
        have hz : (((marks k j).map (Value.int .i64)) ++ xs.drop j)[j]? = some (xs[j]'(by have := HX.out; omega)) := by
          rw [List.getElem?_append_right (by rw [List.length_map, marks_length]; omega), List.length_map, marks_length, Nat.sub_self]
          simp [HX.out, hlt]
        rw [hz] at hc
        clear hz
        generalize xs[j]'(by have := HX.out; omega) = u at hc
        have hf := ho.frozenAt j
        have hst := ho.stored j (.int .i64 (k + (j : Int)))
        rw [set_marks k j xs (by have := HX.out; omega)] at hst
        have hg2 : w.grownBy (wr.setCell ⟨g, j, none⟩ (.int .i64 (k + (j : Int)))) (some g) := ⟨hst.2.os.trans hg.os, hst.2.tape.trans hg.tape, hst.2.output.trans hg.output, Nat.le_trans hg.size hst.2.size, fun i hi hne => (hst.2.block i (Nat.lt_of_lt_of_le hi hg.size) hne).trans (hg.block i hi hne)⟩
        have hs2 : Hid ((wr.setCell ⟨g, j, none⟩ (.int .i64 (k + (j : Int)))).heap.size = w.heap.size) := Lib.hid (by rw [← hs.out]; simp [World.setCell])
        have HS := Lib.hid hst.1
        have HG := Lib.hid hg2
        clear hst ho hg hg2 hown
        go_wp2
        go_roundw
        case rel => exact ⟨j + 1, by omega, by go_num, by go_num, HS.out, HG.out, hs2⟩
        case measure => simp [intOf]; omega
      · obtain rfl : j = n := by omega
        have H2 := Lib.hid (List.drop_eq_nil_of_le (by rw [HX.out]; exact Nat.le_refl _) : xs.drop j = [])
        have HS := Lib.hid ho
        clear ho hown
        go_wp2
        go_ret
        exact ⟨rfl, by have := HS.out; rw [H2.out, List.append_nil] at this; exact this, hg, hs.out⟩

theorem heldInt64S_own (v : Value) (n : Nat) (k : Int) (B : Nat) (w : World) (hk0 : 0 ≤ k) (hk : k ≤ 2305843009213693952) (hn : n ≤ 2305843009213693952) (hown : w.ownsRow B 2 1 v n ((marks k n).map (Value.int .i64))) :
    Calls Try.prog 37 #[v, .int .i64 k] w fun e w' => e = .returned (.int .i64 (k + (n : Int))) ∧ w = w' := by
  by_cases h0 : n = 0
  · subst h0
    obtain ⟨a, cap, rfl⟩ : ∃ a cap, v = .slice a 0 cap := by
      rcases hown.2 with ⟨rfl, _⟩ | ⟨g, cap, cur, rfl, _⟩
      · exact ⟨none, 0, rfl⟩
      · exact ⟨_, cap, rfl⟩
    clear hown
    go_enter Try.func37, Try.ntmps37
    go_wp2
    refine wp_loop_rounds 1 ?_
    rw [rounds_succ]
    go_wp2
    go_ret
    exact ⟨by simp, rfl⟩
  · obtain ⟨g, cap, rfl⟩ : ∃ g cap, v = .slice (some ⟨g, 0, none⟩) n cap := by
      rcases hown.2 with ⟨_, h⟩ | ⟨g, cap, cur, rfl, _⟩
      · exact absurd h h0
      · exact ⟨g, cap, rfl⟩
    have hc : ∀ j, j < n → w.cell? ⟨g, j, none⟩ = some (.int .i64 (k + (j : Int))) := by
      intro j hj
      rw [hown.cellAt j (by omega), List.getElem?_map, marks_get k n j hj]; rfl
    have HC := Lib.hid hc
    clear hc hown h0
    go_enter Try.func37, Try.ntmps37
    go_wp2
    go_loop [1, 5] (fun c i => ∃ j : Nat, j ≤ n ∧ i = .int .i64 j ∧ c = .int .i64 (k + (j : Int))) (fun _ i => n - (intOf i).toNat)
    case atStart => exact ⟨0, by omega, rfl, by simp⟩
    case round =>
      obtain ⟨j, hj, rfl, rfl⟩ := hrel
      by_cases hlt : j < n
      · have hlt' : (j : Int) < (n : Int) := by omega
        have hc := HC.out j hlt
        go_wp2
        go_round
        case rel => exact ⟨j + 1, by omega, by go_num, by go_num⟩
        case measure => simp [intOf]; omega
      · obtain rfl : j = n := by omega
        go_wp2
        go_ret
        exact ⟨rfl, rfl⟩
end Go.Proofs.Ytggebkcmokpcmaa
end
section
namespace Go.Proofs.Ytggebkcmokpcmaa
set_option maxRecDepth 100000
set_option linter.unusedVariables false
open Go.RowKit

theorem Try.info2 : (Try.prog.info? 2).map (fun i => (i.zero, i.size, i.bytes)) = some (some (.int .i64 0), 1, 8) := by kernel_rfl

theorem own_below {w w' : World} {B : Nat} {v : Value} {n : Nat} {xs : List Value} {e : TypeId} {s : Nat} (h : w.ownsRow B e s v n xs) (k : Below w.heap.size w w') : w'.ownsRow B e s v n xs := by
  refine ⟨h.1, ?_⟩
  rcases h.2 with hn | ⟨g, cap, cur, rfl, hb, hg, rest⟩
  · exact .inl hn
  · refine .inr ⟨g, cap, cur, rfl, hb, ?_, rest⟩
    rw [k.block g (Array.getElem?_eq_some_iff.1 hg).1]
    exact hg

theorem own_drewN {w : World} {B : Nat} {v : Value} {n : Nat} {xs : List Value} {e : TypeId} {s : Nat} (h : w.ownsRow B e s v n xs) (q : Nat) : (w.drewN q).ownsRow B e s v n xs := h

theorem own_base {w : World} {B B' : Nat} {v : Value} {n : Nat} {xs : List Value} {e : TypeId} {s : Nat} (h : w.ownsRow B e s v n xs) (hb : B' ≤ B) : w.ownsRow B' e s v n xs := by
  refine ⟨h.1, ?_⟩
  rcases h.2 with hn | ⟨g, cap, cur, rfl, hb2, rest⟩
  · exact .inl hn
  · exact .inr ⟨g, cap, cur, rfl, Nat.le_trans hb hb2, rest⟩

theorem own_apart {w w' : World} {B m n : Nat} {v v' : Value} {xs ys : List Value} {e e' : TypeId} {s s' : Nat} (h : w.ownsRow B e s v n xs) (k : w'.ownsRow w.heap.size e' s' v' m ys) : v.ownBlock = none ∨ v.ownBlock ≠ v'.ownBlock := by
  cases hv : v.ownBlock with
  | none => exact .inl rfl
  | some a =>
    refine .inr fun he => ?_
    have h1 := (h.lt a hv).2
    have h2 := (k.lt a he.symm).1
    omega

theorem rd_of_own {w : World} {B : Nat} {v : Value} {zs : List Int} {n : Nat} (h : w.ownsRow B 2 1 v n (zs.map (Value.int .i64))) (hn : n = zs.length) : RdI w v n (fun i => zs[i]?.getD 0) := by
  subst hn
  rcases h.2 with ⟨rfl, h0⟩ | ⟨g, cap, cur, rfl, hb, hg, h1, h2, h3, h4⟩
  · exact ⟨none, 0, by rw [h0], by rw [h0]; exact Nat.zero_le _, .inl h0⟩
  · refine ⟨_, cap, rfl, Nat.le_trans h1 h2, ?_⟩
    by_cases h0 : zs.length = 0
    · exact .inl h0
    · refine .inr ⟨g, 0, rfl, fun i hi => ?_⟩
      rw [Nat.zero_add, h.cellAt i (by omega), List.getElem?_map]
      simp [hi]

end Go.Proofs.Ytggebkcmokpcmaa
end
