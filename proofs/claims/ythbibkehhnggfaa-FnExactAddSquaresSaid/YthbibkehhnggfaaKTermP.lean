/-
  (impl.packedTerm).term.
-/
import Derived.Test.YthbibkehhnggfaaKPack
import Derived.Test.YthbibkehhnggfaaWOwn
import Derived.ChangeKeysEq
namespace Go.Proofs.Ythbibkehhnggfaa
open Go.RowKit Go.Maps
set_option linter.unusedVariables false
set_option maxRecDepth 100000

theorem idxP (w : World) (k : Array Value) (j : Nat) (hj : j < 8) (q : IntKind) (z : Int) (h : k[j]? = some (.int q z)) : (Instr.index 63 (.agg k) (.int .i64 (j : Int))).run Try.prog w = .ok (.int q z) w := by
  have h0 : (j : Int) < 8 := by omega
  have hp := run_part_plain (P := Try.prog) (e := 5) (by kernel_rfl) (w := w) h
  have hs : (Go.sizeOf 5).run Try.prog w = .ok 1 w := by kernel_rfl
  simp [Instr.index, run_underlying Try.underlying63, asIntOf, hs, hp]
  intro h8
  omega

theorem packK_at (xs : List Int) (hf : fits xs) (j : Nat) (hj : j < 8) : (packK xs)[j]? = some (.int .u8 (if j < xs.length then xs[j]?.getD 0 + 1 else 0)) := by
  simp [packK, pkA, pkI, hj]

set_option maxHeartbeats 1000000 in
theorem termP_any (xs : List Int) (w : World) (hf : fits xs) :
    Calls Try.prog 47 #[.agg (packK xs)] w fun e w' => ∃ v, e = .returned v ∧ w'.ownsRow w.heap.size 2 1 v xs.length (xs.map (Value.int .i64)) ∧ Below w.heap.size w w' := by
  obtain ⟨i0, hi, hz0, hz1, hz2⟩ := info_parts Try.info2
  have HI : Hid (∀ j : Nat, j < 8 → ∀ w : World, (Instr.index 63 (.agg (packK xs)) (.int .i64 (j : Int))).run Try.prog w = .ok (.int .u8 (if j < xs.length then xs[j]?.getD 0 + 1 else 0)) w) := Lib.hid fun j hj w => idxP w _ j hj _ _ (packK_at xs hf j hj)
  have HSZ : Hid ((packK xs).size = 8) := Lib.hid (packK_ok xs hf).size
  have HONE : Hid ((packK xs).all (·.oneCell') = true) := Lib.hid (packK_ok xs hf).one
  obtain ⟨h8, hfit⟩ := hf
  have HF := Lib.hid hfit
  clear hfit
  obtain ⟨K, hK⟩ : ∃ K, packK xs = K := ⟨_, rfl⟩
  rw [hK] at HSZ HONE HI ⊢
  clear hK
  have HN := Lib.hid (loadNewP w K HSZ.out)
  go_enter Try.func47, Try.ntmps47
  go_wp2_with (refine ldKP rfl _ rfl w.heap.size 0 rfl K HN.out HSZ.out ?_)
  go_loopw [3, 5, 7] (fun v _ c wr => ∃ k : Nat, k ≤ xs.length ∧ c = .int .i64 k ∧ Hid (wr.ownsRow w.heap.size 2 1 v k ((xs.take k).map (Value.int .i64))) ∧ Hid (Below w.heap.size w wr)) (fun _ _ c _ => 8 - (intOf c).toNat)
  case atStart => exact ⟨0, Nat.zero_le _, rfl, Lib.hid (World.ownsRow_nil _ _ _ _), Lib.hid ((Below.refl _ w).alloc (Nat.le_refl _) _)⟩
  case round =>
    obtain ⟨k, hk, rfl, hown, hbel⟩ := hrel
    by_cases hk8 : k < 8
    · have hk8' : (k : Int) < 8 := by omega
      have hix := HI.out k hk8
      by_cases h1 : k < xs.length
      · rw [if_pos h1] at hix
        obtain ⟨h2, h3⟩ := HF.out k h1
        have HT : Hid ((xs.take (k + 1)).map (Value.int .i64) = (xs.take k).map (Value.int .i64) ++ [.int .i64 (xs[k]?.getD 0)]) := Lib.hid (by
          rw [List.take_add_one, List.getElem?_eq_getElem h1, List.map_append]; rfl)
        generalize xs[k]?.getD 0 = x at hix h2 h3 HT
        have w1 : IntKind.i64.wrap (x + 1) = x + 1 := by rw [IntKind.wrap_i64]; omega
        have w2 : IntKind.i64.wrap x = x := by rw [IntKind.wrap_i64]; omega
        have hne : (x + 1 == 0) = false := by rw [beq_eq_false_iff_ne]; omega
        have hsz := hbel.out.size
        clear h2 h3
        go_wp2_with (at_builtin; refine wpList_append_own _ rfl _ _ 41 rfl w.heap.size 2 i0 (.int .i64 0) 1 8 Try.underlying41 hi hz0 hz1 hz2 rfl (by decide) _ _ _ rfl (hown.out.alloc _) ⟨wr.heap.size, 0, none⟩ 1 1 [.int .i64 x] rfl rfl ?c1 ?c2 ?c3 ?c4 ?c5 ?_)
        case c1 =>
          intro j u hj
          match j, hj with
          | 0, hj => simp at hj; subst hj; simp [Addr.add]
        case c2 => intro u hu; simp at hu; subst hu; rfl
        case c3 => unfold maxLen; omega
        case c4 => omega
        case c5 => simp; omega
        intro v' w1' hown' hgrow _
        have HO : Hid (w1'.ownsRow w.heap.size 2 1 v' (k + 1) ((xs.take (k + 1)).map (Value.int .i64))) := Lib.hid (by rw [HT.out, List.map_take]; exact hown')
        have HB : Hid (Below w.heap.size w w1') := Lib.hid ((hbel.out.alloc hsz _).grown hgrow (by simp; omega) (fun q hq => (hown.out.lt q hq).1))
        clear hgrow hown' hbel hown
        go_wp2
        go_roundw
        case rel => exact ⟨k + 1, by omega, by go_num, HO, HB⟩
        case measure => simp [intOf]; omega
      · rw [if_neg h1] at hix
        obtain rfl : k = xs.length := by omega
        go_wp2
        go_ret
        refine ⟨_, rfl, ?_, hbel.out⟩
        have := hown.out
        rw [List.take_length] at this
        exact this
    · have hk8' : ¬ (k : Int) < 8 := by omega
      obtain rfl : k = xs.length := by omega
      go_wp2
      go_ret
      refine ⟨_, rfl, ?_, hbel.out⟩
      have := hown.out
      rw [List.take_length] at this
      exact this
end Go.Proofs.Ythbibkehhnggfaa
