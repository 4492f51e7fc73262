/-
  Joined: KTermP, KTermW.
-/
import Derived.Test.YtachdmklkkakbaaZactAddMilnor27
import Derived.Test.YtachdmklkkakbaaZactAddMilnor06
import Derived.ChangeKeysEq
import Derived.Test.YtachdmklkkakbaaZactAddMilnor28
section
namespace Go.Proofs.Ytachdmklkkakbaa
open Go.RowKit Go.Maps
set_option linter.unusedVariables false
set_option maxRecDepth 100000

theorem idxP (w : World) (k : Array Value) (j : Nat) (hj : j < 8) (q : IntKind) (z : Int) (h : k[j]? = some (.int q z)) : (Instr.index 93 (.agg k) (.int .i64 (j : Int))).run Try.prog w = .ok (.int q z) w := by
  have h0 : (j : Int) < 8 := by omega
  have hp := run_part_plain (P := Try.prog) (e := 5) (by kernel_rfl) (w := w) h
  have hs : (Go.sizeOf 5).run Try.prog w = .ok 1 w := by kernel_rfl
  simp [Instr.index, run_underlying Try.underlying93, asIntOf, hs, hp]
  intro h8
  omega

theorem packK_at (xs : List Int) (hf : fits xs) (j : Nat) (hj : j < 8) : (packK xs)[j]? = some (.int .u8 (if j < xs.length then xs[j]?.getD 0 + 1 else 0)) := by
  simp [packK, pkA, pkI, hj]

set_option maxHeartbeats 1000000 in
theorem termP_any (xs : List Int) (w : World) (hf : fits xs) :
    Calls Try.prog 87 #[.agg (packK xs)] w fun e w' => ∃ v, e = .returned v ∧ w'.ownsRow w.heap.size 2 1 v xs.length (xs.map (Value.int .i64)) ∧ Below w.heap.size w w' := by
  obtain ⟨i0, hi, hz0, hz1, hz2⟩ := info_parts Try.info2
  have HI : Hid (∀ j : Nat, j < 8 → ∀ w : World, (Instr.index 93 (.agg (packK xs)) (.int .i64 (j : Int))).run Try.prog w = .ok (.int .u8 (if j < xs.length then xs[j]?.getD 0 + 1 else 0)) w) := Lib.hid fun j hj w => idxP w _ j hj _ _ (packK_at xs hf j hj)
  have HSZ : Hid ((packK xs).size = 8) := Lib.hid (packK_ok xs hf).size
  have HONE : Hid ((packK xs).all (·.oneCell') = true) := Lib.hid (packK_ok xs hf).one
  obtain ⟨h8, hfit⟩ := hf
  have HF := Lib.hid hfit
  clear hfit
  obtain ⟨K, hK⟩ : ∃ K, packK xs = K := ⟨_, rfl⟩
  rw [hK] at HSZ HONE HI ⊢
  clear hK
  have HN := Lib.hid (loadNewP w K HSZ.out)
  go_enter Try.func87, Try.ntmps87
  go_wp2_with (refine ldKP rfl _ rfl w.heap.size 0 rfl K HN.out HSZ.out ?_)
  go_loopw [3, 5, 7] (fun v _ c wr => ∃ k : Nat, k ≤ xs.length ∧ c = .int .i64 k ∧ Hid (wr.ownsRow w.heap.size 2 1 v k ((xs.take k).map (Value.int .i64))) ∧ Hid (Below w.heap.size w wr)) (fun _ _ c _ => 8 - (intOf c).toNat)
  case atStart => exact ⟨0, Nat.zero_le _, rfl, Lib.hid (World.ownsRow_nil _ _ _ _), Lib.hid ((Below.refl _ w).alloc (Nat.le_refl _) _)⟩
  case round =>
    obtain ⟨k, hk, rfl, hown, hbel⟩ := hrel
    by_cases hk8 : k < 8
    · have hk8' : (k : Int) < 8 := by omega
      have hix := HI.out k hk8
      by_cases h1 : k < xs.length
      · rw [if_pos h1] at hix
        obtain ⟨h2, h3⟩ := HF.out k h1
        have HT : Hid ((xs.take (k + 1)).map (Value.int .i64) = (xs.take k).map (Value.int .i64) ++ [.int .i64 (xs[k]?.getD 0)]) := Lib.hid (by
          rw [List.take_add_one, List.getElem?_eq_getElem h1, List.map_append]; rfl)
        generalize xs[k]?.getD 0 = x at hix h2 h3 HT
        have w1 : IntKind.i64.wrap (x + 1) = x + 1 := by rw [IntKind.wrap_i64]; omega
        have w2 : IntKind.i64.wrap x = x := by rw [IntKind.wrap_i64]; omega
        have hne : (x + 1 == 0) = false := by rw [beq_eq_false_iff_ne]; omega
        have hsz := hbel.out.size
        clear h2 h3
        go_wp2_with (at_builtin; refine wpList_append_own _ rfl _ _ 45 rfl w.heap.size 2 i0 (.int .i64 0) 1 8 Try.underlying45 hi hz0 hz1 hz2 rfl (by decide) _ _ _ rfl (hown.out.alloc _) ⟨wr.heap.size, 0, none⟩ 1 1 [.int .i64 x] rfl rfl ?c1 ?c2 ?c3 ?c4 ?c5 ?_)
        case c1 =>
          intro j u hj
          match j, hj with
          | 0, hj => simp at hj; subst hj; simp [Addr.add]
        case c2 => intro u hu; simp at hu; subst hu; rfl
        case c3 => unfold maxLen; omega
        case c4 => omega
        case c5 => simp; omega
        intro v' w1' hown' hgrow _
        have HO : Hid (w1'.ownsRow w.heap.size 2 1 v' (k + 1) ((xs.take (k + 1)).map (Value.int .i64))) := Lib.hid (by rw [HT.out, List.map_take]; exact hown')
        have HB : Hid (Below w.heap.size w w1') := Lib.hid ((hbel.out.alloc hsz _).grown hgrow (by simp; omega) (fun q hq => (hown.out.lt q hq).1))
        clear hgrow hown' hbel hown
        go_wp2
        go_roundw
        case rel => exact ⟨k + 1, by omega, by go_num, HO, HB⟩
        case measure => simp [intOf]; omega
      · rw [if_neg h1] at hix
        obtain rfl : k = xs.length := by omega
        go_wp2
        go_ret
        refine ⟨_, rfl, ?_, hbel.out⟩
        have := hown.out
        rw [List.take_length] at this
        exact this
    · have hk8' : ¬ (k : Int) < 8 := by omega
      obtain rfl : k = xs.length := by omega
      go_wp2
      go_ret
      refine ⟨_, rfl, ?_, hbel.out⟩
      have := hown.out
      rw [List.take_length] at this
      exact this
end Go.Proofs.Ytachdmklkkakbaa
end
section
namespace Go.Proofs.Ytachdmklkkakbaa
open Go.RowKit Go.Maps
set_option linter.unusedVariables false
set_option maxRecDepth 100000

theorem cloneRd (b off : Nat) (xs : List Int) (cap : Nat) (w : World) (hn : xs.length ≤ 1000000) (h : ∀ j, j < xs.length → w.cell? ⟨b, off + j, none⟩ = some (.int .i64 (xs[j]?.getD 0))) :
    Calls Try.prog 99 #[.slice (some ⟨b, off, none⟩) xs.length cap] w fun e w' => ∃ u, e = .returned u ∧ w'.ownsRow w.heap.size 2 1 u xs.length (xs.map (Value.int .i64)) ∧ Below w.heap.size w w' := by
  obtain ⟨i0, hi, hz0, hz1, hz2⟩ := info_parts Try.info2
  have H : Hid (∀ j u, (xs.map (Value.int .i64))[j]? = some u → (w.alloc (.cells #[] 2)).cell? ((⟨b, off, none⟩ : Addr).add j) = some u) := by
    refine Lib.hid fun j u hu => ?_
    rw [Addr.add_mid]
    rw [List.getElem?_map] at hu
    cases hx : xs[j]? with
    | none => rw [hx] at hu; cases hu
    | some x =>
      rw [hx] at hu
      have hj : j < xs.length := (List.getElem?_eq_some_iff.1 hx).1
      have h1 := h j hj
      simp only [hx, Option.getD_some] at h1
      have hbl := World.block_lt_of_cell? w _ h1
      rw [← Option.some.inj hu]
      exact (((Below.refl _ w).alloc (Nat.le_refl _) _).cell (p := ⟨b, off + j, none⟩) hbl).trans h1
  have q22 : ∀ (w : World) (a : Option Addr) (n c n' c' : Nat), (binOp .eql 45 (.slice a n c) (.slice none n' c')).run Try.prog w = .ok (.bool a.isNone) w := fun w a n c n' c' => Lib.run_eql_slice_nil w _ _ a n c n' c' Try.underlying45
  clear h
  go_enter Try.func99, Try.ntmps99
  go_wp2_with (at_builtin; refine wpList_append_own _ rfl _ _ 45 rfl w.heap.size 2 i0 (.int .i64 0) 1 8 Try.underlying45 hi hz0 hz1 hz2 rfl (by decide) _ _ _ rfl (World.ownsRow_made w #[] 0 (Nat.le_refl _) (Nat.zero_le _) (by simp)) ⟨b, off, none⟩ xs.length cap (xs.map (Value.int .i64)) rfl ?qc1 ?qc2 ?qc3 ?qc4 ?qc5 ?qc6 ?_)
  case qc1 => simp
  case qc2 => exact H.out
  case qc3 => exact ints_one xs
  case qc4 => unfold maxLen; omega
  case qc5 => omega
  case qc6 => simp
  intro v' w1 hown hgrow hnil
  have HO := Lib.hid hown
  have HG := Lib.hid hgrow
  clear hown hgrow hnil
  go_wp2
  go_ret
  refine ⟨v', rfl, by simpa using HO.out, ?_⟩
  exact ((Below.refl _ w).alloc (Nat.le_refl _) _).grown HG.out (by simp) (by intro k hk; simp [Value.ownBlock] at hk; omega)

theorem wideK_zero (xs : List Int) : (wideK xs)[0]? = some (.int .i64 xs.length) := by simp [wideK, wdA, wdI]
theorem wideK_at (xs : List Int) (j : Nat) (hj : j < xs.length) : (wideK xs)[1 + j]? = some (.int .i64 (xs[j]?.getD 0)) := by
  have e : (wideK xs)[1 + j]? = (xs.map (Value.int .i64) ++ List.replicate (20 - xs.length) (Value.int .i64 0))[j]? := by simp [wideK, wdA, wdI, Nat.add_comm 1 j]
  rw [e, List.getElem?_append_left (by simpa using hj)]
  simp [hj]

theorem termW_any (xs : List Int) (w : World) (h20 : xs.length ≤ 20) :
    Calls Try.prog 89 #[.agg (wideK xs)] w fun e w' => ∃ v, e = .returned v ∧ w'.ownsRow w.heap.size 2 1 v xs.length (xs.map (Value.int .i64)) ∧ Below w.heap.size w w' := by
  have c0 : (w.alloc (.cells (wideK xs) 98)).cell? ⟨w.heap.size, 0, none⟩ = some (.int .i64 xs.length) := by
    rw [cell_of_row _ w.heap.size 0 _ 98 (0, 0) (heap_alloc_new w _)]
    exact wideK_zero xs
  have CL := Lib.hid (cloneRd w.heap.size 1 xs 20 (w.alloc (.cells (wideK xs) 98)) (by omega) (fun j hj => by
    rw [cell_of_row _ w.heap.size (1 + j) _ 98 (0, 0) (heap_alloc_new w _)]
    exact wideK_at xs j hj))
  have HB := Lib.hid ((Below.refl _ w).alloc (Nat.le_refl _) (.cells (wideK xs) 98))
  obtain ⟨K, hK⟩ : ∃ K, wideK xs = K := ⟨_, rfl⟩
  rw [hK] at c0 CL HB ⊢
  clear hK
  have hl : (xs.length : Int) ≤ 20 := by omega
  generalize xs.length = n at *
  go_enter Try.func89, Try.ntmps89
  go_wp2_with (go_at_call 99; refine CL.out.mono ?_; rintro e w' ⟨u, rfl, ho, hb⟩)
  have HO := Lib.hid ho
  have HB2 := Lib.hid hb
  clear ho hb
  go_wp2
  go_ret
  exact ⟨_, rfl, own_base HO.out (by simp), HB.out.trans (HB2.out.mono (by simp))⟩
end Go.Proofs.Ytachdmklkkakbaa
end
