/-
  Contract of spec.l02Least, at a mask that no row of the kernel makes less.
-/
import Derived.Test.YtdojblmffmefgaaDoorDInvs
namespace Go.Proofs.YtdojblmffmefgaaDoor
open Go.RowKit
set_option linter.unusedVariables false
set_option maxRecDepth 100000

theorem topsOf_take (K : List Nat) (i : Nat) (hi : i < K.length) : topsOf (K.take (i + 1)) = if (topsOf (K.take i)).foldl topStep (K.getD i 0) ≠ 0 then topsOf (K.take i) ++ [(topsOf (K.take i)).foldl topStep (K.getD i 0)] else topsOf (K.take i) := by
  have e : K.take (i + 1) = K.take i ++ [K.getD i 0] := by
    rw [List.take_add_one, List.getD_eq_getElem?_getD, List.getElem?_eq_getElem hi]; rfl
  rw [e]
  unfold topsOf
  rw [List.foldl_append]
  rfl
theorem tops_len (K : List Nat) (i : Nat) (hi : i ≤ K.length) : (topsOf (K.take i)).length ≤ i := by
  induction i with
  | zero => simp [topsOf]
  | succ i ih =>
    have := ih (by omega)
    rw [topsOf_take K i (by omega)]
    split
    · simp; omega
    · omega
theorem fold_take (T : List Nat) (r k : Nat) (hk : k < T.length) : (T.take (k + 1)).foldl topStep r = topStep ((T.take k).foldl topStep r) (T.getD k 0) := by
  have e : T.take (k + 1) = T.take k ++ [T.getD k 0] := by
    rw [List.take_add_one, List.getD_eq_getElem?_getD, List.getElem?_eq_getElem hk]; rfl
  rw [e, List.foldl_append]
  rfl
theorem min_form (y t : Nat) : (if ((y ^^^ t : Nat) : Int) < ((y : Nat) : Int) then ((y ^^^ t : Nat) : Int) else ((y : Nat) : Int)) = ((topStep y t : Nat) : Int) := by
  unfold topStep
  generalize y ^^^ t = z
  split
  · rw [Nat.min_eq_right (by omega)]
  · rw [Nat.min_eq_left (by omega)]
theorem lt60_xor (a b : Nat) (ha : a < 2 ^ 60) (hb : b < 2 ^ 60) : a ^^^ b < 2 ^ 60 := Nat.xor_lt_two_pow ha hb

set_option maxHeartbeats 2000000 in
theorem l02Least_any (s : Value) (K : List Nat) (x : Nat) (w : World) (h : RdN w s K) (hK : ∀ t ∈ K, t < 2 ^ 60) (hx : x < 2 ^ 60) (hl : K.length ≤ 60) (hf : ∀ t ∈ topsOf K, min x (x ^^^ t) = x) :
    Calls Tryd.prog 98 #[s, .int .i64 x] w fun e w' => e = .returned (.int .i64 x) ∧ Below w.heap.size w w' := by
  have H := Lib.hid h
  have HK := Lib.hid hK
  have HX := Lib.hid hx
  have HF := Lib.hid hf
  obtain ⟨a, cap, rfl, hm, hc⟩ := h
  clear hc hK hx hf
  generalize hn : K.length = n at *
  have HN := Lib.hid hn
  clear hn
  go_enter Tryd.func98, Tryd.ntmps98
  go_wp2_with fail
  go_loopw [5, 6] (fun o c wr => ∃ (i : Nat) (va : Option Addr) (vc : Nat), i ≤ n ∧ c = .int .i64 i ∧ o = .slice va (topsOf (K.take i)).length vc ∧ Hid (wr.ownsRow w.heap.size 2 1 (.slice va (topsOf (K.take i)).length vc) (topsOf (K.take i)).length ((nI (topsOf (K.take i))).map (Value.int .i64))) ∧ Hid (Below w.heap.size w wr)) (fun _ c _ => n - (intOf c).toNat)
  case atStart => exact ⟨0, _, 0, by omega, rfl, rfl, Lib.hid (World.ownsRow_made w #[] 0 (Nat.le_refl _) (by decide) (by simp)), Lib.hid ((Below.refl _ _).alloc (Nat.le_refl _) _)⟩
  case round =>
    obtain ⟨i, va, vc, hi, rfl, rfl, OW, BL⟩ := hrel
    have TL := tops_len K i (by rw [HN.out]; exact hi)
    have TB := Lib.hid (fun t ht => (tops_in (C := fun t => t < 2 ^ 60) lt60_xor (K.take i) (fun r hr => HK.out r (List.mem_of_mem_take hr)) t ht).1)
    have RT := Lib.hid (rdn_of_own OW.out)
    by_cases hlt : i < n
    · have hlt' : (i : Int) < (n : Int) := by omega
      obtain ⟨_, _, e, _, hc⟩ := (H.out.below BL.out)
      cases e
      rw [HN.out] at hc
      obtain ⟨b, off, rfl, hc2⟩ := hc.resolve_left (by omega)
      have c1 : wr.cell? ⟨b, off + i, none⟩ = some (.int .i64 ((K.getD i 0 : Nat) : Int)) := hc2 i hlt
      clear hc hc2
      have hil : i < K.length := by rw [HN.out]; exact hlt
      have PT := Lib.hid (topsOf_take K i hil)
      have RB := Lib.hid (getD_lt' HK.out i hil)
      clear hil
      generalize K.getD i 0 = r at *
      generalize topsOf (K.take i) = T at *
      go_wp2
      go_loop [7, 8] (fun o c => ∃ k : Nat, k ≤ T.length ∧ c = .int .i64 k ∧ o = .int .i64 (((T.take k).foldl topStep r : Nat) : Int)) (fun _ c => T.length - (intOf c).toNat)
      case atStart => exact ⟨0, by omega, rfl, rfl⟩
      case round =>
        obtain ⟨k, hk, rfl, rfl⟩ := hrel
        by_cases hkt : k < T.length
        · have hkt' : (k : Int) < (T.length : Int) := by omega
          obtain ⟨_, _, e1, _, hcd⟩ := RT.out
          cases e1
          obtain ⟨bd, od, rfl, hcd2⟩ := hcd.resolve_left (by omega)
          have d1 : wr.cell? ⟨bd, od + k, none⟩ = some (.int .i64 ((T.getD k 0 : Nat) : Int)) := hcd2 k hkt
          clear hcd hcd2
          have FT := Lib.hid (fold_take T r k hkt)
          have tb := getD_lt' TB.out k hkt
          have yb := fold_in (C := fun t => t < 2 ^ 60) lt60_xor (T.take k) (fun t ht => TB.out t (List.mem_of_mem_take ht)) r RB.out
          have X1 := Lib.hid (i64_xor ((T.take k).foldl topStep r) (T.getD k 0) (by omega) (by omega))
          clear tb yb
          generalize (T.take k).foldl topStep r = y at *
          generalize T.getD k 0 = t at *
          have MF := min_form y t
          rw [← X1.out] at MF
          have MF := Lib.hid MF
          go_wp2
          go_round
          case rel => exact ⟨k + 1, by omega, by go_num, by rw [FT.out, ← MF.out]⟩
          case measure => simp [intOf]; omega
        · obtain rfl : k = T.length := by omega
          have ET : Hid (T.take T.length = T) := Lib.hid (List.take_of_length_le (Nat.le_refl _))
          rw [ET.out]
          by_cases h0 : T.foldl topStep r = 0
          · have hb : (((T.foldl topStep r : Nat) : Int) != 0) = false := by rw [h0]; rfl
            have EQ : Hid (topsOf (K.take (i + 1)) = T) := Lib.hid (by rw [PT.out, if_neg (fun h => h h0)])
            clear h0
            generalize T.foldl topStep r = q at *
            go_wp2
            go_roundw
            case rel => exact ⟨i + 1, va, vc, by omega, by go_num, by rw [EQ.out], by rw [EQ.out]; exact OW, BL⟩
            case measure => simp [intOf]; omega
          · have hb : (((T.foldl topStep r : Nat) : Int) != 0) = true := by rw [bne_iff_ne]; omega
            have EQ : Hid (topsOf (K.take (i + 1)) = T ++ [T.foldl topStep r]) := Lib.hid (by rw [PT.out, if_pos h0])
            clear h0
            generalize T.foldl topStep r = q at *
            have A := Lib.hid (own_below OW.out ((Below.refl _ _).alloc (Nat.le_refl _) (.cells #[.int .i64 ((q : Nat) : Int)] 2)))
            have AB := Lib.hid (BL.out.alloc BL.out.size (.cells #[.int .i64 ((q : Nat) : Int)] 2))
            go_wp2_with (at_builtin; refine wpList_append1 rfl _ _ rfl w.heap.size _ T.length (nI T) rfl A.out _ _ 1 rfl (World.cell?_alloc_new _ _ _ _) ?c1 ?c2 ?_)
            case c1 => omega
            case c2 => have := AB.out.size; simpa using this
            intro v' w2 ho hg
            obtain ⟨wa, wc, rfl⟩ := ho.shape
            have F1 := Lib.hid ho
            have F2 := Lib.hid (AB.out.grown hg AB.out.size (fun q hq => (A.out.lt q hq).1))
            clear ho hg
            have ELN : Hid ((topsOf (K.take (i + 1))).length = T.length + 1) := Lib.hid (by rw [EQ.out]; simp)
            go_wp2
            go_roundw
            case rel => exact ⟨i + 1, wa, wc, by omega, by go_num, by rw [ELN.out], Lib.hid (by rw [ELN.out, EQ.out, ← nI_snoc, List.map_append]; exact F1.out), F2⟩
            case measure => simp [intOf]; omega
    · obtain rfl : i = n := by omega
      have E : Hid (K.take i = K) := Lib.hid (List.take_of_length_le (by rw [HN.out]; exact Nat.le_refl _))
      rw [E.out] at TB RT TL
      rw [E.out]
      clear OW
      generalize topsOf K = T at *
      have HFT := Lib.hid (fun t (ht : t ∈ T) => by
        have h1 := min_form x t
        have h2 : topStep x t = x := HF.out t ht
        rw [h2] at h1
        have h3 : bits .xor .i64 ((x : Nat) : Int) ((t : Nat) : Int) = ((x ^^^ t : Nat) : Int) := i64_xor x t (by have := HX.out; omega) (by have := TB.out t ht; omega)
        rw [← h3] at h1
        exact h1)
      go_wp2
      go_loop [1, 9] (fun xx c => ∃ k : Nat, k ≤ T.length ∧ c = .int .i64 k ∧ xx = .int .i64 ((x : Nat) : Int)) (fun _ c => T.length - (intOf c).toNat)
      case atStart => exact ⟨0, by omega, rfl, rfl⟩
      case round =>
        obtain ⟨k, hk, rfl, rfl⟩ := hrel
        by_cases hkt : k < T.length
        · have hkt' : (k : Int) < (T.length : Int) := by omega
          go_wp2
          go_loop [1, 10] (fun xx c => ∃ j : Nat, j ≤ T.length ∧ c = .int .i64 j ∧ xx = .int .i64 ((x : Nat) : Int)) (fun _ c => T.length - (intOf c).toNat)
          case atStart => exact ⟨0, by omega, rfl, rfl⟩
          case round =>
            obtain ⟨j, hj, rfl, rfl⟩ := hrel
            by_cases hjt : j < T.length
            · have hjt' : (j : Int) < (T.length : Int) := by omega
              obtain ⟨_, _, e1, _, hcd⟩ := RT.out
              cases e1
              obtain ⟨bd, od, rfl, hcd2⟩ := hcd.resolve_left (by omega)
              have d1 : wr.cell? ⟨bd, od + j, none⟩ = some (.int .i64 ((T.getD j 0 : Nat) : Int)) := hcd2 j hjt
              clear hcd hcd2
              have FX := Lib.hid (HFT.out (T.getD j 0) (by rw [List.getD_eq_getElem?_getD, List.getElem?_eq_getElem hjt]; exact List.getElem_mem hjt))
              generalize T.getD j 0 = t at *
              go_wp2
              go_round
              case rel => exact ⟨j + 1, by omega, by go_num, by rw [FX.out]⟩
              case measure => simp [intOf]; omega
            · obtain rfl : j = T.length := by omega
              go_wp2
              go_round
              case rel => exact ⟨k + 1, by omega, by go_num, rfl⟩
              case measure => simp [intOf]; omega
        · obtain rfl : k = T.length := by omega
          go_wp2
          go_ret
          exact ⟨rfl, BL.out⟩
end Go.Proofs.YtdojblmffmefgaaDoor
