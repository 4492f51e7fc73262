/-
  Joined: YSpecT, YSpecU.
-/
import Derived.Test.YtnfhfilconcajaaZtTotalSquare17
import Derived.Test.YtnfhfilconcajaaZtTotalSquare19
import Derived.Test.YtnfhfilconcajaaZtTotalSquare12
import Derived.Deep.RegionLaw
import Derived.Test.YtnfhfilconcajaaZtTotalSquare08
section
namespace Go.Proofs.Ytnfhfilconcajaa
open Go.RowKit
set_option linter.unusedVariables false
set_option maxRecDepth 100000

/-- What a call answers that makes a family: the lists L. -/
def LPostY (L : List (List Int)) (w : World) (e : Ending) (w' : World) : Prop := ∃ V VS, e = .returned V ∧ FamL w' w.heap.size V VS L ∧ Sep L.length VS ∧ Below w.heap.size w w'
/-- What a call answers that makes a row. -/
def RowResY (xs : List Int) (w : World) (e : Ending) (w' : World) : Prop := ∃ u, e = .returned u ∧ w'.ownsRow w.heap.size 2 1 u xs.length (xs.map (Value.int .i64)) ∧ Below w.heap.size w w'

theorem step_intsY {ops : Array Oper} {o : Oper} {a : Act} {w : World} {K : Act → World → Prop} {Q : Exit → Act → World → Prop} {E : Prop} (hgd : o.guard = none) (s x : Operand) (ho : o.op = .call { callee := .builtin .append, args := #[s, x], argTypes := #[53, 53] })
    (B n : Nat) (v : Value) (xs : List Value) (hs : a.eval s = v) (hown : w.ownsRow B 2 1 v n xs) (ad : Addr) (c : Nat) (x0 : Value) (hx : a.eval x = .slice (some ad) 1 c)
    (hc : ∀ j u, [x0][j]? = some u → w.cell? (ad.add j) = some u) (h1 : x0.oneCell' = true) (hn : n ≤ 400000000000) (hB : B ≤ w.heap.size)
    (h : ∀ v' w', w'.ownsRow B 2 1 v' (n + 1) (xs ++ [x0]) → w.grownBy w' v.ownBlock → K (a.put o.dst v') w') :
    if Region.wanted o (yielded ops a.tmps) = true then Oper.wp Try.prog o a w K Q else E := by
  have hw : Region.wanted o (yielded ops a.tmps) = true := by simp [Region.wanted, hgd]
  rw [if_pos hw]
  obtain ⟨i0, hi, hz0, hz1, hz2⟩ := info_parts Try.info2
  exact wp_append_own w s x 53 ho B 2 i0 (.int .i64 0) 1 8 Try.underlying53 hi hz0 hz1 hz2 rfl (by decide) v n xs hs hown ad 1 c [x0] hx (by simp) hc (fun u hu => by rw [List.mem_singleton.1 hu]; exact h1) (by unfold maxLen; omega) (by omega) hB
      (fun v' w' h2 h3 _ => h v' w' h2 h3)

/-- The first k of the sums. -/
def plusTo (r s : List Int) (k : Nat) : List Int := (List.range k).map fun i => r[i]?.getD 0 + s[i]?.getD 0
theorem plusTo_len (r s : List Int) (k : Nat) : (plusTo r s k).length = k := by simp [plusTo]
theorem plusTo_succ (r s : List Int) (k : Nat) : plusTo r s (k + 1) = plusTo r s k ++ [r[k]?.getD 0 + s[k]?.getD 0] := by simp [plusTo, List.range_succ]
def plusL (r s : List Int) : List Int := plusTo r s r.length

/-- Small numbers. -/
def SmL (l : List Int) : Prop := l.length ≤ 4 ∧ ∀ j : Nat, 0 ≤ l[j]?.getD 0 ∧ l[j]?.getD 0 ≤ 1000000

set_option maxHeartbeats 2000000 in
theorem l08Plus_any (v u : Value) (r s : List Int) (w : World) (hv : RdL w v r) (hu : RdL w u s) (hl : r.length = s.length) (hr : SmL r) (hs : SmL s) :
    Calls Try.prog 90 #[v, u] w (RowResY (plusL r s) w) := by
  obtain ⟨a, cap, rfl, hm, hc⟩ := hv
  obtain ⟨a2, cap2, rfl, hm2, hc2⟩ := hu
  have HC := Lib.hid hc
  have HC2 := Lib.hid hc2
  have HR := Lib.hid hr
  have HS := Lib.hid hs
  have HL := Lib.hid hl
  have O0 : Hid ((w.alloc (.cells #[] 2)).ownsRow w.heap.size 2 1 (.slice (some ⟨w.heap.size, 0, none⟩) 0 0) 0 ((plusTo r s 0).map (Value.int .i64))) := Lib.hid (World.ownsRow_made w #[] 0 (Nat.le_refl _) (Nat.zero_le _) (by simp))
  have B0 : Hid (Below w.heap.size w (w.alloc (.cells #[] 2))) := Lib.hid ((Below.refl _ _).alloc (Nat.le_refl _) _)
  clear hc hc2 hr hs hl hm hm2
  go_enter Try.func90, Try.ntmps90
  go_wp2_with fail
  go_loopw [5, 6] (fun S c wr => ∃ k : Nat, k ≤ r.length ∧ c = .int .i64 k ∧ Hid (wr.ownsRow w.heap.size 2 1 S k ((plusTo r s k).map (Value.int .i64))) ∧ Hid (Below w.heap.size w wr)) (fun _ c _ => r.length - (intOf c).toNat)
  case atStart => exact ⟨0, by omega, rfl, O0, B0⟩
  case round =>
    clear O0 B0
    obtain ⟨k, hk, rfl, hO, hB⟩ := hrel
    by_cases hkl : k < r.length
    · have h1' : (k : Int) < (r.length : Int) := by omega
      have h2' : (k : Int) < (s.length : Int) := by have := HL.out; omega
      obtain ⟨b, off, rfl, hc⟩ := HC.out.resolve_left (by omega)
      obtain ⟨b2, off2, rfl, hc2⟩ := HC2.out.resolve_left (by have := HL.out; omega)
      have c1 : wr.cell? ⟨b, off + k, none⟩ = some (.int .i64 (r[k]?.getD 0)) := (hB.out.cell (p := ⟨b, off + k, none⟩) (World.block_lt_of_cell? w _ (hc k hkl))).trans (hc k hkl)
      have c2 : wr.cell? ⟨b2, off2 + k, none⟩ = some (.int .i64 (s[k]?.getD 0)) := (hB.out.cell (p := ⟨b2, off2 + k, none⟩) (World.block_lt_of_cell? w _ (hc2 k (by have := HL.out; omega)))).trans (hc2 k (by have := HL.out; omega))
      have hb1 := HR.out.2 k
      have hb2 := HS.out.2 k
      have hr4 := HR.out.1
      have NX : Hid ((plusTo r s (k + 1)).map (Value.int .i64) = (plusTo r s k).map (Value.int .i64) ++ [.int .i64 (r[k]?.getD 0 + s[k]?.getD 0)]) := Lib.hid (by rw [plusTo_succ, List.map_append]; rfl)
      clear hc hc2
      generalize r[k]?.getD 0 = p at *
      generalize s[k]?.getD 0 = q at *
      have hw2 : wrap64 (p + q) = p + q := wrap_sm (by omega) (by omega)
      have hw3 : IntKind.i64.wrap (p + q) = p + q := by rw [IntKind.wrap_i64]; omega
      have OA : Hid (((wr.drew).alloc (.cells #[.int .i64 (p + q)] 2)).ownsRow w.heap.size 2 1 u5 k ((plusTo r s k).map (Value.int .i64))) := Lib.hid (hO.out.alloc _)
      have SA : Hid (w.heap.size ≤ ((wr.drew).alloc (.cells #[.int .i64 (p + q)] 2)).heap.size) := Lib.hid (by have := hB.out.size; simp; omega)
      have CN : Hid (∀ j x, [Value.int .i64 (p + q)][j]? = some x → ((wr.drew).alloc (.cells #[.int .i64 (p + q)] 2)).cell? ((⟨wr.heap.size, 0, none⟩ : Addr).add j) = some x) := Lib.hid (cell_one_new _ _ _)
      have AP : Hid (∀ v' w', w'.ownsRow w.heap.size 2 1 v' (k + 1) ((plusTo r s k).map (Value.int .i64) ++ [.int .i64 (p + q)]) → ((wr.drew).alloc (.cells #[.int .i64 (p + q)] 2)).grownBy w' u5.ownBlock → w'.ownsRow w.heap.size 2 1 v' (k + 1) ((plusTo r s (k + 1)).map (Value.int .i64)) ∧ Below w.heap.size w w') := Lib.hid fun v' w' h1 h2 => by
        refine ⟨by rw [NX.out]; exact h1, ?_⟩
        exact (hB.out.drew.alloc hB.out.size _).grown h2 (by have := hB.out.size; simp; omega) (fun q hq => (hO.out.lt q hq).1)
      clear NX hO
      go_wp2_with fail
      go_region_law (refine step_intsY (by rfl) _ _ (by rfl) w.heap.size k _ _ (by rfl) OA.out ⟨wr.heap.size, 0, none⟩ 1 (Value.int .i64 (p + q)) (by rfl) CN.out rfl (by omega) SA.out ?_; intro v3 w3 ho3 hg3; have P3 := Lib.hid (AP.out v3 w3 ho3 hg3); clear ho3 hg3)
      all_goals
        go_wp2_with fail
        go_roundw
        case rel => exact ⟨k + 1, by omega, by go_num, Lib.hid P3.out.1, Lib.hid P3.out.2⟩
        case measure => simp [intOf]; omega
    · obtain rfl : k = r.length := by omega
      have O9 : Hid (wr.ownsRow w.heap.size 2 1 u5 (plusL r s).length ((plusL r s).map (Value.int .i64))) := Lib.hid (by unfold plusL; rw [plusTo_len]; exact hO.out)
      clear hO
      go_wp2_with fail
      go_ret
      exact ⟨_, rfl, O9.out, hB.out⟩
end Go.Proofs.Ytnfhfilconcajaa
end
section
namespace Go.Proofs.Ytnfhfilconcajaa
open Go.RowKit
set_option linter.unusedVariables false
set_option maxRecDepth 100000

theorem oddY_put (Z : List (List Int)) (x : List Int) : putL (oddY Z) x = oddY (Z ++ [x]) := by
  obtain ⟨h1, h2⟩ := putL_spec (oddY Z) x (oddY_spec Z).1
  refine oddY_eq h1 fun z => ?_
  rw [h2, par_snoc, (oddY_spec Z).2]
  constructor
  · rintro (⟨a, b⟩ | ⟨a, b⟩)
    · exact .inr ⟨fun e => b e.symm, a⟩
    · exact .inl ⟨b.symm, a⟩
  · rintro (⟨a, b⟩ | ⟨a, b⟩)
    · exact .inr ⟨b, a.symm⟩
    · exact .inl ⟨b, fun e => a e.symm⟩
theorem nodup_lenY {α : Type} [BEq α] [LawfulBEq α] : ∀ (xs ys : List α), xs.Nodup → (∀ x ∈ xs, x ∈ ys) → xs.length ≤ ys.length
  | [], _, _, _ => Nat.zero_le _
  | x :: xs, ys, hn, h => by
    obtain ⟨h1, h2⟩ := List.nodup_cons.1 hn
    have hx := h x List.mem_cons_self
    have := nodup_lenY xs (ys.erase x) h2 fun z hz => (List.mem_erase_of_ne (fun e => h1 (by rw [← e]; exact hz))).2 (h z (List.mem_cons_of_mem _ hz))
    rw [List.length_erase_of_mem hx] at this
    have hp := List.length_pos_of_mem hx
    rw [List.length_cons]
    omega
theorem oddY_le (Z : List (List Int)) : (oddY Z).length ≤ Z.length := nodup_lenY _ _ (oddY_spec Z).1.nodup fun x hx => oddY_mem hx

/-- All sums of one of A and one of B. -/
def sumsY (A B : List (List Int)) : List (List Int) := A.flatMap fun r => B.map (plusL r)
theorem sumsY_snoc (A B : List (List Int)) (r : List Int) : sumsY (A ++ [r]) B = sumsY A B ++ B.map (plusL r) := by simp [sumsY]
theorem sumsY_len (A B : List (List Int)) : (sumsY A B).length = A.length * B.length := by
  induction A with
  | nil => simp [sumsY]
  | cons x xs ih =>
    have e : sumsY (x :: xs) B = B.map (plusL x) ++ sumsY xs B := by simp [sumsY]
    rw [e, List.length_append, ih, List.length_map, List.length_cons, Nat.succ_mul]
    omega

structure TiY (w : World) (S : Value) (VS : Nat → Value) (Z : List (List Int)) (wr : World) : Prop where
  bel : Below w.heap.size w wr
  fam : FamL wr w.heap.size S VS (oddY Z)
  sep : Sep (oddY Z).length VS

set_option maxHeartbeats 4000000 in
theorem l08Times_any (Va Vb : Value) (m n K : Nat) (X Y : Nat → List Int) (w : World) (ha : RdSS w Va m X) (hb : RdSS w Vb n Y) (hX : ∀ i, i < m → (X i).length = K ∧ SmL (X i)) (hY : ∀ i, i < n → (Y i).length = K ∧ SmL (Y i)) (hm : m ≤ 2000) (hn : n ≤ 2000) :
    Calls Try.prog 63 #[Va, Vb] w (LPostY (oddY (sumsY (rowsL X m) (rowsL Y n))) w) := by
  obtain ⟨⟨a, cap, rfl⟩, hsm, VS, hc, hr⟩ := ha
  obtain ⟨⟨a2, cap2, rfl⟩, hsm2, VS2, hc2, hr2⟩ := hb
  have HC := Lib.hid hc
  have HC2 := Lib.hid hc2
  have HR := Lib.hid hr
  have HR2 := Lib.hid hr2
  have HX := Lib.hid hX
  have HY := Lib.hid hY
  have I0 : Hid (TiY w (.slice (some ⟨w.heap.size, 0, none⟩) 0 0) (fun _ => undef) (sumsY (rowsL X 0) (rowsL Y n)) (w.alloc (.cells #[] 53))) := Lib.hid ⟨(Below.refl _ _).alloc (Nat.le_refl _) _, ⟨World.ownsRow_made w #[] 0 (Nat.le_refl _) (Nat.zero_le _) (by simp), fun i hi => absurd hi (Nat.not_lt_zero _)⟩, fun i j hi => absurd hi (Nat.not_lt_zero _)⟩
  clear hc hc2 hr hr2 hX hY hsm hsm2
  go_enter Try.func63, Try.ntmps63
  go_wp2_with fail
  go_loopw [5, 6, 7] (fun S c _ wr => ∃ (i : Nat) (US : Nat → Value), i ≤ m ∧ c = .int .i64 i ∧ Hid (TiY w S US (sumsY (rowsL X i) (rowsL Y n)) wr)) (fun _ c _ _ => m - (intOf c).toNat)
  case atStart => exact ⟨0, _, by omega, rfl, I0⟩
  case round =>
    clear I0
    obtain ⟨i, US, hi, rfl, hI⟩ := hrel
    by_cases hlt : i < m
    · have hlt' : (i : Int) < (m : Int) := by omega
      have JS : Hid (sumsY (rowsL X (i + 1)) (rowsL Y n) = sumsY (rowsL X i) (rowsL Y n) ++ (rowsL Y n).map (plusL (X i))) := Lib.hid (by rw [rowsL_succ, sumsY_snoc])
      have JL : Hid ((sumsY (rowsL X i) (rowsL Y n)).length ≤ 4000000) := Lib.hid (by
        rw [sumsY_len, rowsL_len, rowsL_len]
        exact Nat.le_trans (Nat.mul_le_mul (by omega : i ≤ 2000) hn) (by decide))
      obtain ⟨b, off, ⟨cap', e⟩, hc'⟩ := HC.out.resolve_left (by omega)
      cases e
      have hcb := hc' i hlt
      have HCB := Lib.hid hcb
      have I1 : Hid (TiY w u5 US (sumsY (rowsL X i) (rowsL Y n) ++ (rowsL Y 0).map (plusL (X i))) wr) := Lib.hid (by
        have e0 : (rowsL Y 0).map (plusL (X i)) = [] := rfl
        rw [e0, List.append_nil]; exact hI.out)
      generalize sumsY (rowsL X i) (rowsL Y n) = Z at *
      clear hc' hcb hI
      go_wp2_with fail
      obtain ⟨wo, hwo⟩ : ∃ wo, wo = wr := ⟨_, rfl⟩
      subst hwo
      go_loopw [5, 7] (fun S c wr => ∃ (k : Nat) (US : Nat → Value), k ≤ n ∧ c = .int .i64 k ∧ Hid (TiY w S US (Z ++ (rowsL Y k).map (plusL (X i))) wr)) (fun _ c _ => n - (intOf c).toNat)
      case atStart => exact ⟨0, _, by omega, rfl, I1⟩
      case round =>
        clear I1
        obtain ⟨k, US2, hk, rfl, hI⟩ := hrel
        by_cases hkn : k < n
        · have hkn' : (k : Int) < (n : Int) := by omega
          obtain ⟨b2, off2, ⟨cap2', e⟩, hc2'⟩ := HC2.out.resolve_left (by omega)
          cases e
          have c1 : wr.cell? ⟨b, off + i, none⟩ = some (VS i) := (hI.out.bel.cell (p := ⟨b, off + i, none⟩) (World.block_lt_of_cell? w _ HCB.out)).trans HCB.out
          have c2 : wr.cell? ⟨b2, off2 + k, none⟩ = some (VS2 k) := (hI.out.bel.cell (p := ⟨b2, off2 + k, none⟩) (World.block_lt_of_cell? w _ (hc2' k hkn))).trans (hc2' k hkn)
          have GX := HX.out i hlt
          have GY := HY.out k hkn
          have JN := Lib.hid (l08Plus_any (VS i) (VS2 k) (X i) (Y k) wr.drew ((HR.out i hlt).below (hI.out.bel.trans ((Below.refl _ wr).drew.mono hI.out.bel.size))) ((HR2.out k hkn).below (hI.out.bel.trans ((Below.refl _ wr).drew.mono hI.out.bel.size))) (GX.1.trans GY.1.symm) GX.2 GY.2)
          have XL : (plusL (X i) (Y k)).length ≤ 4 := by unfold plusL; rw [plusTo_len]; exact GX.2.1
          have NXT : Hid (Z ++ (rowsL Y (k + 1)).map (plusL (X i)) = (Z ++ (rowsL Y k).map (plusL (X i))) ++ [plusL (X i) (Y k)]) := Lib.hid (by rw [rowsL_succ, List.map_append, List.append_assoc]; rfl)
          have ZL : (Z ++ (rowsL Y k).map (plusL (X i))).length ≤ 5000000 := by rw [List.length_append, List.length_map, rowsL_len]; have := JL.out; omega
          generalize Z ++ (rowsL Y k).map (plusL (X i)) = ZK at *
          generalize plusL (X i) (Y k) = x at *
          have OL := oddY_le ZK
          have MO : Hid (∀ w5 u, Below wr.heap.size wr w5 → w5.ownsRow wr.heap.size 2 1 u x.length (x.map (Value.int .i64)) → Calls Try.prog 89 #[u5, u] w5 fun e w' => ∃ V' VS', e = .returned V' ∧ TiY w V' VS' (ZK ++ [x]) w') := Lib.hid (fun w5 u b5 ho => by
            refine (l01Put_any u5 u US2 (oddY ZK) x w.heap.size wr.heap.size w5 (hI.out.fam.below b5) hI.out.sep ho (by omega) (Nat.le_trans hI.out.bel.size b5.size) (by omega)).mono ?_
            rintro e w' ⟨V', VS', h1, h2, h3, h4⟩
            rw [oddY_put] at h2 h3
            exact ⟨V', VS', h1, (hI.out.bel.step1 b5).step1 h4, h2, h3⟩)
          have hk5 : k < 2000 := by omega
          have hi5 : i < 2000 := by omega
          generalize VS i = va at c1 JN
          generalize VS2 k = vb at c2 JN
          clear GX GY hc2' hI XL ZL OL
          go_wp2_with fail
          go_region_law (first
            | (go_simp; go_at_call 90; refine JN.out.mono ?_; rintro e w5 ⟨v5, rfl, o5, b5⟩; have B5 : Below wr.heap.size wr w5 := belD1 b5)
            | (go_simp; go_at_call 89; refine (MO.out w5 v5 B5 o5).mono ?_; rintro e w7 ⟨V7, U7, rfl, t7⟩; have I7 := Lib.hid t7; clear t7))
          all_goals
            rw [← NXT.out] at I7
            clear b5 o5 B5 JN MO c1 c2
            go_wp2_with fail
            go_roundw
            case rel => exact ⟨k + 1, _, by omega, by go_num, I7⟩
            case measure => simp [intOf]; omega
        · obtain rfl : k = n := by omega
          have I9 : Hid (TiY w u5 US2 (sumsY (rowsL X (i + 1)) (rowsL Y k)) wr) := Lib.hid (by rw [JS.out]; exact hI.out)
          clear hI
          go_wp2_with fail
          go_roundw
          case rel => exact ⟨i + 1, _, by omega, by go_num, I9⟩
          case measure => simp [intOf]; omega
    · obtain rfl : i = m := by omega
      have F9 := Lib.hid hI.out.fam
      have S9 := Lib.hid hI.out.sep
      have B9 := Lib.hid hI.out.bel
      clear hI
      go_wp2_with fail
      go_ret
      exact ⟨_, _, rfl, F9.out, S9.out, B9.out⟩
end Go.Proofs.Ytnfhfilconcajaa
end
