/-
  Joined: HImA, HImB, HImC.
-/
import Derived.Test.YtggebkcmokpcmaaZBHit38
import Derived.Test.YtggebkcmokpcmaaZBHit21
import Derived.Test.YtggebkcmokpcmaaZBHit08
import Derived.Deep.QuietTactic
import Derived.BigQuiet
import Derived.Laws.StructEq
import Derived.Laws.IdiomArrays
import Derived.ChangeKeysEq
import Derived.Test.YtggebkcmokpcmaaZBHit23
import Derived.Test.YtggebkcmokpcmaaZBHit17
import Derived.Lib.AppendZeros
import Derived.Deep.RegionLaw
section
namespace Go.Proofs.Ytggebkcmokpcmaa
open Go.RowKit Go.Maps
set_option linter.unusedVariables false
set_option maxRecDepth 100000

theorem guardY : Try.prog.eqGuardType Try.prog.depth 71 = false := by kernel_rfl
theorem infoZ4 : (Try.prog.info? 2).map (·.size) = some 1 := by kernel_rfl
theorem info_has4 {t : TypeId} {n : Nat} (h : (Try.prog.info? t).map (·.size) = some n) : ∃ i, Try.prog.info? t = some i ∧ Try.prog.cellsOf t = n := by
  cases hq : Try.prog.info? t with
  | none => simp [hq] at h
  | some i => refine ⟨i, rfl, ?_⟩; simp [Program.cellsOf, hq] at h ⊢; exact h
theorem intZ4 (w : World) (xs : Array Value) (o : Nat) (v : Value) (h : xs[o]? = some v) : (part 2 xs o).run Try.prog w = .ok v w :=
  run_part_plain w (by simp [Program.plainKey, Try.underlying2]) h
theorem eqItems_all4 (P : Program) (d : Nat) (e : TypeId) (c : Nat) (xs ys : Array Value) (w : World) (f : Nat → Bool) : ∀ is : List Nat,
    (∀ i ∈ is, ∃ a b, (part e xs (i * c)).run P w = .ok a w ∧ (part e ys (i * c)).run P w = .ok b w ∧ (Op.equalIn d e a b).run P w = .ok (f i) w) → (Op.eqItems d e c xs ys is).run P w = .ok (is.all f) w
  | [], _ => by simp [Op.eqItems]
  | i :: is, h => by
    obtain ⟨a, b, h1, h2, h3⟩ := h i List.mem_cons_self
    have ih := eqItems_all4 P d e c xs ys w f is fun j hj => h j (List.mem_cons_of_mem _ hj)
    simp only [Op.eqItems, Sem.run_bind, h1, h2, h3, Result.andThen_ok, List.all_cons]
    cases f i
    · simp
    · simpa using ih
/-- Two monomials, compared as arrays. -/
theorem pw_eq (xs ys : List Int) (hx : xs.length = 4) (hy : ys.length = 4) (w : World) : (binOp .eql 71 (.agg (pwK xs)) (.agg (pwK ys))).run Try.prog w = .ok (.bool (decide (xs = ys))) w := by
  obtain ⟨z, hz, hc⟩ := info_has4 infoZ4
  rw [run_eql_struct, run_equalIn_array w 9999 _ _ Try.underlying71 hz, hc]
  rw [eqItems_all4 _ _ _ _ _ _ w (fun i => xs[i]?.getD 0 == ys[i]?.getD 0) _ fun i hi => ⟨_, _, intZ4 w _ _ _ (by rw [Nat.mul_one]; exact pwK_at xs i (by have := List.mem_range.1 hi; omega)), intZ4 w _ _ _ (by rw [Nat.mul_one]; exact pwK_at ys i (by have := List.mem_range.1 hi; omega)), run_equalIn_int w 9998 2 .i64 .i64 _ _ Try.underlying2⟩]
  have e : ((List.range 4).all fun i => xs[i]?.getD 0 == ys[i]?.getD 0) = decide (xs = ys) := by
    by_cases h : xs = ys
    · subst h; simp
    · rw [decide_eq_false h, List.all_eq_false]
      apply Decidable.byContradiction
      intro hn
      refine h (List.ext_getElem (hx.trans hy.symm) fun i h1 h2 => ?_)
      apply Decidable.byContradiction
      intro hne
      refine hn ⟨i, List.mem_range.2 (by omega), ?_⟩
      rw [List.getElem?_eq_getElem h1, List.getElem?_eq_getElem h2]
      simpa using hne
  rw [← e]
  rfl
end Go.Proofs.Ytggebkcmokpcmaa
end
section
namespace Go.Proofs.Ytggebkcmokpcmaa
open Go.RowKit Go.Maps
set_option linter.unusedVariables false
set_option maxRecDepth 100000

theorem isLess_any (xs ys : List Int) (hx : xs.length = 4) (hy : ys.length = 4) (w : World) :
    Calls Try.prog 97 #[.agg (pwK xs), .agg (pwK ys)] w fun e w' => e = .returned (.bool (lexLt xs ys)) ∧ Below w.heap.size w w' := by
  obtain ⟨w1, hw1⟩ : ∃ w1, w1 = ((w.alloc (.cells (pwK xs) 71)).alloc (.cells (pwK ys) 71)) := ⟨_, rfl⟩
  have B1 : Hid (Below w.heap.size w w1) := Lib.hid (by rw [hw1]; exact ((Below.refl w.heap.size w).alloc (Nat.le_refl _) _).alloc (by simp) _)
  have X1 : PwAt w1 w.heap.size xs := by rw [hw1]; exact (PwAt.new w xs).alloc _
  have Y1 : PwAt w1 (w.heap.size + 1) ys := by
    rw [hw1]
    have := PwAt.new (w.alloc (.cells (pwK xs) 71)) ys
    rw [World.size_alloc] at this
    exact this
  have CM : Hid (∀ q : Nat, Calls Try.prog 101 #[.slice (some ⟨w.heap.size, 0, none⟩) 4 4, .slice (some ⟨w.heap.size + 1, 0, none⟩) 4 4] (w1.drewN q) fun e w' => e = .returned (.int .i64 (lexCmp xs ys)) ∧ ∃ p, w' = (w1.drewN q).drewN p) := Lib.hid (fun q => by
    have rx : RdL (w1.drewN q) (.slice (some ⟨w.heap.size, 0, none⟩) 4 4) xs := ⟨_, 4, by rw [hx], by rw [hx]; decide, .inr ⟨w.heap.size, 0, rfl, fun i hi => by rw [Nat.zero_add]; exact X1.cell i hi⟩⟩
    have ry : RdL (w1.drewN q) (.slice (some ⟨w.heap.size + 1, 0, none⟩) 4 4) ys := ⟨_, 4, by rw [hy], by rw [hy]; decide, .inr ⟨w.heap.size + 1, 0, rfl, fun i hi => by rw [Nat.zero_add]; exact Y1.cell i hi⟩⟩
    exact (slicesCompare_any _ _ xs ys _ rx ry).mono fun e w' ⟨h1, h2⟩ => ⟨h1, 0, h2.symm⟩)
  have HL : decide (lexCmp xs ys < 0) = lexLt xs ys := by
    cases e : lexLt xs ys with
    | true => exact decide_eq_true ((lexCmp_lt _ _).2 e)
    | false => exact decide_eq_false fun h => by rw [(lexCmp_lt _ _).1 h] at e; cases e
  generalize lexLt xs ys = r at *
  generalize lexCmp xs ys = c at *
  clear X1 Y1
  go_enter Try.func97, Try.ntmps97
  go_upto_region 1 with fail
  rw [← hw1]
  clear hw1
  go_quiet ((go_at_call 101; exact Calls.quiet_of (CM.out _)))
  go_wp2_with fail
  go_ret
  exact ⟨rfl, below_drewN B1.out _⟩

/-- The last monomial. -/
theorem greatest_any (v : Value) (L : List (List Int)) (hne : L ≠ []) (h4 : ∀ t ∈ L, t.length = 4) (w : World) (h : RdY w v (L.map pwK)) :
    Calls Try.prog 78 #[v] w fun e w' => e = .returned (.agg (pwK (lastL L))) ∧ Below w.heap.size w w' := by
  obtain ⟨a, cap, rfl, hm, hc⟩ := h
  rw [List.length_map] at hm hc ⊢
  have hpos := List.length_pos_iff.2 hne
  obtain ⟨b, off, rfl, hb, hcs⟩ := hc.resolve_left (by omega)
  have hL4 := h4 _ (lastL_mem hne)
  have hr := hcs (L.length - 1) (by omega)
  have e1 : (L.map pwK)[L.length - 1]?.getD #[] = pwK (lastL L) := by
    unfold lastL
    rw [List.getElem?_map, List.getElem?_eq_getElem (by omega)]
    rfl
  rw [e1] at hr
  have HR : Hid (∀ w', Below w.heap.size w w' → w'.rangeAt b (off + (L.length - 1) * 4) (pwK (lastL L)).toList) := Lib.hid (fun w' hw q u hq => (hw.cell (p := ⟨b, off + (L.length - 1) * 4 + q, none⟩) hb).trans (hr q u hq))
  unfold maxLen at hm
  have hpl : (L.length : Int) - 1 < (L.length : Int) := by omega
  have hpt : ((L.length : Int) - 1).toNat = L.length - 1 := by omega
  have SY : Hid ((pwK (lastL L)).size = 4) := Lib.hid (by rw [pwK_size, hL4])
  have ON : Hid ((pwK (lastL L)).all (·.oneCell') = true) := Lib.hid (pwK_one _)
  have B1 : Hid (Below w.heap.size w (w.alloc (.cells #[Value.int .i64 0, Value.int .i64 0, Value.int .i64 0, Value.int .i64 0] 71))) := Lib.hid ((Below.refl _ _).alloc (Nat.le_refl _) _)
  have B2 : Hid (Below w.heap.size w (w.alloc (.cells (pwK (lastL L)) 71))) := Lib.hid ((Below.refl _ _).alloc (Nat.le_refl _) _)
  have H2 : Hid ((w.alloc (.cells (pwK (lastL L)) 71)).heap[w.heap.size]? = some (.cells (pwK (lastL L)) 71 (0, 0))) := Lib.hid (heap_alloc_new w _)
  have SZ : Hid ((Try.prog.info? 71).map (·.size) = some (pwK (lastL L)).size) := Lib.hid (by rw [sizeY, SY.out])
  clear hcs hr e1 hL4 hc
  generalize pwK (lastL L) = K at *
  go_enter Try.func78, Try.ntmps78
  go_wp2_with (first | (refine ldKY rfl _ rfl b (off + (L.length - 1) * 4) rfl K (HR.out _ B1.out) SY.out ?_) | (refine stKY w rfl _ _ rfl rfl K rfl SY.out ON.out ?_))
  refine bodyPost_ret (results_cell_row rfl _ _ w.heap.size 71 K (0, 0) _ rfl H2.out Try.underlying71 rfl SZ.out) rfl ?_
  exact ⟨rfl, B2.out⟩

/-- Where a monomial stands. -/
def IdxPost (L : List (List Int)) (x : List Int) (w : World) (e : Ending) (w' : World) : Prop := ∃ i : Int, e = .returned (.int .i64 i) ∧ -1 ≤ i ∧ (0 ≤ i ↔ x ∈ L) ∧ Below w.heap.size w w'
set_option maxHeartbeats 1000000 in
theorem index4_any (v : Value) (L : List (List Int)) (x : List Int) (hx : x.length = 4) (h4 : ∀ t ∈ L, t.length = 4) (w : World) (h : RdY w v (L.map pwK)) :
    Calls Try.prog 112 #[v, .agg (pwK x)] w (IdxPost L x w) := by
  obtain ⟨a, cap, rfl, hm, hc⟩ := h
  rw [List.length_map] at hm hc ⊢
  have HC := Lib.hid hc
  have H4 := Lib.hid h4
  obtain ⟨w1, hw1⟩ : ∃ w1, w1 = w.alloc (.cells (pwK x) 71) := ⟨_, rfl⟩
  have B1 : Hid (Below w.heap.size w w1) := Lib.hid (by rw [hw1]; exact (Below.refl _ _).alloc (Nat.le_refl _) _)
  have X1 : Hid (PwAt w1 w.heap.size x) := Lib.hid (by rw [hw1]; exact PwAt.new _ _)
  have lw : Hid (w.heap.size < w1.heap.size) := Lib.hid (by rw [hw1]; simp)
  unfold maxLen at hm
  clear hc h4
  go_enter Try.func112, Try.ntmps112
  go_upto_region 1 with fail
  rw [← hw1]
  clear hw1
  go_wp2_with fail
  go_loopw [5, 8] (fun _ c wr => ∃ k q : Nat, k ≤ L.length ∧ c = .int .i64 k ∧ Hid (∀ j, j < k → L[j]? ≠ some x) ∧ Hid (wr = w1.drewN q)) (fun _ c _ => L.length - (intOf c).toNat)
  case atStart => exact ⟨0, 0, by omega, rfl, Lib.hid (fun j hj => absurd hj (Nat.not_lt_zero _)), Lib.hid rfl⟩
  case round =>
    obtain ⟨k, q, hk, rfl, hN, hw⟩ := hrel
    by_cases hlt : k < L.length
    · have hlt' : (k : Int) < (L.length : Int) := by omega
      obtain ⟨b, off, rfl, hb, hcs⟩ := HC.out.resolve_left (by omega)
      have hr := hcs k hlt
      have ey : (L.map pwK)[k]?.getD #[] = pwK L[k] := by rw [List.getElem?_map, List.getElem?_eq_getElem hlt]; rfl
      rw [ey] at hr
      have hy := H4.out L[k] (List.getElem_mem hlt)
      have hlk : L[k]? = some L[k] := List.getElem?_eq_getElem hlt
      have XW : PwAt wr w.heap.size x := by rw [hw.out]; exact X1.out
      have HRW : wr.rangeAt b (off + k * 4) (pwK L[k]).toList := by rw [hw.out]; exact fun j u hu => (B1.out.cell (p := ⟨b, off + k * 4 + j, none⟩) hb).trans (hr j u hu)
      have EQ : ∀ w, (binOp .eql 71 (.agg (pwK x)) (.agg (pwK L[k]))).run Try.prog w = .ok (.bool (decide (x = L[k]))) w := fun w => pw_eq x L[k] hx hy w
      generalize L[k] = y at *
      match x, hx, y, hy with
      | [x0, x1, x2, x3], _, [y0, y1, y2, y3], _ =>
        have c0 := XW.cell 0 (by simp)
        have c1 := XW.cell 1 (by simp)
        have c2 := XW.cell 2 (by simp)
        have c3 := XW.cell 3 (by simp)
        have e0 : wr.cell? ⟨b, off + k * 4, none⟩ = some (.int .i64 y0) := HRW 0 _ rfl
        have e1 : wr.cell? ⟨b, off + k * 4 + 1, none⟩ = some (.int .i64 y1) := HRW 1 _ rfl
        have e2 : wr.cell? ⟨b, off + k * 4 + 2, none⟩ = some (.int .i64 y2) := HRW 2 _ rfl
        have e3 : wr.cell? ⟨b, off + k * 4 + 3, none⟩ = some (.int .i64 y3) := HRW 3 _ rfl
        simp only [List.getElem?_cons_zero, List.getElem?_cons_succ, Option.getD_some] at c0 c1 c2 c3
        have EQ2 : ∀ w, (binOp .eql 71 (.agg #[.int .i64 x0, .int .i64 x1, .int .i64 x2, .int .i64 x3]) (.agg #[.int .i64 y0, .int .i64 y1, .int .i64 y2, .int .i64 y3])).run Try.prog w = .ok (.bool (decide ([x0, x1, x2, x3] = [y0, y1, y2, y3]))) w := EQ
        have FIQ : Hid (∀ nq, Below w.heap.size w (wr.drewN nq)) := Lib.hid (fun nq => by rw [hw.out]; exact below_drewN (below_drewN B1.out q) nq)
        have NXQ : Hid (∀ nq, wr.drewN nq = w1.drewN (q + nq)) := Lib.hid (fun nq => by rw [hw.out]; exact World.drewN_drewN ..)
        obtain ⟨r, hr9⟩ : ∃ r, decide ([x0, x1, x2, x3] = [y0, y1, y2, y3]) = r := ⟨_, rfl⟩
        rw [hr9] at EQ2
        have HR9 := Lib.hid hr9
        have HLK := Lib.hid hlk
        clear XW HRW EQ hr ey hr9 hw hcs hlk
        cases r
        · have NE : Hid (∀ j, j < k + 1 → L[j]? ≠ some [x0, x1, x2, x3]) := Lib.hid (fun j hj h => by
            by_cases e : j = k
            · subst e
              rw [HLK.out] at h
              exact absurd (Option.some.inj h).symm (of_decide_eq_false HR9.out)
            · exact hN.out j (by omega) h)
          clear hN HLK HR9
          go_upto_region 4 with fail
          go_quiet (fail)
          go_wp2_with fail
          go_roundw
          case rel => exact ⟨k + 1, q + nq, by omega, by go_num, NE, Lib.hid (NXQ.out nq)⟩
          case measure => simp [intOf]; omega
        · have YE : Hid ((0 : Int) ≤ (k : Int) ↔ [x0, x1, x2, x3] ∈ L) := Lib.hid ⟨fun _ => by
            rw [of_decide_eq_true HR9.out]
            exact List.mem_of_getElem? HLK.out, fun _ => by omega⟩
          clear hN HLK HR9
          go_upto_region 4 with fail
          go_quiet (fail)
          go_wp2_with fail
          go_ret
          exact ⟨(k : Int), rfl, by omega, YE.out, FIQ.out _⟩
    · obtain rfl : k = L.length := by omega
      have NO : Hid ((0 : Int) ≤ -1 ↔ x ∈ L) := Lib.hid ⟨fun h => by omega, fun h => by
        obtain ⟨j, hj, e⟩ := List.getElem_of_mem h
        exact absurd (by rw [List.getElem?_eq_getElem hj, e]) (hN.out j hj)⟩
      have B9 : Hid (Below w.heap.size w wr) := Lib.hid (by rw [hw.out]; exact below_drewN B1.out q)
      clear hN hw
      go_wp2_with fail
      go_ret
      exact ⟨-1, rfl, by omega, NO.out, B9.out⟩
/-- Whether a monomial is there. -/
theorem contains4_any (v : Value) (L : List (List Int)) (x : List Int) (hx : x.length = 4) (h4 : ∀ t ∈ L, t.length = 4) (w : World) (h : RdY w v (L.map pwK)) :
    Calls Try.prog 102 #[v, .agg (pwK x)] w fun e w' => e = .returned (.bool (decide (x ∈ L))) ∧ Below w.heap.size w w' := by
  obtain ⟨w1, hw1⟩ : ∃ w1, w1 = w.alloc (.cells (pwK x) 71) := ⟨_, rfl⟩
  have B1 : Hid (Below w.heap.size w w1) := Lib.hid (by rw [hw1]; exact (Below.refl _ _).alloc (Nat.le_refl _) _)
  have X1 : Hid (w1.rangeAt w.heap.size 0 (pwK x).toList) := Lib.hid (by rw [hw1]; exact (PwAt.new _ _).range)
  have IX := Lib.hid (index4_any v L x hx h4 w1 (h.below B1.out))
  have SY : Hid ((pwK x).size = 4) := Lib.hid (by rw [pwK_size, hx])
  clear h hx h4
  generalize pwK x = K at *
  obtain ⟨r, hr⟩ : ∃ r, decide (x ∈ L) = r := ⟨_, rfl⟩
  rw [hr]
  have HR := Lib.hid hr
  clear hr
  go_enter Try.func102, Try.ntmps102
  go_upto_region 1 with fail
  rw [← hw1]
  clear hw1
  go_wp2_with (refine ldKY rfl _ rfl w.heap.size 0 rfl K X1.out SY.out ?_)
  refine IX.out.mono ?_
  rintro e w2 ⟨i, rfl, h1, h2, b2⟩
  have B2 := Lib.hid (B1.out.trans (b2.mono B1.out.size))
  have hd : decide ((0 : Int) ≤ i) = r := by
    rw [← HR.out]
    by_cases hm : x ∈ L
    · rw [decide_eq_true hm, decide_eq_true (h2.2 hm)]
    · rw [decide_eq_false hm, decide_eq_false fun h => hm (h2.1 h)]
  clear b2 h1 h2 IX X1
  go_wp2_with fail
  go_ret
  exact ⟨by first | rfl | (rw [hd]), B2.out⟩
theorem hasMono_any (v : Value) (L : List (List Int)) (x : List Int) (hx : x.length = 4) (h4 : ∀ t ∈ L, t.length = 4) (w : World) (h : RdY w v (L.map pwK)) :
    Calls Try.prog 83 #[v, .agg (pwK x)] w fun e w' => e = .returned (.bool (decide (x ∈ L))) ∧ Below w.heap.size w w' := by
  obtain ⟨w1, hw1⟩ : ∃ w1, w1 = w.alloc (.cells (pwK x) 71) := ⟨_, rfl⟩
  have B1 : Hid (Below w.heap.size w w1) := Lib.hid (by rw [hw1]; exact (Below.refl _ _).alloc (Nat.le_refl _) _)
  have X1 : Hid (w1.rangeAt w.heap.size 0 (pwK x).toList) := Lib.hid (by rw [hw1]; exact (PwAt.new _ _).range)
  have IX := Lib.hid (contains4_any v L x hx h4 w1 (h.below B1.out))
  have SY : Hid ((pwK x).size = 4) := Lib.hid (by rw [pwK_size, hx])
  clear h hx h4
  generalize pwK x = K at *
  generalize decide (x ∈ L) = r at *
  go_enter Try.func83, Try.ntmps83
  go_upto_region 1 with fail
  rw [← hw1]
  clear hw1
  go_wp2_with (refine ldKY rfl _ rfl w.heap.size 0 rfl K X1.out SY.out ?_)
  refine IX.out.mono ?_
  rintro e w2 ⟨rfl, b2⟩
  have B2 := Lib.hid (B1.out.trans (b2.mono B1.out.size))
  clear b2 IX X1
  go_wp2_with fail
  go_ret
  exact ⟨rfl, B2.out⟩
end Go.Proofs.Ytggebkcmokpcmaa
end
section
namespace Go.Proofs.Ytggebkcmokpcmaa
open Go.RowKit Go.Maps
set_option linter.unusedVariables false
set_option maxRecDepth 100000

/-- v reads as the monomials L, at a place, with room. -/
def RdC (w : World) (v : Value) (L : List (List Int)) : Prop :=
  ∃ b off cap, v = .slice (some ⟨b, off, none⟩) L.length cap ∧ L.length ≤ cap ∧ cap ≤ maxLen ∧ b < w.heap.size ∧ ∀ i (h : i < L.length), w.rangeAt b (off + i * 4) (pwK L[i]).toList
theorem RdC.below {w w' : World} {v : Value} {L : List (List Int)} (h : RdC w v L) (k : Below w.heap.size w w') : RdC w' v L := by
  obtain ⟨b, off, cap, e, h1, h2, hb, h3⟩ := h
  exact ⟨b, off, cap, e, h1, h2, Nat.lt_of_lt_of_le hb k.size, fun i hi q u hq => (k.cell (p := ⟨b, off + i * 4 + q, none⟩) hb).trans (h3 i hi q u hq)⟩
theorem RdC.rd {w : World} {v : Value} {L : List (List Int)} (h : RdC w v L) : RdY w v (L.map pwK) := by
  obtain ⟨b, off, cap, rfl, h1, h2, hb, h3⟩ := h
  refine ⟨_, cap, by rw [List.length_map], by rw [List.length_map]; omega, .inr ⟨b, off, rfl, hb, fun i hi => ?_⟩⟩
  rw [List.length_map] at hi
  rw [List.getElem?_map, List.getElem?_eq_getElem hi]
  exact h3 i hi
theorem RdC.of_own {w : World} {B : Nat} {v : Value} {L : List (List Int)} (h : OwnY w B v (L.map pwK)) (h4 : ∀ z ∈ L, z.length = 4) (hne : L ≠ []) : RdC w v L := by
  have hr := rdY_of_own h h4
  unfold OwnY at h
  rw [List.length_map] at h
  have hpos := List.length_pos_iff.2 hne
  rcases h.2 with ⟨_, h0⟩ | ⟨g, cap, cur, rfl, hb, hg, h1, h2, h3, h5⟩
  · omega
  · refine ⟨g, 0, cap, rfl, h1, h2, (Array.getElem?_eq_some_iff.1 hg).1, fun i hi => ?_⟩
    obtain ⟨a, c, e, hm, hc⟩ := hr
    rw [List.length_map] at e hc
    simp only [Value.slice.injEq] at e
    rcases hc with h0 | ⟨b, off, e2, _, hc⟩
    · omega
    · rw [← e.1] at e2
      simp only [Option.some.injEq, Addr.mk.injEq, and_true] at e2
      obtain ⟨rfl, rfl⟩ := e2
      have := hc i hi
      rw [List.getElem?_map, List.getElem?_eq_getElem hi] at this
      exact this
/-- What is left when the first is cut off. -/
theorem RdC.cut1 {w : World} {b off cap : Nat} {x : List Int} {L : List (List Int)} (h : RdC w (.slice (some ⟨b, off, none⟩) (L.length + 1) cap) (x :: L)) (hc : cap = 1) : RdC w (.slice (some ⟨b, off, none⟩) L.length 0) L := by
  obtain ⟨b', off', cap', e, h1, h2, hb, h3⟩ := h
  simp only [Value.slice.injEq, Option.some.injEq, Addr.mk.injEq, and_true, List.length_cons, true_and] at e
  obtain ⟨⟨rfl, rfl⟩, rfl⟩ := e
  rw [List.length_cons] at h1
  exact ⟨b, off, 0, rfl, by omega, Nat.zero_le _, hb, fun i hi => by omega⟩
theorem RdC.cut {w : World} {b off cap : Nat} {x : List Int} {L : List (List Int)} (h : RdC w (.slice (some ⟨b, off, none⟩) (L.length + 1) cap) (x :: L)) : RdC w (.slice (some ⟨b, off + 4, none⟩) L.length (cap - 1)) L := by
  obtain ⟨b', off', cap', e, h1, h2, hb, h3⟩ := h
  simp only [Value.slice.injEq, Option.some.injEq, Addr.mk.injEq, and_true, List.length_cons, true_and] at e
  obtain ⟨⟨rfl, rfl⟩, rfl⟩ := e
  rw [List.length_cons] at h1
  refine ⟨b, off + 4, cap - 1, rfl, by omega, by omega, hb, fun i hi => ?_⟩
  have := h3 (i + 1) (by simpa using hi)
  rw [show off + (i + 1) * 4 = off + 4 + i * 4 by omega] at this
  simpa using this
theorem RdC.head {w : World} {v : Value} {x : List Int} {L : List (List Int)} (h : RdC w v (x :: L)) : ∃ b off cap, v = .slice (some ⟨b, off, none⟩) (L.length + 1) cap ∧ 1 ≤ cap ∧ cap ≤ maxLen ∧ b < w.heap.size ∧ w.rangeAt b off (pwK x).toList := by
  obtain ⟨b, off, cap, rfl, h1, h2, hb, h3⟩ := h
  rw [List.length_cons] at h1
  refine ⟨b, off, cap, rfl, by omega, h2, hb, ?_⟩
  have := h3 0 (by simp)
  simpa using this
/-- A slice of monomials as a source. -/
theorem RdC.src {w : World} {v : Value} {L : List (List Int)} (h : RdC w v L) (h4 : ∀ z ∈ L, z.length = 4) : ∃ ad c, v = .slice (some ad) L.length c ∧ ∀ w', Below w.heap.size w w' → ∀ j u, ((L.map pwK).flatMap Array.toList)[j]? = some u → w'.cell? (ad.add j) = some u := by
  obtain ⟨b, off, cap, rfl, h1, h2, hb, h3⟩ := h
  refine ⟨⟨b, off, none⟩, cap, rfl, fun w' hw j u hu => ?_⟩
  have hk : ∀ k ∈ L.map pwK, k.size = 4 := fun k hk => by
    obtain ⟨z, hz, rfl⟩ := List.mem_map.1 hk
    rw [pwK_size, h4 z hz]
  have hj : j < ((L.map pwK).flatMap Array.toList).length := (List.getElem?_eq_some_iff.1 hu).1
  rw [flat4_len hk, List.length_map] at hj
  have e : j = j / 4 * 4 + j % 4 := by omega
  have hi : j / 4 < L.length := by omega
  have hf := flat_atY 4 (L.map pwK) hk (j / 4) (by rw [List.length_map]; exact hi) (j % 4) (Nat.mod_lt _ (by decide))
  rw [← e, hu, List.getElem?_map, List.getElem?_eq_getElem hi] at hf
  rw [Addr.add_lit, show off + j = off + j / 4 * 4 + j % 4 by omega]
  exact (hw.cell (p := ⟨b, off + j / 4 * 4 + j % 4, none⟩) hb).trans (h3 (j / 4) hi (j % 4) u hf.symm)

theorem step_pow {ops : Array Oper} {o : Oper} {a : Act} {w : World} {K : Act → World → Prop} {Q : Exit → Act → World → Prop} {E : Prop} (hgd : o.guard = none) (s x : Operand) (ho : o.op = .call { callee := .builtin .append, args := #[s, x], argTypes := #[53, 53] })
    (B n : Nat) (v : Value) (xs : List Value) (hs : a.eval s = v) (hown : w.ownsRow B 71 4 v n xs) (ad : Addr) (c : Nat) (k : List Value) (hx : a.eval x = .slice (some ad) 1 c)
    (hc : ∀ j u, k[j]? = some u → w.cell? (ad.add j) = some u) (hk : k.length = 4) (h1 : ∀ u ∈ k, u.oneCell' = true) (hn : n ≤ 1000000) (hB : B ≤ w.heap.size)
    (h : ∀ v' w', w'.ownsRow B 71 4 v' (n + 1) (xs ++ k) → w.grownBy w' v.ownBlock → K (a.put o.dst v') w') :
    if Region.wanted o (yielded ops a.tmps) = true then Oper.wp Try.prog o a w K Q else E := by
  have hw : Region.wanted o (yielded ops a.tmps) = true := by simp [Region.wanted, hgd]
  rw [if_pos hw]
  obtain ⟨i0, hi, hz0, hz1, hz2⟩ := info_parts infoEY
  exact wp_append_own w s x 53 ho B 71 i0 (.agg #[Value.int .i64 0, Value.int .i64 0, Value.int .i64 0, Value.int .i64 0]) 4 32 Try.underlying53 hi hz0 hz1 hz2 rfl (by decide) v n xs hs hown ad 1 c k hx (by omega) hc h1 (by unfold maxLen; omega) (by omega) hB
      (fun v' w' h2 h3 _ => h v' w' h2 h3)

theorem grow4_nil (n : Nat) (w : World) (hn : n ≤ 100000) :
    Calls Try.prog 113 #[.slice none 0 0, .int .i64 n] w fun e w' => ∃ u, e = .returned u ∧ w'.ownsRow w.heap.size 71 4 u 0 [] ∧ Below w.heap.size w w' := by
  obtain ⟨i0, hi, hz0, hz1, hz2⟩ := info_parts infoEY
  by_cases h0 : n = 0
  · subst h0
    go_enter Try.func113, Try.ntmps113
    go_wp2_with fail
    go_ret
    exact ⟨_, rfl, World.ownsRow_nil _ _ _ _, Below.refl _ _⟩
  · have h1 : ¬ (n : Int) < 0 := by omega
    have h2 : (0 : Int) < (n : Int) := by omega
    have hw : IntKind.i64.wrap (n : Int) = (n : Int) := by rw [IntKind.wrap_i64]; omega
    obtain ⟨cp, hcp⟩ : ∃ cp, grownCap w n 0 71 = cp := ⟨_, rfl⟩
    have HR := Lib.run_append_nil_zeros (P := Try.prog) w 53 3 53 71 i0 (.agg #[Value.int .i64 0, Value.int .i64 0, Value.int .i64 0, Value.int .i64 0]) .i64 .i64 Try.underlying53 Try.underlying3 hi hz0 n (by omega) (by omega) (by omega) (by rw [hz2]; omega)
    have hge := grownCap_ge w n 0 71
    have hle := grownCap_le_maxLen w n 0 71 (by unfold maxLen; omega)
    rw [hcp] at HR hge hle
    obtain ⟨C, hC⟩ : ∃ C, Builtin.zeroCells (Value.agg #[Value.int .i64 0, Value.int .i64 0, Value.int .i64 0, Value.int .i64 0]).cells n ++ Builtin.zeroCells (Value.agg #[Value.int .i64 0, Value.int .i64 0, Value.int .i64 0, Value.int .i64 0]).cells (cp - n) = C := ⟨_, rfl⟩
    have hs : C.size = cp * 4 := by rw [← hC, Array.size_append, size_zeroCells, size_zeroCells]; show n * 4 + (cp - n) * 4 = cp * 4; omega
    rw [hC] at HR
    have HR := Lib.hid HR
    have OW := Lib.hid (World.ownsRow_made (base := w.heap.size) (e := 71) (size := 4) w.drew C cp (Nat.le_refl _) hle hs)
    have BW : Hid (Below w.heap.size w (w.drew.alloc (.cells C 71))) := Lib.hid ((Below.refl _ w).drew.alloc (Nat.le_refl _) _)
    clear hC hs hcp hi hz0 hz1 hz2
    have hcp0 : 0 ≤ cp := Nat.zero_le _
    go_enter Try.func113, Try.ntmps113
    go_wp2_with (at_builtin; refine Lib.wpList_append_run _ rfl _ _ _ _ rfl _ _ rfl rfl _ _ HR.out ?_)
    go_ret
    exact ⟨_, rfl, OW.out, BW.out⟩
end Go.Proofs.Ytggebkcmokpcmaa
end
