/-
  The draw of MatrixOfLists.
-/
import Derived.Test.YtdojblmffmefgaaDoorDDrawN
namespace Go.Proofs.YtdojblmffmefgaaDoor
open Go.RowKit
set_option linter.unusedVariables false
set_option maxRecDepth 100000

/-- A number and drawn lists. -/
def VListsRes (w : World) (e : Ending) (w' : World) : Prop :=
  ∃ (z : Int) (V : Value) (m : Nat) (X : Nat → List Int), e = .returned (.tuple #[.int .i64 z, V]) ∧ RdSS w' V m X ∧ Below w.heap.size w w'

theorem add_none' (b off i : Nat) : (⟨b, off, none⟩ : Addr).add i = ⟨b, off + i, none⟩ := by
  by_cases h6 : i = 0
  · subst h6; simp [Addr.add]
  · simp [Addr.add, h6]

theorem own_lit (w : World) (B : Nat) (x : Int) (hB : B ≤ w.heap.size) : (w.alloc (.cells #[.int .i64 x] 2)).ownsRow B 2 1 (.slice (some ⟨w.heap.size, 0, none⟩) 1 1) 1 (([x] : List Int).map (Value.int .i64)) :=
  ⟨by simp, .inr ⟨w.heap.size, 1, _, rfl, hB, heap_alloc_new w _, Nat.le_refl _, by decide, rfl, by simp⟩⟩

theorem lsY {c : Int} {n : Nat} {G : Nat → Int} (w : World) (s : Value) (h : RdI w s n G) : ∃ (m : Nat) (Y : Nat → List Int) (cd : Int), m ≤ 200 ∧ (∀ i, i < m → (Y i).length ≤ 60) ∧ Calls Tryd.prog 18 #[.agg #[.int .i64 c, s]] w (LRes m Y cd w) := by
  obtain ⟨m, Y, cd, h1, h2, h3, _⟩ := ListsOfMatrix_both c n G
  exact ⟨m, Y, cd, h1, h2, h3 w s h⟩

/-- A family's first row is replaced. -/
theorem Fam.first {w : World} {B b m cap : Nat} {v' : Value} {VS : Nat → Value} {Y : Nat → List Int} {ys : List Int} (h : Fam w B (.slice (some ⟨b, 0, none⟩) m cap) m VS Y) (hm : 0 < m) (o : w.ownsRow B 2 1 v' ys.length (ys.map (Value.int .i64))) :
    Fam (w.setCell ⟨b, 0, none⟩ v') B (.slice (some ⟨b, 0, none⟩) m cap) m (fun i => if i = 0 then v' else VS i) (fun i => if i = 0 then ys else Y i) := by
  have keep : ∀ {k : Nat} {v : Value} {xs : List Value}, w.ownsRow B 2 1 v k xs → (w.setCell ⟨b, 0, none⟩ v').ownsRow B 2 1 v k xs := fun {k v xs} ov => own_sameblock ov fun q hq => heap_setCell_other _ _ _ _ (by
    intro e
    have := own_types h.out ov (by decide)
    rcases this with e2 | e2
    · cases e2
    · apply e2; rw [hq]; simp only [Value.ownBlock]; rw [show q = b from e])
  refine ⟨?_, fun i hi => ?_⟩
  · have := (h.out.stored 0 v').1
    have e : ((List.range m).map VS).set 0 v' = (List.range m).map (fun i => if i = 0 then v' else VS i) := by
      apply List.ext_getElem
      · simp
      · intro i h1 h2
        simp only [List.getElem_set, List.getElem_map, List.getElem_range]
        by_cases e : i = 0
        · subst e; simp
        · simp [e, Ne.symm e]
    rw [e] at this
    exact this
  · by_cases e : i = 0
    · simp only [e, if_true]; exact keep o
    · simp only [e, if_false]; exact keep (h.inn i hi)

theorem Fam.grownG {w w' : World} {B g m : Nat} {V : Value} {VS : Nat → Value} {Y : Nat → List Int} (h : Fam w B V m VS Y) (k : w.grownBy w' (some g)) (hg : g < B) : Fam w' B V m VS Y := by
  have ne : ∀ {e : TypeId} {v : Value} {n : Nat} {xs : List Value}, w.ownsRow B e 1 v n xs → v.ownBlock = none ∨ v.ownBlock ≠ some g := fun {e v n xs} o => by
    cases hv : v.ownBlock with
    | none => exact .inl rfl
    | some q => exact .inr (fun e => by have := (o.lt q hv).1; injection e with e; omega)
  exact ⟨h.out.kept k (ne h.out), fun i hi => (h.inn i hi).kept k (ne (h.inn i hi))⟩

set_option maxHeartbeats 1000000 in
theorem DrawLists_any (a : Option Addr) (m cap : Nat) (w : World) (hc : Code w w.heap.size a m) (hm : m ≤ 4096) :
    Calls Tryd.prog 22 #[.slice a m cap] w (VListsRes w) := by
  have t2 := Tryd.underlying26
  have FR := Lib.hid (l01From_any a m cap w hc hm)
  clear hc
  go_enter Tryd.func22, Tryd.ntmps22
  go_wp2_with fail
  refine FR.out.mono ?_
  rintro e w3 ⟨rfl, b3, s3⟩
  have T3 : Hid (Tw w w.heap.size w3) := Lib.hid ⟨s3, b3⟩
  clear b3 s3 FR
  obtain ⟨g, hg⟩ : ∃ g, g = w.heap.size := ⟨_, rfl⟩
  rw [← hg] at T3
  have HGw := Lib.hid hg
  rw [← hg]
  clear hg
  go_wp2_with fail
  refine (l02Draw_any g g w3 T3.out.src).mono ?_
  rintro e w4 ⟨C1, L1, u1, rfl, _, hl1, o4, s4, k4⟩
  have T4 := Lib.hid (T3.out.grown s4 k4)
  obtain ⟨va1, vc1, rfl⟩ := o4.shape
  have T5 := Lib.hid (T4.out.up ((Below.refl _ _).alloc (Nat.le_refl _) (.cells #[.int .i64 C1, .slice va1 L1.length vc1] 26)))
  have A5 : Hid (At g w4.heap.size C1 (.slice va1 L1.length vc1) L1 (w4.alloc (.cells #[.int .i64 C1, .slice va1 L1.length vc1] 26))) := Lib.hid ⟨Box.new _ _ _ _, own_below (own_base o4 (by have := T3.out.src.lt; omega)) ((Below.refl _ _).alloc (Nat.le_refl _) _), T4.out.src.lt.2⟩
  clear s4 k4 o4 T3 T4
  go_wp2_with fail
  generalize (w4.alloc (.cells #[.int .i64 C1, .slice va1 L1.length vc1] 26)) = w5 at *
  generalize w4.heap.size = gA at *
  obtain ⟨mm, Y, cd, hmm, hY, LS⟩ := lsY (c := C1) w5 _ A5.out.rd
  refine LS.mono ?_
  rintro e w6 ⟨U, US, rfl, f6⟩
  have T6 := Lib.hid (T5.out.up f6.bel)
  have A6 := Lib.hid (A5.out.up f6.bel)
  have SZ := Lib.hid (T5.out.src.lt.2)
  have F6 : Hid (Fam w6 (g + 1) U mm US Y) := Lib.hid ⟨own_base f6.fam.out (by have := SZ.out; omega), fun i hi => own_base (f6.fam.inn i hi) (by have := SZ.out; omega)⟩
  have NB6 := Lib.hid (A6.out.box.ne_rowS f6.fam.out)
  clear f6 T5 A5 LS
  obtain ⟨ua, uc, rfl, hmx, hcell⟩ := F6.out.head
  by_cases h0 : mm = 0
  · subst h0
    have NX := Lib.hid (next_g g g 16 w6.drew ((T6.out.up (Below.refl _ _).drew).src) (by omega) (by omega))
    have TD := Lib.hid (T6.out.up (Below.refl _ _).drew)
    have AD := Lib.hid (A6.out.up (Below.refl _ _).drew)
    have FD := Lib.hid (F6.out.below (Below.refl _ _).drew)
    have c0 := A6.out.box.c0
    go_wp2_with fail
    go_region_law (first | (go_simp; go_at_call 74; refine NX.out.mono ?_; rintro e w9 ⟨y9, rfl, ⟨y90, y91⟩, s9, k9⟩; have T9 := Lib.hid (TD.out.grown s9 k9); have A9 := Lib.hid (AD.out.grown k9); have F9 := Lib.hid (FD.out.grownG k9 (Nat.lt_succ_self g)); have q0 := A9.out.box.c0))
    all_goals
      clear c0 q0 s9 k9
      go_wp2
      go_ret2
      exact ⟨_, _, _, _, rfl, F9.out.rdss, HGw.out ▸ T9.out.bel⟩
  · obtain ⟨b, rfl, hcl⟩ := hcell.resolve_left h0
    have h0' : (0 : Int) < (mm : Int) := by omega
    have x0 := hcl 0 (by omega)
    have R0 := F6.out.inn 0 (by omega)
    obtain ⟨ra, rc, hr0⟩ := R0.shape
    rw [hr0] at x0 R0
    clear hcell hcl
    by_cases hn : (Y 0).length = 0
    · have hn' : ¬ (0 : Int) < ((Y 0).length : Int) := by omega
      have NX := Lib.hid (next_g g g 16 w6.drew ((T6.out.up (Below.refl _ _).drew).src) (by omega) (by omega))
      have TD := Lib.hid (T6.out.up (Below.refl _ _).drew)
      have AD := Lib.hid (A6.out.up (Below.refl _ _).drew)
      have FD := Lib.hid (F6.out.below (Below.refl _ _).drew)
      have c0 := A6.out.box.c0
      go_wp2_with fail
      go_region_law (first | (go_simp; go_at_call 74; refine NX.out.mono ?_; rintro e w9 ⟨y9, rfl, ⟨y90, y91⟩, s9, k9⟩; have T9 := Lib.hid (TD.out.grown s9 k9); have A9 := Lib.hid (AD.out.grown k9); have F9 := Lib.hid (FD.out.grownG k9 (Nat.lt_succ_self g)); have q0 := A9.out.box.c0))
      all_goals
        clear c0 q0 s9 k9
        go_wp2
        go_ret2
        exact ⟨_, _, _, _, rfl, F9.out.rdss, HGw.out ▸ T9.out.bel⟩
    · have hn' : (0 : Int) < ((Y 0).length : Int) := by omega
      have R0 := Lib.hid R0
      have N := Lib.hid (next_g g g 10 w6 T6.out.src (by omega) (by omega))
      go_wp2_with fail
      refine N.out.mono ?_
      rintro e w7 ⟨y, rfl, ⟨y0, y1⟩, s7, k7⟩
      have T7 := Lib.hid (T6.out.grown s7 k7)
      have A7 := Lib.hid (A6.out.grown k7)
      have F7 := Lib.hid (F6.out.grownG k7 (Nat.lt_succ_self g))
      have R07 := F7.out.inn 0 (by omega)
      rw [hr0] at R07
      have x7 := F7.out.out.cellAt 0 (by omega)
      have e7 : ((List.range mm).map US)[0]? = some (US 0) := by rw [List.getElem?_map, List.getElem?_range (by omega)]; rfl
      rw [e7, hr0] at x7
      clear e7
      by_cases hy : y = 0
      · subst hy
        rcases R0.out.2 with ⟨e0, _⟩ | ⟨rb, rcap, cur, e0, hrb, hrg, hrl, hrm, hrs, hrt⟩
        · injection e0 with _ e2 _; omega
        · injection e0 with e1 _ e3
          subst e1 e3
          have OL := Lib.hid (own_lit w7 (g + 1) 2 (by have := T7.out.src.lt; omega))
          have x7a := ((Below.refl w7.heap.size w7).alloc (Nat.le_refl _) (.cells #[.int .i64 2] 2)).cell (p := ⟨b, 0, none⟩) (World.block_lt_of_cell? w7 _ x7)
          rw [x7] at x7a
          obtain ⟨i0, hi0, hz0, hz1, hz2⟩ := info_parts Tryd.info2
          have NWL : (((Y 0).drop 1).map (Value.int .i64)).length = ((Y 0).length - 1) * 1 := by simp
          have NWC : Hid (∀ j u, (((Y 0).drop 1).map (Value.int .i64))[j]? = some u → (w7.alloc (.cells #[.int .i64 2] 2)).cell? ((⟨rb, 1, none⟩ : Addr).add j) = some u) := Lib.hid (by
            intro j u hj
            have hjl : j < (Y 0).length - 1 := by
              have := (List.getElem?_eq_some_iff.1 hj).1
              simpa using this
            have h1 := R07.cellAt (1 + j) (by omega)
            have h2 := ((Below.refl w7.heap.size w7).alloc (Nat.le_refl _) (.cells #[.int .i64 2] 2)).cell (p := ⟨rb, 1 + j, none⟩) (R07.lt rb rfl).2
            rw [add_none', h2, h1, ← hj]
            simp [Nat.add_comm])
          have NW1 : Hid (∀ u ∈ ((Y 0).drop 1).map (Value.int .i64), u.oneCell' = true) := Lib.hid (by
            intro u hu
            obtain ⟨z, _, rfl⟩ := List.mem_map.1 hu
            rfl)
          have hY0 := hY 0 (by omega)
          have YS : Hid (([.int .i64 2] : List Value) ++ ((Y 0).drop 1).map (Value.int .i64) = (2 :: (Y 0).drop 1).map (Value.int .i64)) := Lib.hid (by simp)
          have YL : Hid ((2 :: (Y 0).drop 1).length = 1 + ((Y 0).length - 1)) := Lib.hid (by simp; omega)
          have TL := Lib.hid (T7.out.up ((Below.refl _ _).alloc (Nat.le_refl _) (.cells #[.int .i64 2] 2)))
          have AL := Lib.hid (A7.out.up ((Below.refl _ _).alloc (Nat.le_refl _) (.cells #[.int .i64 2] 2)))
          have FL := Lib.hid (F7.out.below ((Below.refl _ _).alloc (Nat.le_refl _) (.cells #[.int .i64 2] 2)))
          have SG := Lib.hid (Nat.succ_le_of_lt TL.out.src.lt.2)
          have APO := Lib.hid (fun (v : Value) (n : Nat) (e : TypeId) (xs : List Value) (o : w7.ownsRow (g + 1) e 1 v n xs) => show v.ownBlock = none ∨ v.ownBlock ≠ (Value.slice (some ⟨w7.heap.size, 0, none⟩) 1 1).ownBlock from by
            cases hv : v.ownBlock with
            | none => exact .inl rfl
            | some q => exact .inr (fun e => by have := (o.lt q hv).2; simp only [Value.ownBlock, Option.some.injEq] at e; omega))
          generalize hyd : (Y 0).drop 1 = yd at *
          generalize (Y 0).length = n0 at *
          have hn1 : 1 ≤ n0 := by omega
          have hn2 : (1 : Int) ≤ (n0 : Int) := by omega
          by_cases hrc : rc = 1
          · subst hrc
            obtain rfl : n0 = 1 := by omega
            have NWC0 : Hid (∀ j u, (yd.map (Value.int .i64))[j]? = some u → (w7.alloc (.cells #[.int .i64 2] 2)).cell? ((⟨rb, 0, none⟩ : Addr).add j) = some u) := Lib.hid (by
              intro j u hj
              have := (List.getElem?_eq_some_iff.1 hj).1
              rw [NWL] at this
              omega)
            go_wp2_with (at_builtin; refine wpList_append_own _ rfl _ _ 24 rfl (g + 1) 2 i0 (.int .i64 0) 1 8 Tryd.underlying24 hi0 hz0 hz1 hz2 rfl (by decide) (.slice (some ⟨w7.heap.size, 0, none⟩) 1 1) 1 [.int .i64 2] rfl OL.out ⟨rb, 0, none⟩ (1 - 1) 0 (yd.map (Value.int .i64)) rfl NWL NWC0.out NW1.out (by unfold maxLen; omega) (by omega) SG.out ?_)
            intro v' w8 ho hg2 _
            have ho : w8.ownsRow (g + 1) 2 1 v' (2 :: yd).length ((2 :: yd).map (Value.int .i64)) := by
              have e : (2 :: yd).length = 1 := by rw [YL.out]
              rw [e]; simpa using ho
            have bo := fun (v : Value) (n : Nat) (e : TypeId) (xs : List Value) (o : w7.ownsRow (g + 1) e 1 v n xs) => (own_below o ((Below.refl _ _).alloc (Nat.le_refl _) (.cells #[.int .i64 2] 2))).kept hg2 (APO.out v n e xs o)
            have F8 : Fam w8 (g + 1) (.slice (some ⟨b, 0, none⟩) mm uc) mm US Y := ⟨bo _ _ _ _ F7.out.out, fun i hi => bo _ _ _ _ (F7.out.inn i hi)⟩
            have B8 : Below g w w8 := TL.out.bel.trans ⟨hg2.os, hg2.tape, hg2.output, hg2.size, fun i hi => hg2.block i (by have := SG.out; omega) (fun e => by have := T7.out.src.lt.2; simp only [Value.ownBlock, Option.some.injEq] at e; omega)⟩
            have T8 : Tw w g w8 := ⟨TL.out.src.grownRow hg2 OL.out (Nat.lt_succ_self g), B8⟩
            have A8 : At g gA C1 (.slice va1 L1.length vc1) L1 w8 := ⟨AL.out.box.grown hg2 (AL.out.box.ne_row OL.out (by decide)), bo _ _ _ _ A7.out.own, A7.out.gt⟩
            have FZ := Lib.hid (F8.first (by omega) ho)
            have x8 := F8.out.cellAt 0 (by omega)
            have e8 : ((List.range mm).map US)[0]? = some (US 0) := by rw [List.getElem?_map, List.getElem?_range (by omega)]; rfl
            rw [e8] at x8
            have f8 := F8.out.frozenAt 0
            have hbg := (F8.out.lt b rfl).1
            have TZ : Hid (Tw w g (w8.setCell ⟨b, 0, none⟩ v')) := Lib.hid ⟨T8.src.other _ _ (by simp; omega) (by simp; omega), T8.bel.setCell (p := ⟨b, 0, none⟩) (by simp; omega) _⟩
            have NEb : gA ≠ b := fun e => A8.box.ne_rowS F8.out (by rw [e]; rfl)
            have AZ : Hid (At g gA C1 (.slice va1 L1.length vc1) L1 (w8.setCell ⟨b, 0, none⟩ v')) := Lib.hid ⟨A8.box.other _ _ NEb, by
              refine own_sameblock A8.own fun q hq => heap_setCell_other _ _ _ _ (fun e => ?_)
              rcases own_types F8.out A8.own (by decide) with e2 | e2
              · cases e2
              · apply e2; rw [hq]; simp only [Value.ownBlock]; rw [show q = b from e], A8.gt⟩
            obtain ⟨v1, v2, v3, rfl⟩ : ∃ a n c, v' = .slice a n c := by obtain ⟨a, c, e⟩ := ho.shape; exact ⟨_, _, _, e⟩
            clear ho hg2 bo B8 T8 A8 F8 hbg e8
            go_wp2_with fail
            obtain ⟨wz, hwz⟩ : ∃ wz, wz = w8.setCell ⟨b, 0, none⟩ (.slice v1 v2 v3) := ⟨_, rfl⟩
            rw [← hwz] at TZ AZ FZ ⊢
            clear hwz x8 f8
            have NX := Lib.hid (next_g g g 16 wz.drew ((TZ.out.up (Below.refl _ _).drew).src) (by omega) (by omega))
            have TD := Lib.hid (TZ.out.up (Below.refl _ _).drew)
            have AD := Lib.hid (AZ.out.up (Below.refl _ _).drew)
            have FD := Lib.hid (FZ.out.below (Below.refl _ _).drew)
            have c0 := AZ.out.box.c0
            go_wp2_with fail
            go_region_law (first | (go_simp; go_at_call 74; refine NX.out.mono ?_; rintro e w9 ⟨y9, rfl, ⟨y90, y91⟩, s9, k9⟩; have T9 := Lib.hid (TD.out.grown s9 k9); have A9 := Lib.hid (AD.out.grown k9); have F9 := Lib.hid (FD.out.grownG k9 (Nat.lt_succ_self g)); have q0 := A9.out.box.c0))
            all_goals
              clear c0 q0 s9 k9
              go_wp2
              go_ret2
              exact ⟨_, _, _, _, rfl, F9.out.rdss, HGw.out ▸ T9.out.bel⟩
          · have hrc1 : ¬ rc - 1 = 0 := by omega
            have hrc2 : ¬ rc ≤ 1 := by omega
            go_wp2_with (at_builtin; refine wpList_append_own _ rfl _ _ 24 rfl (g + 1) 2 i0 (.int .i64 0) 1 8 Tryd.underlying24 hi0 hz0 hz1 hz2 rfl (by decide) (.slice (some ⟨w7.heap.size, 0, none⟩) 1 1) 1 [.int .i64 2] rfl OL.out ⟨rb, 1, none⟩ (n0 - 1) (rc - 1) (yd.map (Value.int .i64)) rfl NWL NWC.out NW1.out (by unfold maxLen; omega) (by omega) SG.out ?_)
            intro v' w8 ho hg2 _
            have ho : w8.ownsRow (g + 1) 2 1 v' (2 :: yd).length ((2 :: yd).map (Value.int .i64)) := by
              have e : (2 :: yd).length = n0 := by rw [YL.out]; omega
              rw [e]; simpa using ho
            have bo := fun (v : Value) (n : Nat) (e : TypeId) (xs : List Value) (o : w7.ownsRow (g + 1) e 1 v n xs) => (own_below o ((Below.refl _ _).alloc (Nat.le_refl _) (.cells #[.int .i64 2] 2))).kept hg2 (APO.out v n e xs o)
            have F8 : Fam w8 (g + 1) (.slice (some ⟨b, 0, none⟩) mm uc) mm US Y := ⟨bo _ _ _ _ F7.out.out, fun i hi => bo _ _ _ _ (F7.out.inn i hi)⟩
            have B8 : Below g w w8 := TL.out.bel.trans ⟨hg2.os, hg2.tape, hg2.output, hg2.size, fun i hi => hg2.block i (by have := SG.out; omega) (fun e => by have := T7.out.src.lt.2; simp only [Value.ownBlock, Option.some.injEq] at e; omega)⟩
            have T8 : Tw w g w8 := ⟨TL.out.src.grownRow hg2 OL.out (Nat.lt_succ_self g), B8⟩
            have A8 : At g gA C1 (.slice va1 L1.length vc1) L1 w8 := ⟨AL.out.box.grown hg2 (AL.out.box.ne_row OL.out (by decide)), bo _ _ _ _ A7.out.own, A7.out.gt⟩
            have FZ := Lib.hid (F8.first (by omega) ho)
            have x8 := F8.out.cellAt 0 (by omega)
            have e8 : ((List.range mm).map US)[0]? = some (US 0) := by rw [List.getElem?_map, List.getElem?_range (by omega)]; rfl
            rw [e8] at x8
            have f8 := F8.out.frozenAt 0
            have hbg := (F8.out.lt b rfl).1
            have TZ : Hid (Tw w g (w8.setCell ⟨b, 0, none⟩ v')) := Lib.hid ⟨T8.src.other _ _ (by simp; omega) (by simp; omega), T8.bel.setCell (p := ⟨b, 0, none⟩) (by simp; omega) _⟩
            have NEb : gA ≠ b := fun e => A8.box.ne_rowS F8.out (by rw [e]; rfl)
            have AZ : Hid (At g gA C1 (.slice va1 L1.length vc1) L1 (w8.setCell ⟨b, 0, none⟩ v')) := Lib.hid ⟨A8.box.other _ _ NEb, by
              refine own_sameblock A8.own fun q hq => heap_setCell_other _ _ _ _ (fun e => ?_)
              rcases own_types F8.out A8.own (by decide) with e2 | e2
              · cases e2
              · apply e2; rw [hq]; simp only [Value.ownBlock]; rw [show q = b from e], A8.gt⟩
            obtain ⟨v1, v2, v3, rfl⟩ : ∃ a n c, v' = .slice a n c := by obtain ⟨a, c, e⟩ := ho.shape; exact ⟨_, _, _, e⟩
            clear ho hg2 bo B8 T8 A8 F8 hbg e8
            go_wp2_with fail
            obtain ⟨wz, hwz⟩ : ∃ wz, wz = w8.setCell ⟨b, 0, none⟩ (.slice v1 v2 v3) := ⟨_, rfl⟩
            rw [← hwz] at TZ AZ FZ ⊢
            clear hwz x8 f8
            have NX := Lib.hid (next_g g g 16 wz.drew ((TZ.out.up (Below.refl _ _).drew).src) (by omega) (by omega))
            have TD := Lib.hid (TZ.out.up (Below.refl _ _).drew)
            have AD := Lib.hid (AZ.out.up (Below.refl _ _).drew)
            have FD := Lib.hid (FZ.out.below (Below.refl _ _).drew)
            have c0 := AZ.out.box.c0
            go_wp2_with fail
            go_region_law (first | (go_simp; go_at_call 74; refine NX.out.mono ?_; rintro e w9 ⟨y9, rfl, ⟨y90, y91⟩, s9, k9⟩; have T9 := Lib.hid (TD.out.grown s9 k9); have A9 := Lib.hid (AD.out.grown k9); have F9 := Lib.hid (FD.out.grownG k9 (Nat.lt_succ_self g)); have q0 := A9.out.box.c0))
            all_goals
              clear c0 q0 s9 k9
              go_wp2
              go_ret2
              exact ⟨_, _, _, _, rfl, F9.out.rdss, HGw.out ▸ T9.out.bel⟩
      · have hy' : (y == 0) = false := by rw [beq_eq_false_iff_ne]; exact hy
        have NX := Lib.hid (next_g g g 16 w7.drew ((T7.out.up (Below.refl _ _).drew).src) (by omega) (by omega))
        have TD := Lib.hid (T7.out.up (Below.refl _ _).drew)
        have AD := Lib.hid (A7.out.up (Below.refl _ _).drew)
        have FD := Lib.hid (F7.out.below (Below.refl _ _).drew)
        have c0 := A7.out.box.c0
        go_wp2_with fail
        go_region_law (first | (go_simp; go_at_call 74; refine NX.out.mono ?_; rintro e w9 ⟨y9, rfl, ⟨y90, y91⟩, s9, k9⟩; have T9 := Lib.hid (TD.out.grown s9 k9); have A9 := Lib.hid (AD.out.grown k9); have F9 := Lib.hid (FD.out.grownG k9 (Nat.lt_succ_self g)); have q0 := A9.out.box.c0))
        all_goals
          clear c0 q0 s9 k9
          go_wp2
          go_ret2
          exact ⟨_, _, _, _, rfl, F9.out.rdss, HGw.out ▸ T9.out.bel⟩
end Go.Proofs.YtdojblmffmefgaaDoor
