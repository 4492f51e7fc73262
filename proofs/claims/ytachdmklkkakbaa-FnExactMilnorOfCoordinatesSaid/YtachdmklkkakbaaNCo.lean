/-
  spec.MilnorOfCoordinates and impl.MilnorOfCoordinates answer the same.
-/
import Derived.Test.YtachdmklkkakbaaNSame
import Derived.Test.YtachdmklkkakbaaNBas
import Derived.Test.YtachdmklkkakbaaWBits
import Derived.Test.YtachdmklkkakbaaWPutA
namespace Go.Proofs.Ytachdmklkkakbaa.Ml
open Go.RowKit
set_option linter.unusedVariables false
set_option maxRecDepth 100000

/-- The places that are 1. -/
def selI (G : Nat → Int) : Nat → List Nat
  | 0 => []
  | k + 1 => if G k = 1 then selI G k ++ [k] else selI G k
theorem selI_yes {G : Nat → Int} {k : Nat} (h : G k = 1) : selI G (k + 1) = selI G k ++ [k] := by rw [selI, if_pos h]
theorem selI_no {G : Nat → Int} {k : Nat} (h : ¬ G k = 1) : selI G (k + 1) = selI G k := by rw [selI, if_neg h]
theorem selI_lt (G : Nat → Int) : ∀ k, ∀ i ∈ selI G k, i < k
  | 0, i, h => by cases h
  | k + 1, i, h => by
    by_cases e : G k = 1
    · rw [selI_yes e] at h
      rcases List.mem_append.1 h with h | h
      · exact Nat.lt_succ_of_lt (selI_lt G k i h)
      · rw [List.mem_singleton.1 h]; exact Nat.lt_succ_self k
    · rw [selI_no e] at h
      exact Nat.lt_succ_of_lt (selI_lt G k i h)
theorem selI_nodup (G : Nat → Int) : ∀ k, (selI G k).Nodup
  | 0 => List.nodup_nil
  | k + 1 => by
    by_cases e : G k = 1
    · rw [selI_yes e]
      refine List.nodup_append.2 ⟨selI_nodup G k, by simp, fun a ha b hb => ?_⟩
      rw [List.mem_singleton.1 hb]
      exact Nat.ne_of_lt (selI_lt G k a ha)
    · rw [selI_no e]; exact selI_nodup G k
theorem selI_len (G : Nat → Int) : ∀ k, (selI G k).length ≤ k
  | 0 => Nat.le_refl _
  | k + 1 => by
    have := selI_len G k
    by_cases e : G k = 1
    · rw [selI_yes e, List.length_append, List.length_singleton]; omega
    · rw [selI_no e]; omega

/-- What stays while terms are put into a struct. -/
structure CoI (w : World) (V0 : Value) (VS : Nat → Value) (L : List (List Int)) (G : Nat → Int) (gA k : Nat) (S : Value) (W : World) : Prop where
  bel : Below w.heap.size w W
  src : FamL W w.heap.size V0 VS L
  out : W.ownsRow w.heap.size 45 1 S (selI G k).length ((selI G k).map VS)
  ap : V0.ownBlock = none ∨ V0.ownBlock ≠ S.ownBlock
  acc : Box1 W gA 27 S
  res : Box1 W w.heap.size 27 (.slice none 0 0)
  ge : w.heap.size < gA
section
variable {w : World} {V0 : Value} {VS : Nat → Value} {L : List (List Int)} {G : Nat → Int} {gA k : Nat} {S S' v : Value} {W w3 : World}
theorem CoI.drewN (h : CoI w V0 VS L G gA k S W) (q : Nat) : CoI w V0 VS L G gA k S (W.drewN q) := ⟨below_drewN h.bel q, h.src.drewN q, h.out, h.ap, h.acc, h.res, h.ge⟩
theorem CoI.skip (h : CoI w V0 VS L G gA k S W) (hk : ¬ G k = 1) : CoI w V0 VS L G gA (k + 1) S W := ⟨h.bel, h.src, by rw [selI_no hk]; exact h.out, h.ap, h.acc, h.res, h.ge⟩
theorem CoI.push (h : CoI w V0 VS L G gA k S W) (hk : G k = 1) (o : Obj)
    (ho : w3.ownsRow w.heap.size 45 1 S' ((selI G k).length + 1) ((selI G k).map VS ++ [VS k])) (hg : (W.alloc o).grownBy w3 S.ownBlock) (hl : S'.ownBlock = S.ownBlock ∨ S'.ownBlock = some (W.alloc o).heap.size) :
    CoI w V0 VS L G gA (k + 1) S' (w3.setCell ⟨gA, 0, none⟩ S') := by
  have hb : Below W.heap.size W (W.alloc o) := (Below.refl _ W).alloc (Nat.le_refl _) _
  have hS := own_below h.out hb
  have hsz := h.bel.size
  have f1 := Fam.below h.src hb
  have f3 : FamL w3 w.heap.size V0 VS L := ⟨f1.out.kept hg h.ap, fun i hi => (f1.inn i hi).kept hg (own_types (f1.inn i hi) hS (by decide))⟩
  have box3 : ∀ {g : Nat} {x : Value}, Box1 W g 27 x → Box1 w3 g 27 x := fun {g x} bx =>
    (hg.block g (bx.alloc o).lt (fun e => (bx.alloc o).ne_own hS (by decide) g e.symm rfl)).trans (bx.alloc o)
  have a3 := box3 h.acc
  have r3 := box3 h.res
  have b3 : Below w.heap.size w w3 := (h.bel.step1 hb).grown hg (Nat.le_trans hsz hb.size) (fun q hq => (hS.lt q (hq.symm ▸ rfl)).1)
  have keep : ∀ {B n : Nat} {e : TypeId} {u : Value} {xs : List Value}, w3.ownsRow B e 1 u n xs → e ≠ 27 → (w3.setCell ⟨gA, 0, none⟩ S').ownsRow B e 1 u n xs := fun hu he =>
    own_sameblock hu fun q hq => heap_setCell_other _ _ _ _ (a3.ne_own hu he q hq)
  refine ⟨b3.setCell (p := ⟨gA, 0, none⟩) (Nat.le_of_lt h.ge) S', ⟨keep f3.out (by decide), fun i hi => keep (f3.inn i hi) (by decide)⟩, ?_, ?_, a3.set S', r3.other ⟨gA, 0, none⟩ S' (by have := h.ge; show w.heap.size ≠ gA; omega), h.ge⟩
  · rw [selI_yes hk, List.length_append, List.length_singleton, List.map_append]
    exact keep ho (by decide)
  · rcases hl with e | e
    · rw [e]; exact h.ap
    · rw [e]
      cases h4 : V0.ownBlock with
      | none => exact .inl rfl
      | some q =>
        refine .inr fun e2 => ?_
        have := (h.src.out.lt q h4).2
        cases e2
        have := hb.size
        omega
theorem CoI.accAt (h : CoI w V0 VS L G gA k S W) (o : Obj) (hg : (W.alloc o).grownBy w3 S.ownBlock) : Box1 w3 gA 27 S :=
  (hg.block gA (h.acc.alloc o).lt (fun e => (h.acc.alloc o).ne_own (own_below h.out ((Below.refl _ W).alloc (Nat.le_refl _) o)) (by decide) gA e.symm rfl)).trans (h.acc.alloc o)
theorem own_shape {w : World} {B n : Nat} {e : TypeId} {v : Value} {xs : List Value} (h : w.ownsRow B e 1 v n xs) : ∃ a cap, v = .slice a n cap := by
  rcases h.2 with ⟨rfl, rfl⟩ | ⟨g, cap, cur, rfl, _⟩
  · exact ⟨none, 0, rfl⟩
  · exact ⟨_, cap, rfl⟩
theorem CoI.fam (h : CoI w V0 VS L G gA k S W) (hk : k ≤ L.length) : FamL W w.heap.size S (fun i => VS ((selI G k)[i]?.getD 0)) ((selI G k).map (rowsOf L)) := by
  refine ⟨?_, fun i hi => ?_⟩
  · rw [List.length_map]
    have e : (List.range (selI G k).length).map (fun i => VS ((selI G k)[i]?.getD 0)) = (selI G k).map VS := by
      apply List.ext_getElem
      · simp
      · intro i h1 h2
        simp only [List.getElem_map, List.getElem_range]
        rw [List.getElem?_eq_getElem (by simpa using h2)]
        rfl
    rw [e]
    exact h.out
  · rw [List.length_map] at hi
    have hm := selI_lt G k _ (List.getElem_mem hi)
    have e1 : rowsOf ((selI G k).map (rowsOf L)) i = rowsOf L (selI G k)[i] := by
      unfold rowsOf
      rw [List.getElem?_map, List.getElem?_eq_getElem hi]
      rfl
    rw [e1, List.getElem?_eq_getElem hi]
    exact h.src.inn _ (show (selI G k)[i] < L.length by omega)
theorem selI_sep (hs : Sep L.length VS) (hk : k ≤ L.length) : Sep ((selI G k).map (rowsOf L)).length (fun i => VS ((selI G k)[i]?.getD 0)) := fun i j hi hj hij => by
  rw [List.length_map] at hi hj
  have h1 := selI_lt G k _ (List.getElem_mem hi)
  have h2 := selI_lt G k _ (List.getElem_mem hj)
  show (VS ((selI G k)[i]?.getD 0)).ownBlock = none ∨ (VS ((selI G k)[i]?.getD 0)).ownBlock ≠ (VS ((selI G k)[j]?.getD 0)).ownBlock
  rw [List.getElem?_eq_getElem hi, List.getElem?_eq_getElem hj]
  refine hs (selI G k)[i] (selI G k)[j] (by omega) (by omega) fun e => hij ?_
  exact (List.getElem_inj (selI_nodup G k)).1 e
end

/-- The result is there. -/
theorem finT {w W : World} {V x : Value} {VS : Nat → Value} {L : List (List Int)} (hF : FamL W w.heap.size V VS L) (hB : Below w.heap.size w W) (hR : Box1 W w.heap.size 27 x) :
    Box1 (W.setCell ⟨w.heap.size, 0, none⟩ V) w.heap.size 27 V ∧ FamL (W.setCell ⟨w.heap.size, 0, none⟩ V) w.heap.size V VS L ∧ Below w.heap.size w (W.setCell ⟨w.heap.size, 0, none⟩ V) :=
  ⟨hR.set V, ⟨own_sameblock hF.out fun q hq => heap_setCell_other _ _ _ _ (hR.ne_own hF.out (by decide) q hq), fun i hi => own_sameblock (hF.inn i hi) fun q hq => heap_setCell_other _ _ _ _ (hR.ne_own (hF.inn i hi) (by decide) q hq)⟩, hB.setCell (p := ⟨w.heap.size, 0, none⟩) (Nat.le_refl _) V⟩

/-- A struct of lists and a code, whatever memory the lists share. -/
def ResS0 (L : List (List Int)) (cd : Int) (w : World) (e : Ending) (w' : World) : Prop :=
  ∃ V VS, e = .returned (.tuple #[.agg #[V], .int .i64 cd]) ∧ FamL w' w.heap.size V VS L ∧ Below w.heap.size w w'
theorem ResS.weak {L : List (List Int)} {cd : Int} {w : World} {e : Ending} {w' : World} (h : ResS L cd w e w') : ResS0 L cd w e w' := by
  obtain ⟨V, VS, h1, h2, _, h4⟩ := h
  exact ⟨V, VS, h1, h2, h4⟩

theorem specCo_no (d : Int) (v : Value) (w : World) (h : ¬ (0 ≤ d ∧ d ≤ 40)) : Calls Try.prog 39 #[.int .i64 d, v] w (ResS0 [] 2 w) := by
  have t2 := Try.underlying27
  have BX : Hid (Box1 (w.alloc (.cells #[.slice none 0 0] 27)) w.heap.size 27 (.slice none 0 0)) := Lib.hid (Box1.new _ _ _)
  go_enter Try.func39, Try.ntmps39
  go_wp2_with (go_at_call 60; refine (l01In_no _ _ _ _ (by omega)).mono ?_; rintro e w' ⟨rfl, rfl⟩)
  refine bodyPost_ret (results_box1_tmp rfl _ _ w.heap.size _ _ rfl BX.out t2 (by kernel_rfl)) rfl ?_
  exact ResS.weak (resS_nil w _)

theorem implCo_no (d : Int) (v : Value) (w : World) (h : ¬ (0 ≤ d ∧ d ≤ 40)) : Calls Try.prog 41 #[.int .i64 d, v] w (ResS [] 2 w) := by
  have t2 := Try.underlying27
  have BX : Hid (Box1 (w.alloc (.cells #[.slice none 0 0] 27)) w.heap.size 27 (.slice none 0 0)) := Lib.hid (Box1.new _ _ _)
  have B0 : Hid (Below w.heap.size w (w.alloc (.cells #[.slice none 0 0] 27))) := Lib.hid ((Below.refl _ w).alloc (Nat.le_refl _) _)
  have P := Lib.hid (implPartitionsOf_all d (w.alloc (.cells #[.slice none 0 0] 27)))
  rw [show pcOf d = 2 by unfold pcOf; rw [if_neg h]] at P
  clear h
  go_enter Try.func41, Try.ntmps41
  go_wp2_with fail
  refine P.out.mono ?_
  rintro e w1 ⟨V, VS, rfl, hF, hB, hS⟩
  have B1 := Lib.hid (B0.out.step1 hB)
  have BX1 := Lib.hid (BX.out.up hB)
  have dR := BX1.out.c
  have fR := BX1.out.fr 0
  clear hF hB hS
  have FIN := finT (w := w) (famNil w1 w.heap.size) B1.out BX1.out
  go_wp2_with fail
  refine bodyPost_ret (results_box1_tmp rfl _ _ w.heap.size _ _ rfl FIN.1 t2 (by kernel_rfl)) rfl ?_
  exact ⟨_, _, rfl, FIN.2.1, sepNil, FIN.2.2⟩


/-- A list of digits reads as it did. -/
theorem _root_.Go.Proofs.Ytachdmklkkakbaa.RdI.kept {w w' : World} {v : Value} {n : Nat} {G : Nat → Int} (h : RdI w v n G) (k : Below w.heap.size w w') : RdI w' v n G := h.below k

/-- A digit. -/
def bitG (G : Nat → Int) (i : Nat) : Prop := G i = 0 ∨ G i = 1

set_option maxHeartbeats 2000000 in
theorem specCo_go (d n z : Nat) (r : Bool) (G : Nat → Int) (v : Value) (w : World) (hd : d ≤ 40) (hl : (parts 6 [] d).length ≤ 200000000000) (hv : RdI w v n G) (hn : n = (parts 6 [] d).length) (hz : z ≤ n) (hgood : ∀ i, i < z → bitG G i)
    (hend : (z = n ∧ r = true) ∨ (z < n ∧ ¬ bitG G z ∧ r = false)) :
    Calls Try.prog 39 #[.int .i64 d, v] w (if r then ResS0 ((selI G n).map (rowsOf (parts 6 [] d))) 0 w else ResS0 [] 2 w) := by
  have t2 := Try.underlying27
  have h1 : (d : Int) ≤ 40 := by omega
  have h0 : (0 : Int) ≤ (d : Int) := by omega
  have BX : Hid (Box1 (w.alloc (.cells #[.slice none 0 0] 27)) w.heap.size 27 (.slice none 0 0)) := Lib.hid (Box1.new _ _ _)
  have B0 : Hid (Below w.heap.size w (w.alloc (.cells #[.slice none 0 0] 27))) := Lib.hid ((Below.refl _ w).alloc (Nat.le_refl _) _)
  have P := Lib.hid (l04Basis_any d (w.alloc (.cells #[.slice none 0 0] 27)) hd)
  obtain ⟨a, cap, rfl, hm, hc⟩ := id hv
  have HV := Lib.hid hv
  have HG := Lib.hid hgood
  have HE := Lib.hid hend
  have HL := Lib.hid hl
  generalize parts 6 [] d = L at *
  subst hn
  have hsz1 : Hid ((w.alloc (.cells #[.slice none 0 0] 27)).heap.size = w.heap.size + 1) := Lib.hid (by simp)
  clear hc hv hgood hend hl
  go_enter Try.func39, Try.ntmps39
  go_wp2_with (go_at_call 60; refine (l01In_yes _ _ _ _ h0 h1).mono ?_; rintro e w' ⟨rfl, rfl⟩)
  generalize w.alloc (.cells #[.slice none 0 0] 27) = wa at *
  refine P.out.mono ?_
  rintro e w1 ⟨V0, VS, rfl, hF, hB⟩
  have I0 : Hid (CoI w V0 VS L G w1.heap.size 0 (.slice none 0 0) (w1.alloc (.cells #[.slice none 0 0] 27))) := Lib.hid (by
    have s1 := hsz1.out
    have s2 := hB.size
    exact ⟨(B0.out.step1 hB).alloc (by omega) _, Fam.below (Fam.base hF (by omega)) ((Below.refl _ w1).alloc (Nat.le_refl _) _), World.ownsRow_nil _ _ _ _, Classical.em _ |>.elim (fun h => .inl h) (fun h => .inr (by intro e; exact h e)), Box1.new _ _ _, (BX.out.up hB).alloc _, by omega⟩)
  obtain ⟨av, cv, rfl, hm0, hc0⟩ := hF.head
  have hll : ((L.length : Int) != (L.length : Int)) = false := bne_self_eq_false _
  clear hF hB P hc0 hm hm0
  go_wp2_with fail
  generalize w1.heap.size = gA at *
  generalize w1.alloc (.cells #[.slice none 0 0] 27) = w2 at *
  go_loopw [8] (fun c wr => ∃ (k : Nat) (S : Value), k ≤ z ∧ c = .int .i64 k ∧ Hid (CoI w (.slice av L.length cv) VS L G gA k S wr)) (fun c _ => L.length - (intOf c).toNat)
  case atStart => exact ⟨0, _, by omega, rfl, I0⟩
  case round =>
    clear I0
    obtain ⟨k, S, hk, rfl, hI⟩ := hrel
    have hl2 := HL.out
    by_cases hlt : k < L.length
    · have hlt' : (k : Int) < (L.length : Int) := by omega
      obtain ⟨a9, c9, e9, _, hcs⟩ := hI.out.src.head
      cases e9
      obtain ⟨b, rfl, hcs2⟩ := hcs.resolve_left (by omega)
      have cs1 := hcs2 k hlt
      obtain ⟨ra, rc, ev, _⟩ := own_len (hI.out.src.inn k hlt)
      rw [ev] at cs1
      have rv := HV.out.kept hI.out.bel
      obtain ⟨a8, c8, e8, _, hca⟩ := rv
      cases e8
      obtain ⟨bl, ol, rfl, hca2⟩ := hca.resolve_left (by omega)
      have ca1 := hca2 k hlt
      clear hcs hcs2 hca hca2
      by_cases hkz : k < z
      · rcases HG.out k hkz with hg | hg
        · have IN := Lib.hid (hI.out.skip (by rw [hg]; omega))
          rw [hg] at ca1
          clear ev hg hI
          go_wp2_with (go_at_call 60; refine (l01In_yes _ _ _ _ (by omega) (by omega)).mono ?_; rintro e w' ⟨rfl, rfl⟩)
          go_roundw
          case rel => exact ⟨k + 1, S, by omega, by go_num, IN⟩
          case measure => simp [intOf]; omega
        · have PU := Lib.hid (fun S' w3 => CoI.push (S' := S') (w3 := w3) (hI.out.drewN 1) hg (.cells #[.slice ra (rowsOf L k).length rc] 45))
          have AC := Lib.hid (fun w3 => CoI.accAt (w3 := w3) (hI.out.drewN 1) (.cells #[.slice ra (rowsOf L k).length rc] 45))
          have OW := Lib.hid (own_below (hI.out.drewN 1).out ((Below.refl _ (wr.drewN 1)).alloc (Nat.le_refl _) (.cells #[.slice ra (rowsOf L k).length rc] 45)))
          have SZ : Hid (w.heap.size ≤ ((wr.drewN 1).alloc (.cells #[.slice ra (rowsOf L k).length rc] 45)).heap.size) := Lib.hid (by have := hI.out.bel.size; simp; omega)
          have SR : Hid (∀ jj u, [Value.slice ra (rowsOf L k).length rc][jj]? = some u → ((wr.drewN 1).alloc (.cells #[.slice ra (rowsOf L k).length rc] 45)).cell? ((⟨wr.heap.size, 0, none⟩ : Addr).add jj) = some u) := Lib.hid fun jj u hu => by
            have h0 : jj = 0 := by have := (List.getElem?_eq_some_iff.1 hu).1; simp at this; omega
            subst h0
            simp at hu
            subst hu
            exact cell_of_row _ wr.heap.size 0 _ _ (0, 0) (heap_alloc_new (wr.drewN 1) _)
          have SL := selI_len G k
          have d0 := hI.out.acc.c
          have d1 : (wr.alloc (.cells #[.slice ra (rowsOf L k).length rc] 45)).cell? ⟨gA, 0, none⟩ = some S := (hI.out.acc.alloc _).c
          have d2 : (wr.alloc (.cells #[.slice ra (rowsOf L k).length rc] 45)).cell? ⟨b, k, none⟩ = some (.slice ra (rowsOf L k).length rc) := (((Below.refl _ wr).alloc (Nat.le_refl _) _).cell (p := ⟨b, k, none⟩) (World.block_lt_of_cell? wr _ cs1)).trans cs1
          rw [ev] at PU
          rw [hg] at ca1
          clear ev hg hI
          generalize (rowsOf L k).length = rn at *

          go_wp2_with (go_at_call 60; refine (l01In_yes _ _ _ _ (by omega) (by omega)).mono ?_; rintro e w' ⟨rfl, rfl⟩)
          go_region_law (first
            | (refine step_rows_at (by rfl) _ _ (by rfl) w.heap.size (selI G k).length S _ (by rfl) OW.out _ 1 1 [.slice ra rn rc] (by rfl) (.inr ⟨_, rfl, SR.out⟩) (by simp) (by simp [Value.oneCell']) (by omega) SZ.out ?_; intro V8 w8 ho8 hg8 hl8; obtain ⟨a8, c8, e8⟩ := own_shape ho8; subst e8; have A8 := Lib.hid (AC.out w8 hg8); have d8 := A8.out.c; have f8 := A8.out.fr 0; have I8 := Lib.hid (PU.out _ w8 ho8 hg8 hl8); clear ho8 hg8 hl8 A8))
          all_goals
            go_wp2_with fail
            go_roundw
            case rel => exact ⟨k + 1, _, by omega, by go_num, I8⟩
            case measure => simp [intOf]; omega
      · obtain rfl : k = z := by omega
        obtain ⟨_, hbad, rfl⟩ := HE.out.resolve_left (fun h => by omega)
        have hb1 : G k < 0 ∨ 1 < G k := by
          unfold bitG at hbad
          omega
        have dR := hI.out.res.c
        have fR := hI.out.res.fr 0
        have FIN := Lib.hid (finT (w := w) (famNil wr w.heap.size) hI.out.bel hI.out.res)
        clear ev hI hbad
        generalize G k = x at ca1 hb1
        go_wp2_with (go_at_call 60; refine (l01In_no _ _ _ _ hb1).mono ?_; rintro e w' ⟨rfl, rfl⟩)
        refine bodyPost_ret (results_box1_tmp rfl _ _ w.heap.size _ _ rfl FIN.out.1 t2 (by kernel_rfl)) rfl ?_
        exact ⟨_, _, rfl, FIN.out.2.1, FIN.out.2.2⟩
    · obtain rfl : k = L.length := by omega
      obtain rfl : r = true := by
        rcases HE.out with ⟨_, h⟩ | ⟨h, _⟩
        · exact h
        · omega
      obtain ⟨sa, sc, rfl⟩ := own_shape hI.out.out
      have dA := hI.out.acc.c
      have dR := hI.out.res.c
      have fR := hI.out.res.fr 0
      have FIN := Lib.hid (finT (w := w) (hI.out.fam (Nat.le_refl _)) hI.out.bel hI.out.res)
      clear hI
      go_wp2_with fail
      refine bodyPost_ret (results_box1_tmp rfl _ _ w.heap.size _ _ rfl FIN.out.1 t2 (by kernel_rfl)) rfl ?_
      exact ⟨_, _, rfl, FIN.out.2.1, FIN.out.2.2⟩

theorem specCo_len (d n : Nat) (G : Nat → Int) (v : Value) (w : World) (hd : d ≤ 40) (hv : RdI w v n G) (hn : n ≠ (parts 6 [] d).length) : Calls Try.prog 39 #[.int .i64 d, v] w (ResS0 [] 2 w) := by
  have t2 := Try.underlying27
  have h1 : (d : Int) ≤ 40 := by omega
  have h0 : (0 : Int) ≤ (d : Int) := by omega
  have BX : Hid (Box1 (w.alloc (.cells #[.slice none 0 0] 27)) w.heap.size 27 (.slice none 0 0)) := Lib.hid (Box1.new _ _ _)
  have B0 : Hid (Below w.heap.size w (w.alloc (.cells #[.slice none 0 0] 27))) := Lib.hid ((Below.refl _ w).alloc (Nat.le_refl _) _)
  have P := Lib.hid (l04Basis_any d (w.alloc (.cells #[.slice none 0 0] 27)) hd)
  obtain ⟨a, cap, rfl, hm, hc⟩ := id hv
  generalize parts 6 [] d = L at *
  have hll : ((L.length : Int) != (n : Int)) = true := by rw [bne_iff_ne]; omega
  clear hc hv hn
  go_enter Try.func39, Try.ntmps39
  go_wp2_with (go_at_call 60; refine (l01In_yes _ _ _ _ h0 h1).mono ?_; rintro e w' ⟨rfl, rfl⟩)
  generalize w.alloc (.cells #[.slice none 0 0] 27) = wa at *
  refine P.out.mono ?_
  rintro e w1 ⟨V0, VS, rfl, hF, hB⟩
  have B2 := Lib.hid ((B0.out.step1 hB).alloc (B0.out.step1 hB).size (.cells #[.slice none 0 0] 27))
  have BX2 := Lib.hid ((BX.out.up hB).alloc (.cells #[.slice none 0 0] 27))
  obtain ⟨av, cv, rfl, hm0, hc0⟩ := hF.head
  have FIN := Lib.hid (finT (w := w) (famNil _ w.heap.size) B2.out BX2.out)
  have dR := BX2.out.c
  have fR := BX2.out.fr 0
  clear hF hB P hc0 hm hm0
  go_wp2_with fail
  refine bodyPost_ret (results_box1_tmp rfl _ _ w.heap.size _ _ rfl FIN.out.1 t2 (by kernel_rfl)) rfl ?_
  exact ⟨_, _, rfl, FIN.out.2.1, FIN.out.2.2⟩

end Go.Proofs.Ytachdmklkkakbaa.Ml
