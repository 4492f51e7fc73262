/-
  impl.MilnorOfCoordinates answers as spec.MilnorOfCoordinates.
-/
import Derived.Test.YtachdmklkkakbaaNCo
namespace Go.Proofs.Ytachdmklkkakbaa.Ml
open Go.RowKit
set_option linter.unusedVariables false
set_option maxRecDepth 100000

set_option maxHeartbeats 2000000 in
theorem implCo_bad (d n : Nat) (G : Nat → Int) (v : Value) (w : World) (hd : d ≤ 40) (hv : RdI w v n G) (h : n ≠ (parts 6 [] d).length ∨ ∃ z, z < n ∧ ¬ bitG G z ∧ ∀ i, i < z → bitG G i) : Calls Try.prog 41 #[.int .i64 d, v] w (ResS [] 2 w) := by
  have t2 := Try.underlying27
  have BX : Hid (Box1 (w.alloc (.cells #[.slice none 0 0] 27)) w.heap.size 27 (.slice none 0 0)) := Lib.hid (Box1.new _ _ _)
  have B0 : Hid (Below w.heap.size w (w.alloc (.cells #[.slice none 0 0] 27))) := Lib.hid ((Below.refl _ w).alloc (Nat.le_refl _) _)
  have P := Lib.hid (implPartitionsOf_all d (w.alloc (.cells #[.slice none 0 0] 27)))
  rw [show pcOf (d : Int) = 0 by unfold pcOf; rw [if_pos (by omega)], show ptOf (d : Int) = parts 6 [] d by unfold ptOf; rw [if_pos (by omega)]; rfl] at P
  obtain ⟨a, cap, rfl, hm, hc⟩ := id hv
  have HV := Lib.hid hv
  have HH := Lib.hid h
  generalize parts 6 [] d = L at *
  clear hc hv h
  go_enter Try.func41, Try.ntmps41
  go_wp2_with fail
  generalize w.alloc (.cells #[.slice none 0 0] 27) = wa at *
  refine P.out.mono ?_
  rintro e w1 ⟨V0, VS, rfl, hF, hB, hS⟩
  have B1 := Lib.hid (B0.out.step1 hB)
  have BX1 := Lib.hid (BX.out.up hB)
  obtain ⟨av, cv, rfl, hm0, hc0⟩ := hF.head
  have FIN := Lib.hid (finT (w := w) (famNil w1 w.heap.size) B1.out BX1.out)
  have V1 := Lib.hid (HV.out.kept B1.out)
  have dR := BX1.out.c
  have fR := BX1.out.fr 0
  clear hF hB hS hc0 hm hm0 B0 BX
  by_cases hn : n = L.length
  · obtain ⟨z, hz, hbad, hgood⟩ := HH.out.resolve_left (fun h => h hn)
    subst hn
    have hll : ((L.length : Int) != (L.length : Int)) = false := bne_self_eq_false _
    have AB := Lib.hid (areBits_some _ L.length z false G w1 V1.out (by omega) hgood (.inr ⟨hz, hbad, rfl⟩))
    clear HH hz hbad hgood
    go_wp2_with fail
    refine AB.out.mono ?_
    rintro e w2 ⟨rfl, rfl⟩
    go_wp2_with fail
    refine bodyPost_ret (results_box1_tmp rfl _ _ w.heap.size _ _ rfl FIN.out.1 t2 (by kernel_rfl)) rfl ?_
    exact ⟨_, _, rfl, FIN.out.2.1, sepNil, FIN.out.2.2⟩
  · have hll : ((n : Int) != (L.length : Int)) = true := by rw [bne_iff_ne]; omega
    clear hn HH
    go_wp2_with fail
    refine bodyPost_ret (results_box1_tmp rfl _ _ w.heap.size _ _ rfl FIN.out.1 t2 (by kernel_rfl)) rfl ?_
    exact ⟨_, _, rfl, FIN.out.2.1, sepNil, FIN.out.2.2⟩

set_option maxHeartbeats 2000000 in
theorem implCo_ok (d n : Nat) (G : Nat → Int) (v : Value) (w : World) (hd : d ≤ 40) (hl : (parts 6 [] d).length ≤ 200000000000) (hv : RdI w v n G) (hn : n = (parts 6 [] d).length) (hgood : ∀ i, i < n → bitG G i) :
    Calls Try.prog 41 #[.int .i64 d, v] w (ResS ((selI G n).map (rowsOf (parts 6 [] d))) 0 w) := by
  have t2 := Try.underlying27
  have BX : Hid (Box1 (w.alloc (.cells #[.slice none 0 0] 27)) w.heap.size 27 (.slice none 0 0)) := Lib.hid (Box1.new _ _ _)
  have B0 : Hid (Below w.heap.size w (w.alloc (.cells #[.slice none 0 0] 27))) := Lib.hid ((Below.refl _ w).alloc (Nat.le_refl _) _)
  have P := Lib.hid (implPartitionsOf_all d (w.alloc (.cells #[.slice none 0 0] 27)))
  rw [show pcOf (d : Int) = 0 by unfold pcOf; rw [if_pos (by omega)], show ptOf (d : Int) = parts 6 [] d by unfold ptOf; rw [if_pos (by omega)]; rfl] at P
  obtain ⟨a, cap, rfl, hm, hc⟩ := id hv
  have HV := Lib.hid hv
  have HG := Lib.hid hgood
  have HL := Lib.hid hl
  generalize parts 6 [] d = L at *
  subst hn
  have hsz1 : Hid ((w.alloc (.cells #[.slice none 0 0] 27)).heap.size = w.heap.size + 1) := Lib.hid (by simp)
  have hll : ((L.length : Int) != (L.length : Int)) = false := bne_self_eq_false _
  clear hc hv hgood hl
  go_enter Try.func41, Try.ntmps41
  go_wp2_with fail
  generalize w.alloc (.cells #[.slice none 0 0] 27) = wa at *
  refine P.out.mono ?_
  rintro e w1 ⟨V0, VS, rfl, hF, hB, hS⟩
  have I0 : Hid (CoI w V0 VS L G w1.heap.size 0 (.slice none 0 0) (w1.alloc (.cells #[.slice none 0 0] 27))) := Lib.hid (by
    have s1 := hsz1.out
    have s2 := hB.size
    exact ⟨(B0.out.step1 hB).alloc (by omega) _, Fam.below (Fam.base hF (by omega)) ((Below.refl _ w1).alloc (Nat.le_refl _) _), World.ownsRow_nil _ _ _ _, Classical.em _ |>.elim (fun h => .inl h) (fun h => .inr (by intro e; exact h e)), Box1.new _ _ _, (BX.out.up hB).alloc _, by omega⟩)
  have AB := Lib.hid (areBits_some _ L.length L.length true G w1 (HV.out.kept (B0.out.step1 hB)) (Nat.le_refl _) HG.out (.inl ⟨rfl, rfl⟩))
  obtain ⟨av, cv, rfl, hm0, hc0⟩ := hF.head
  have HS := Lib.hid hS
  clear hF hB P hc0 hm hm0 hS
  go_wp2_with fail
  refine AB.out.mono ?_
  rintro e w9 ⟨rfl, rfl⟩
  clear AB
  go_wp2_with fail
  generalize w1.heap.size = gA at *
  generalize w1.alloc (.cells #[.slice none 0 0] 27) = w2 at *
  go_loopw [9, 10, 33] (fun _ _ c wr => ∃ (k : Nat) (S : Value), k ≤ L.length ∧ c = .int .i64 k ∧ Hid (CoI w (.slice av L.length cv) VS L G gA k S wr)) (fun _ _ c _ => L.length - (intOf c).toNat)
  case atStart => exact ⟨0, _, by omega, rfl, I0⟩
  case round =>
    clear I0
    obtain ⟨k, S, hk, rfl, hI⟩ := hrel
    have hl2 := HL.out
    by_cases hlt : k < L.length
    · have hlt' : (k : Int) < (L.length : Int) := by omega
      obtain ⟨a9, c9, e9, _, hcs⟩ := hI.out.src.head
      cases e9
      obtain ⟨b, rfl, hcs2⟩ := hcs.resolve_left (by omega)
      have cs1 := hcs2 k hlt
      obtain ⟨ra, rc, ev, _⟩ := own_len (hI.out.src.inn k hlt)
      rw [ev] at cs1
      have rv := HV.out.kept hI.out.bel
      obtain ⟨a8, c8, e8, _, hca⟩ := rv
      cases e8
      obtain ⟨bl, ol, rfl, hca2⟩ := hca.resolve_left (by omega)
      have ca1 := hca2 k hlt
      clear hcs hcs2 hca hca2
      rcases HG.out k hlt with hg | hg
      · have IN := Lib.hid (hI.out.skip (by rw [hg]; omega))
        rw [hg] at ca1
        clear ev hg hI
        go_wp2_with fail
        go_roundw
        case rel => exact ⟨k + 1, S, by omega, by go_num, IN⟩
        case measure => simp [intOf]; omega
      · have PU := Lib.hid (fun S' w3 => CoI.push (S' := S') (w3 := w3) hI.out hg (.cells #[.slice ra (rowsOf L k).length rc] 45))
        have AC := Lib.hid (fun w3 => CoI.accAt (w3 := w3) hI.out (.cells #[.slice ra (rowsOf L k).length rc] 45))
        have OW := Lib.hid (own_below hI.out.out ((Below.refl _ wr).alloc (Nat.le_refl _) (.cells #[.slice ra (rowsOf L k).length rc] 45)))
        have SZ : Hid (w.heap.size ≤ (wr.alloc (.cells #[.slice ra (rowsOf L k).length rc] 45)).heap.size) := Lib.hid (by have := hI.out.bel.size; simp; omega)
        have SR : Hid (∀ jj u, [Value.slice ra (rowsOf L k).length rc][jj]? = some u → (wr.alloc (.cells #[.slice ra (rowsOf L k).length rc] 45)).cell? ((⟨wr.heap.size, 0, none⟩ : Addr).add jj) = some u) := Lib.hid fun jj u hu => by
          have h0 : jj = 0 := by have := (List.getElem?_eq_some_iff.1 hu).1; simp at this; omega
          subst h0
          simp at hu
          subst hu
          exact cell_of_row _ wr.heap.size 0 _ _ (0, 0) (heap_alloc_new wr _)
        have SL := selI_len G k
        have d0 := hI.out.acc.c
        have d1 : (wr.alloc (.cells #[.slice ra (rowsOf L k).length rc] 45)).cell? ⟨gA, 0, none⟩ = some S := (hI.out.acc.alloc _).c
        have d2 : (wr.alloc (.cells #[.slice ra (rowsOf L k).length rc] 45)).cell? ⟨b, k, none⟩ = some (.slice ra (rowsOf L k).length rc) := (((Below.refl _ wr).alloc (Nat.le_refl _) _).cell (p := ⟨b, k, none⟩) (World.block_lt_of_cell? wr _ cs1)).trans cs1
        rw [ev] at PU
        rw [hg] at ca1
        clear ev hg hI
        generalize (rowsOf L k).length = rn at *
        go_wp2_with (at_builtin; refine wpList_rows_at _ rfl _ _ rfl w.heap.size (selI G k).length S _ rfl OW.out ⟨wr.heap.size, 0, none⟩ 1 1 [.slice ra rn rc] rfl SR.out rfl (by simp [Value.oneCell']) (by omega) SZ.out ?_; intro V8 w8 ho8 hg8 hl8; obtain ⟨a8, c8, e8⟩ := own_shape ho8; subst e8; have A8 := Lib.hid (AC.out w8 hg8); have d8 := A8.out.c; have f8 := A8.out.fr 0; have I8 := Lib.hid (PU.out _ w8 ho8 hg8 hl8); clear ho8 hg8 hl8 A8)
        go_roundw
        case rel => exact ⟨k + 1, _, by omega, by go_num, I8⟩
        case measure => simp [intOf]; omega
    · obtain rfl : k = L.length := by omega
      obtain ⟨sa, sc, rfl⟩ := own_shape hI.out.out
      have dA := hI.out.acc.c
      have dR := hI.out.res.c
      have fR := hI.out.res.fr 0
      have FIN := Lib.hid (finT (w := w) (hI.out.fam (Nat.le_refl _)) hI.out.bel hI.out.res)
      clear hI
      go_wp2_with fail
      refine bodyPost_ret (results_box1_tmp rfl _ _ w.heap.size _ _ rfl FIN.out.1 t2 (by kernel_rfl)) rfl ?_
      exact ⟨_, _, rfl, FIN.out.2.1, selI_sep HS.out (Nat.le_refl _), FIN.out.2.2⟩

theorem MilnorOfCoordinates_both (d : Int) (n : Nat) (G : Nat → Int) : ∃ (L : List (List Int)) (cd : Int), L.length ≤ 200000000000 ∧ (∀ i, (rowsOf L i).length ≤ 6) ∧
    (∀ v w, RdI w v n G → Calls Try.prog 39 #[.int .i64 d, v] w (ResS0 L cd w)) ∧ (∀ v w, RdI w v n G → Calls Try.prog 41 #[.int .i64 d, v] w (ResS L cd w)) := by
  have hnil : ∀ i, (rowsOf [] i).length ≤ 6 := fun i => Nat.zero_le _
  by_cases h : 0 ≤ d ∧ d ≤ 40
  · obtain ⟨k, rfl⟩ := Int.eq_ofNat_of_zero_le h.1
    have hk : k ≤ 40 := by omega
    have hl := ptOf_len (k : Int)
    rw [show ptOf (k : Int) = parts 6 [] k by unfold ptOf; rw [if_pos h]; rfl] at hl
    by_cases hn : n = (parts 6 [] k).length
    · obtain ⟨z, hz, hgood, hbad⟩ := first_of (bitG G) n
      by_cases e : z = n
      · subst e
        refine ⟨(selI G z).map (rowsOf (parts 6 [] k)), 0, ?_, fun i => ?_, fun v w hv => ?_, fun v w hv => implCo_ok k z G v w hk hl.1 hv hn hgood⟩
        · rw [List.length_map]; have := selI_len G z; omega
        · unfold rowsOf
          rw [List.getElem?_map]
          cases h5 : (selI G z)[i]? with
          | none => exact Nat.zero_le _
          | some j =>
            show ((parts 6 [] k)[j]?.getD []).length ≤ 6
            by_cases hj : j < (parts 6 [] k).length
            · rw [List.getElem?_eq_getElem hj]; exact hl.2 _ (List.getElem_mem hj)
            · rw [List.getElem?_eq_none (by omega)]; exact Nat.zero_le _
        · have := specCo_go k z z true G v w hk hl.1 hv hn (Nat.le_refl _) hgood (.inl ⟨rfl, rfl⟩)
          simpa using this
      · have hzn : z < n := by omega
        refine ⟨[], 2, Nat.zero_le _, hnil, fun v w hv => ?_, fun v w hv => implCo_bad k n G v w hk hv (.inr ⟨z, hzn, hbad hzn, hgood⟩)⟩
        have := specCo_go k n z false G v w hk hl.1 hv hn hz hgood (.inr ⟨hzn, hbad hzn, rfl⟩)
        simpa using this
    · exact ⟨[], 2, Nat.zero_le _, hnil, fun v w hv => specCo_len k n G v w hk hv hn, fun v w hv => implCo_bad k n G v w hk hv (.inl hn)⟩
  · exact ⟨[], 2, Nat.zero_le _, hnil, fun v w _ => specCo_no d v w h, fun v w _ => implCo_no d v w h⟩
end Go.Proofs.Ytachdmklkkakbaa.Ml
