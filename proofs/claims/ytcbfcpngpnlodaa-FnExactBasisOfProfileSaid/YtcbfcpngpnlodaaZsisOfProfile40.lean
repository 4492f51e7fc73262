/-
  Joined: QBaS.
-/
import Derived.Test.YtcbfcpngpnlodaaZsisOfProfile39
section
namespace Go.Proofs.Ytcbfcpngpnlodaa
open Go Go.RowKit
set_option linter.unusedVariables false
set_option maxRecDepth 100000

theorem basisAll_any (d : Nat) (w : World) (hd : d ≤ 40) :
    Calls Try.prog 99 #[.int .i64 d] w fun e w' => ∃ V VS, e = .returned V ∧ FamL w' w.heap.size V VS (parts 6 [] d) ∧ Below w.heap.size w w' := by
  have P := Lib.hid (l01All_any d w hd)
  go_enter Try.func99, Try.ntmps99
  go_wp2_with fail
  refine P.out.mono ?_
  rintro e w1 ⟨V, VS, rfl, hF, hB⟩
  have F := Lib.hid hF
  have B := Lib.hid hB
  clear hF hB
  go_wp2
  go_ret
  exact ⟨V, VS, rfl, F.out, B.out⟩

/-- What the loop keeps: the rows chosen so far. -/
structure BaI (w1 : World) (p : Nat → Bool) (VA : Nat → Value) (i : Nat) (v : Value) (wr : World) : Prop where
  own : wr.ownsRow w1.heap.size 22 1 v (idxB p i).length ((idxB p i).map VA)
  bel : Below w1.heap.size w1 wr

set_option maxHeartbeats 4000000 in
theorem l07Basis_any (v : Value) (n d : Nat) (H : Nat → Int) (w : World) (hv : RdI w v n H) (h2 : okPr H n) (hd : d ≤ 40) :
    Calls Try.prog 72 #[v, .int .i64 (d : Int)] w fun e w' => ∃ V VS, e = .returned V ∧ FamL w' w.heap.size V VS (basQ n H d) ∧ Below w.heap.size w w' := by
  have AL := Lib.hid (basisAll_any d w hd)
  have HV := Lib.hid (fun wx (hb : Below w.heap.size w wx) => hv.below hb)
  have HP := Lib.hid h2
  have HG := Lib.hid (parts_good d hd)
  have hl := (parts_asc d hd).2
  have HB : Hid (basQ n H d = (idxB (inB (parts 6 [] d) n H) (parts 6 [] d).length).map (rowsOf (parts 6 [] d))) := Lib.hid rfl
  obtain ⟨va, vc, rfl⟩ : ∃ a c, v = .slice a n c := by obtain ⟨a, c, e, _⟩ := hv; exact ⟨a, c, e⟩
  clear hv h2
  generalize basQ n H d = bq at *
  generalize parts 6 [] d = P at *
  go_enter Try.func72, Try.ntmps72
  go_wp2_with fail
  refine AL.out.mono ?_
  rintro e w1 ⟨VA, US, rfl, fA, b1⟩
  have FA := Lib.hid fA
  have B1 := Lib.hid b1
  obtain ⟨aA, cA, rfl, hmA, hcA⟩ := fA.head
  have HCA := Lib.hid hcA
  clear fA b1 hcA AL
  go_wp2_with fail
  go_loopw [6, 7] (fun v c wr => ∃ i : Nat, i ≤ P.length ∧ c = .int .i64 i ∧ Hid (BaI w1 (inB P n H) US i v wr)) (fun _ c _ => P.length - (intOf c).toNat)
  case atStart => exact ⟨0, by omega, rfl, Lib.hid ⟨World.ownsRow_lit w1 #[] 0 (Nat.le_refl _) (by decide) rfl, (Below.refl _ _).alloc (Nat.le_refl _) _⟩⟩
  case round =>
    obtain ⟨i, hi, rfl, hE⟩ := hrel
    by_cases him : i < P.length
    · have him' : (i : Int) < (P.length : Int) := by omega
      obtain ⟨b, rfl, hcell⟩ := HCA.out.resolve_left (by omega)
      have hb : b < w1.heap.size := World.block_lt_of_cell? w1 ⟨b, i, none⟩ (hcell i him)
      have c1 : wr.cell? ⟨b, i, none⟩ = some (US i) := (hE.out.bel.cell (p := ⟨b, i, none⟩) hb).trans (hcell i him)
      have fw := Fam.below FA.out hE.out.bel
      have rdi := rd_of_own (fw.inn i him) rfl
      have hgl := (HG.out i him).1.1
      have BR : Hid (Below w.heap.size w wr) := Lib.hid (B1.out.step1 hE.out.bel)
      have OWN := Lib.hid hE.out.own
      have BEL := Lib.hid hE.out.bel
      have HN : Hid (idxB (inB P n H) (i + 1) = idxB (inB P n H) i ++ (if inB P n H i then [i] else [])) := Lib.hid (idxB_succ _ _)
      have HK : Hid ((idxB (inB P n H) i).length ≤ 1000) := Lib.hid (by unfold idxB; have := List.length_filter_le (inB P n H) (List.range i); rw [List.length_range] at this; omega)
      obtain ⟨ui, ci, eUi, _⟩ := own_len (fw.inn i him)
      rw [eUi] at c1 rdi
      have EU := Lib.hid eUi
      by_cases hin : inB P n H i = true
      · have LI := Lib.hid (l07In_yes _ _ _ n _ H wr (by omega) rdi (HV.out wr BR.out) HP.out (inB_iff.1 hin))
        have NX : Hid (∀ v' w', w'.ownsRow w1.heap.size 22 1 v' ((idxB (inB P n H) i).length + 1) ((idxB (inB P n H) i).map US ++ [US i]) → Below w1.heap.size w1 w' → BaI w1 (inB P n H) US (i + 1) v' w') := Lib.hid (fun v' w' ho hb => by
          refine ⟨?_, hb⟩
          rw [HN.out, if_pos hin, List.length_append, List.map_append]
          exact ho)
        rw [EU.out] at NX
        clear fw rdi hgl hE hin HN eUi EU
        generalize (idxB (inB P n H) i).map US = xs at *
        generalize (idxB (inB P n H) i).length = k at *
        go_wp2_with fail
        refine LI.out.mono ?_
        rintro e w3 ⟨rfl, q, rfl⟩
        have c3 : (wr.drewN q).cell? ⟨b, i, none⟩ = some (.slice ui (rowsOf P i).length ci) := c1
        have B3 := Lib.hid (below_drewN BEL.out q)
        have O3 : Hid ((wr.drewN q).ownsRow w1.heap.size 22 1 _ k xs) := Lib.hid OWN.out
        clear c1 LI
        generalize wr.drewN q = w3 at *
        have b4 : Below w1.heap.size w1 (w3.alloc (.cells #[.slice ui (rowsOf P i).length ci] 22)) := B3.out.alloc B3.out.size _
        have O4 := Lib.hid (O3.out.alloc (.cells #[.slice ui (rowsOf P i).length ci] 22))
        have HS4 : Hid (w1.heap.size ≤ (w3.alloc (.cells #[.slice ui (rowsOf P i).length ci] 22)).heap.size) := Lib.hid b4.size
        have SRC : Hid (∀ jj u, [Value.slice ui (rowsOf P i).length ci][jj]? = some u → (w3.alloc (.cells #[.slice ui (rowsOf P i).length ci] 22)).cell? ((⟨w3.heap.size, 0, none⟩ : Addr).add jj) = some u) := Lib.hid (fun jj u hu => by
          have h0 : jj = 0 := by have := (List.getElem?_eq_some_iff.1 hu).1; simp at this; omega
          subst h0
          simp at hu
          subst hu
          exact cell_of_row _ w3.heap.size 0 _ _ (0, 0) (heap_alloc_new w3 _))
        have B4 := Lib.hid b4
        clear b4
        go_wp2_with (refine wpList_rows_at _ rfl _ _ rfl w1.heap.size k _ xs rfl O4.out ⟨w3.heap.size, 0, none⟩ 1 1 [.slice ui (rowsOf P i).length ci] rfl SRC.out rfl (by intro u hu; simp at hu; subst hu; rfl) (by have := HK.out; omega) HS4.out ?_; intro v5 w5 ho5 hg5 hl5; have N5 := Lib.hid (NX.out v5 w5 ho5 (B4.out.grown hg5 HS4.out (fun q hq => (O4.out.lt q hq).1))); clear ho5 hg5 hl5)
        go_roundw
        case rel => exact ⟨i + 1, by omega, by go_num, N5⟩
        case measure => simp [intOf]; omega
      · have hnot : ¬ stepT (rowsOf P) n H i := fun h => hin (inB_iff.2 h)
        have LI := Lib.hid (l07In_no _ _ _ n _ H wr (by omega) rdi (HV.out wr BR.out) HP.out hnot)
        have NX : Hid (∀ v' w', w'.ownsRow w1.heap.size 22 1 v' (idxB (inB P n H) i).length ((idxB (inB P n H) i).map US) → Below w1.heap.size w1 w' → BaI w1 (inB P n H) US (i + 1) v' w') := Lib.hid (fun v' w' ho hb => by
          refine ⟨?_, hb⟩
          rw [HN.out, if_neg hin, List.append_nil]
          exact ho)
        clear fw rdi hgl hE hin HN eUi EU hnot
        go_wp2_with fail
        refine LI.out.mono ?_
        rintro e w3 ⟨rfl, q, rfl⟩
        have N5 := Lib.hid (NX.out _ (wr.drewN q) OWN.out (below_drewN BEL.out q))
        go_wp2_with fail
        go_roundw
        case rel => exact ⟨i + 1, by omega, by go_num, N5⟩
        case measure => simp [intOf]; omega
    · have him' : ¬ (i : Int) < (P.length : Int) := by omega
      obtain rfl : i = P.length := by omega
      have F := Lib.hid (fam_sel (Fam.below FA.out hE.out.bel) (fun t ht => (idxB_mem.1 ht).1) (own_base hE.out.own B1.out.size))
      have BE := Lib.hid (B1.out.step1 hE.out.bel)
      clear hE
      go_wp2_with fail
      go_ret
      rw [HB.out]
      exact ⟨_, rfl, ⟨_, F.out⟩, BE.out⟩

/-- What spec.BasisOfProfile answers. -/
theorem specBa_ok (v : Value) (n d : Nat) (H : Nat → Int) (w : World) (hv : RdI w v n H) (h2 : okPr H n) (hd : d ≤ 40) :
    Calls Try.prog 37 #[v, .int .i64 (d : Int)] w (SpecRes w 0 (basQ n H d)) := by
  have A := Lib.hid (l07Is_yes v n H w hv h2)
  have P := Lib.hid (l07Basis_any v n d H w hv h2 hd)
  have h1 : (d : Int) ≤ 40 := by omega
  have h0 : (0 : Int) ≤ (d : Int) := by omega
  generalize basQ n H d = bq at *
  go_enter Try.func37, Try.ntmps37
  go_wp2_with fail
  refine A.out.mono ?_
  rintro e w' ⟨rfl, rfl⟩
  go_wp2_with (go_at_call 57; refine (l01In_yes _ _ _ _ h0 h1).mono ?_; rintro e w' ⟨rfl, rfl⟩)
  refine P.out.mono ?_
  rintro e w1 ⟨V, VS, rfl, hF, hB⟩
  have F := Lib.hid hF
  have B := Lib.hid hB
  clear hF hB
  go_wp2
  go_ret2
  exact ⟨V, VS, rfl, F.out, B.out⟩
theorem specBa_far (v : Value) (n : Nat) (d : Int) (H : Nat → Int) (w : World) (hv : RdI w v n H) (h2 : okPr H n) (hd : ¬ (0 ≤ d ∧ d ≤ 40)) :
    Calls Try.prog 37 #[v, .int .i64 d] w (SpecRes w 2 []) := by
  have A := Lib.hid (l07Is_yes v n H w hv h2)
  go_enter Try.func37, Try.ntmps37
  go_wp2_with fail
  refine A.out.mono ?_
  rintro e w' ⟨rfl, rfl⟩
  go_wp2_with (go_at_call 57; refine (l01In_no _ _ _ _ (by omega)).mono ?_; rintro e w' ⟨rfl, rfl⟩)
  go_ret2
  exact ⟨_, fun _ => undef, rfl, fam_nil _ _ _, Below.refl _ _⟩
theorem specBa_no (v : Value) (n : Nat) (d : Int) (H : Nat → Int) (w : World) (hv : RdI w v n H) (h2 : ¬ okPr H n) :
    Calls Try.prog 37 #[v, .int .i64 d] w (SpecRes w 1 []) := by
  have A := Lib.hid (l07Is_no v n H w hv h2)
  go_enter Try.func37, Try.ntmps37
  go_wp2_with fail
  refine A.out.mono ?_
  rintro e w' ⟨rfl, rfl⟩
  go_wp2_with fail
  go_ret2
  exact ⟨_, fun _ => undef, rfl, fam_nil _ _ _, Below.refl _ _⟩
end Go.Proofs.Ytcbfcpngpnlodaa
end
