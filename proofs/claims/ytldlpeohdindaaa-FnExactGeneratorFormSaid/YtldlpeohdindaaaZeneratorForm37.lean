/-
  Joined: GSpec, GImpl, LFnExactGeneratorForm, PFnExactGeneratorForm.
-/
import Derived.Test.YtldlpeohdindaaaZeneratorForm13
import Derived.Test.YtldlpeohdindaaaZeneratorForm36
import Derived.Test.YtldlpeohdindaaaZeneratorForm27
import Derived.Test.YtldlpeohdindaaaZeneratorForm33
import Derived.Test.YtldlpeohdindaaaRows
import Derived.WalkKit
import Derived.ProofKit
import Derived.OpenShut
import Derived.ShutString
import Derived.ChangeOld
import Derived.Below
section
namespace Go.Proofs.Ytldlpeohdindaaa
open Go.RowKit
set_option linter.unusedVariables false
set_option maxRecDepth 100000

theorem specGen_no (a : Int) (w : World) (h : a < 1 ∨ 20 < a) : Calls Try.prog 5 #[.int .i64 a] w (ResS [] 2 w) := by
  have t2 := Try.underlying24
  have BX : Hid (Box1 (w.alloc (.cells #[.slice none 0 0] 24)) w.heap.size 24 (.slice none 0 0)) := Lib.hid (Box1.new _ _ _)
  go_enter Try.func5, Try.ntmps5
  go_wp2_with (go_at_call 14; refine (l01In_no _ _ _ _ h).mono ?_; rintro e w' ⟨rfl, rfl⟩)
  refine bodyPost_ret (results_box1_tmp rfl _ _ w.heap.size _ _ rfl BX.out t2 (by kernel_rfl)) rfl ?_
  exact resS_nil w _
theorem specGen_ok (n : Nat) (w : World) (h1 : 1 ≤ n) (h2 : n ≤ 20) : Calls Try.prog 5 #[.int .i64 n] w (ResS (normL (gen n)) 0 w) := by
  have t2 := Try.underlying24
  have B0 : Below w.heap.size w (w.alloc (.cells #[.slice none 0 0] 24)) := (Below.refl _ w).alloc (Nat.le_refl _) _
  have BX : Hid (Box1 (w.alloc (.cells #[.slice none 0 0] 24)) w.heap.size 24 (.slice none 0 0)) := Lib.hid (Box1.new _ _ _)
  have GN := Lib.hid (gens_any n h1 h2 (w.alloc (.cells #[.slice none 0 0] 24)))
  have HB0 := Lib.hid B0
  have i1 : (1 : Int) ≤ (n : Int) := by omega
  have i2 : (n : Int) ≤ 20 := by omega
  clear B0
  go_enter Try.func5, Try.ntmps5
  go_wp2_with (go_at_call 14; refine (l01In_yes _ _ _ _ i1 i2).mono ?_; rintro e w' ⟨rfl, rfl⟩)
  refine GN.out.mono ?_
  rintro e w1 ⟨U, US, zs, rfl, L1⟩
  obtain ⟨l5, _⟩ := gen_few h1 h2 L1.asc.nodup L1.mem
  obtain ⟨ua, uc, rfl, _, _⟩ := L1.fam.head
  have FIT := Lib.hid (l03Fit_yes ua zs.length uc w1 (by omega))
  have HL := Lib.hid L1
  have b1 := HB0.out.trans (L1.bel.mono HB0.out.size)
  have HB1 := Lib.hid b1
  have BX1 := Lib.hid (BX.out.up L1.bel)
  clear L1 b1 GN BX
  go_wp2_with fail
  refine FIT.out.mono ?_
  rintro e w2 ⟨rfl, b2⟩
  obtain rfl := normL_eq HL.out.asc HL.out.mem
  have bx3 := (BX1.out.up b2).alloc (.cells #[.slice ua (normL (gen n)).length uc] 24)
  have f3 : FamL (w2.alloc (.cells #[.slice ua (normL (gen n)).length uc] 24)) w.heap.size _ US (normL (gen n)) := Fam.below (Fam.base (Fam.below HL.out.fam b2) HB0.out.size) ((Below.refl _ w2).alloc (Nat.le_refl _) _)
  have bb3 := (HB1.out.step1 b2).alloc (HB1.out.step1 b2).size (.cells #[.slice ua (normL (gen n)).length uc] 24)
  have D := Lib.hid (resS_put f3 (Nat.le_refl _) bb3 bx3 (Nat.le_refl _))
  have c3 := bx3.c
  have q3 := bx3.fr 0
  have HS := Lib.hid HL.out.sep
  clear bx3 f3 bb3 b2 FIT HL BX1
  go_wp2_with fail
  refine bodyPost_ret (results_box1_tmp rfl _ _ w.heap.size _ _ rfl D.out.2.2 t2 (by kernel_rfl)) rfl ?_
  exact ⟨_, US, rfl, D.out.1, HS.out, D.out.2.1⟩
end Go.Proofs.Ytldlpeohdindaaa
end
section
namespace Go.Proofs.Ytldlpeohdindaaa
open Go.RowKit Go.Maps
set_option linter.unusedVariables false
set_option maxRecDepth 100000

theorem implGen_no (a : Int) (w : World) (h : a < 1 ∨ 20 < a) : Calls Try.prog 6 #[.int .i64 a] w (ResS [] 2 w) := by
  have t2 := Try.underlying24
  have BX : Hid (Box1 (w.alloc (.cells #[.slice none 0 0] 24)) w.heap.size 24 (.slice none 0 0)) := Lib.hid (Box1.new _ _ _)
  by_cases k1 : a < 1
  · clear h
    go_enter Try.func6, Try.ntmps6
    go_wp2_with fail
    refine bodyPost_ret (results_box1_tmp rfl _ _ w.heap.size _ _ rfl BX.out t2 (by kernel_rfl)) rfl ?_
    exact resS_nil w _
  · have k2 : 20 < a := by omega
    clear h
    go_enter Try.func6, Try.ntmps6
    go_wp2_with fail
    refine bodyPost_ret (results_box1_tmp rfl _ _ w.heap.size _ _ rfl BX.out t2 (by kernel_rfl)) rfl ?_
    exact resS_nil w _

theorem infoSS : (Try.prog.info? 22).map (fun i => (i.zero, i.size, i.bytes)) = some (some (.slice none 0 0), 1, 24) := by kernel_rfl
theorem pw_next : ∀ m, m < 21 → 1 ≤ m → (m = 2 * pw (m - 1) → pw m = m) ∧ (m ≠ 2 * pw (m - 1) → pw m = pw (m - 1)) := by decide

/-- The row of the forms. -/
def FRow (w : World) (FB n : Nat) (W : World) (XS : List Value) : Prop := W.ownsRow w.heap.size 22 1 (.slice (some ⟨FB, 0, none⟩) (n + 1) (n + 1)) (n + 1) XS
theorem frow_mem {w W : World} {FB n : Nat} {XS : List Value} (h : FRow w FB n W XS) {k : Nat} {x : Value} (hc : W.cell? ⟨FB, k, none⟩ = some x) : x ∈ XS := by
  rcases h.2 with ⟨e, _⟩ | ⟨g, cap, cur, e, _, hg, h1, h2, h3, h4⟩
  · cases e
  · cases e
    have h5 : W.cell? ⟨FB, k, none⟩ = cur[k]? := by simp [World.cell?, hg]
    rw [h5] at hc
    rw [← h4, List.take_of_length_le (by rw [Array.length_toList, h3]; exact Nat.le_refl _)]
    obtain ⟨hk, e⟩ := Array.getElem?_eq_some_iff.1 hc
    rw [← e, ← Array.getElem_toList]
    exact List.getElem_mem _

/-- A store into the row of the forms leaves the relations. -/
theorem KInv.put_row {K gk FB n j : Nat} {w W : World} {XS : List Value} {u : Value} (h : KInv K gk (fun _ => False) W) (ho : FRow w FB n W XS) (hx : ∀ x ∈ XS, ∀ z, x ≠ .int .i64 z) :
    KInv K gk (fun _ => False) (W.setCell ⟨FB, j, none⟩ u) := by
  have n1 : K ≠ FB := fun e => own_ne_cells (q := K) ho h.box (by decide) (by rw [e]; rfl)
  obtain ⟨D, q, o1, e1⟩ := h.known
  obtain ⟨es, clock, he, rest⟩ := o1
  have n2 : gk ≠ FB := fun e => own_ne_obj (q := gk) ho he rfl (by rw [e]; rfl)
  refine ⟨(heap_setCell_other _ _ _ _ n1).trans h.box, ⟨D, q, ⟨es, clock, (heap_setCell_other _ _ _ _ n2).trans he, rest⟩, e1.mono fun l v ⟨⟨a, b, h1, h2, h3⟩, h4⟩ => ⟨⟨a, b, h1, h2, ?_⟩, h4.ext (by simp [World.setCell]) fun g hg => .inl hg⟩⟩, h.nx⟩
  obtain ⟨a', cap, e, hm, hc⟩ := h3
  refine ⟨a', cap, e, hm, ?_⟩
  rcases hc with h0 | ⟨b', off, e2, hc⟩
  · exact .inl h0
  · refine .inr ⟨b', off, e2, fun i hi => ?_⟩
    by_cases hb : b' = FB
    · subst hb
      exact absurd rfl (hx _ (frow_mem ho (hc i hi)) _)
    · exact (World.cell?_of_block (w := W) (a := ⟨b', off + i, none⟩) (heap_setCell_other _ _ _ _ hb)).trans (hc i hi)

/-- The forms below m in the block FB, each with memory of its own. -/
def FormsF (w : World) (FB m : Nat) (W : World) : Prop := ∀ i, 1 ≤ i → i < m → ∃ V VS, W.cell? ⟨FB, i, none⟩ = some V ∧ FamL W w.heap.size V VS (normL (gen i)) ∧ Sep (normL (gen i)).length VS
theorem FormsF.at {w W : World} {FB m : Nat} (h : FormsF w FB m W) : FormsAt W FB m := fun i h1 h2 => by
  obtain ⟨V, VS, hc, hf, _⟩ := h i h1 h2
  exact ⟨V, hc, Fam.rdr hf⟩

/-- What GeneratorForm keeps. -/
structure GenI (w : World) (K gk FB n m : Nat) (W : World) : Prop where
  bel : Below w.heap.size w W
  own : ∃ XS, FRow w FB n W XS ∧ ∀ x ∈ XS, ∀ z, x ≠ .int .i64 z
  forms : FormsF w FB m W
  kn : KInv K gk (fun _ => False) W
  box : Box1 W w.heap.size 24 (.slice none 0 0)
  gkw : w.heap.size ≤ gk
section
variable {w : World} {K gk FB n m : Nat} {W W' : World}
theorem GenI.call (h : GenI w K gk FB n m W) (k : Kp2 gk gk W W') (hk : KInv K gk (fun _ => False) W') : GenI w K gk FB n m W' := by
  obtain ⟨XS, ho, hx⟩ := h.own
  refine ⟨h.bel.trans (k.below h.gkw h.gkw h.bel.size), ⟨XS, own_kp ho h.kn.m1 h.kn.m1 k, hx⟩, fun i h1 h2 => ?_, hk, heap_kp h.box h.kn.m1 h.kn.m1 k, h.gkw⟩
  obtain ⟨V, VS, hc, hf, hs⟩ := h.forms i h1 h2
  exact ⟨V, VS, (k.cell (p := ⟨FB, i, none⟩) (World.block_lt_of_cell? W _ hc) (h.kn.m1.ne hc) (h.kn.m1.ne hc)).trans hc, ⟨own_kp hf.out h.kn.m1 h.kn.m1 k, fun i hi => own_kp (hf.inn i hi) h.kn.m1 h.kn.m1 k⟩, hs⟩
theorem GenI.fr (h : GenI w K gk FB n m W) (i : Nat) : W.frozen? ⟨FB, i, none⟩ = false := by
  obtain ⟨XS, ho, hx⟩ := h.own
  exact ho.frozenAt i
theorem GenI.old (h : GenI w K gk FB n m W) (i : Nat) (hi : i < n + 1) : ∃ x, W.cell? ⟨FB, i, none⟩ = some x := by
  obtain ⟨XS, ho, hx⟩ := h.own
  have hl : XS.length = n + 1 := by have := ho.1; omega
  exact ⟨XS[i]'(by omega), by rw [ho.cellAt i (by omega)]; exact List.getElem?_eq_getElem _⟩
theorem GenI.store {V : Value} {VS : Nat → Value} (h : GenI w K gk FB n m W) (hm : m ≤ n) (hf : FamL W w.heap.size V VS (normL (gen m))) (hs : Sep (normL (gen m)).length VS) :
    GenI w K gk FB n (m + 1) (W.setCell ⟨FB, m, none⟩ V) := by
  obtain ⟨XS, ho, hx⟩ := h.own
  have hst := World.ownsRow.stored ho m V
  have hfb : w.heap.size ≤ FB := (World.ownsRow.lt ho FB rfl).1
  have nb : w.heap.size ≠ FB := fun e => own_ne_cells (q := w.heap.size) ho h.box (by decide) (by rw [e]; rfl)
  obtain ⟨av, cv, ev, _, _⟩ := id hf.head
  have hl : XS.length = n + 1 := by have := ho.1; omega
  have keep : ∀ {U : Value} {US : Nat → Value} {L : List (List Int)}, FamL W w.heap.size U US L → FamL (W.setCell ⟨FB, m, none⟩ V) w.heap.size U US L := fun k =>
    ⟨k.out.kept hst.2 (own_types k.out ho (by decide)), fun i hi => (k.inn i hi).kept hst.2 (own_types (k.inn i hi) ho (by decide))⟩
  have cell : ∀ i, i < n + 1 → (W.setCell ⟨FB, m, none⟩ V).cell? ⟨FB, i, none⟩ = (XS.set m V)[i]? := fun i hi => hst.1.cellAt i (by omega)
  refine ⟨h.bel.setCell (p := ⟨FB, m, none⟩) hfb V, ⟨XS.set m V, hst.1, fun x hx' z => ?_⟩, fun i h1 h2 => ?_, h.kn.put_row ho hx, h.box.other ⟨FB, m, none⟩ V nb, h.gkw⟩
  · rcases List.mem_or_eq_of_mem_set hx' with h3 | h3
    · exact hx x h3 z
    · rw [h3, ev]; intro e; cases e
  · by_cases e : i = m
    · subst e
      exact ⟨V, VS, by rw [cell i (by omega), List.getElem?_set_self (by omega)], keep hf, hs⟩
    · obtain ⟨U, US, hc, hf', hs'⟩ := h.forms i h1 (by omega)
      refine ⟨U, US, ?_, keep hf', hs'⟩
      rw [cell i (by omega), List.getElem?_set_ne (fun e2 => e e2.symm), ← ho.cellAt i (by omega)]
      exact hc
end

set_option maxHeartbeats 2000000 in
theorem implGen_ok (n : Nat) (w : World) (h1 : 1 ≤ n) (h2 : n ≤ 20) : Calls Try.prog 6 #[.int .i64 n] w (ResS (normL (gen n)) 0 w) := by
  obtain ⟨i1, hj, hy0, hy1, hy2⟩ := info_parts infoSS
  have t2 := Try.underlying24
  have BX : Hid (Box1 (w.alloc (.cells #[.slice none 0 0] 24)) w.heap.size 24 (.slice none 0 0)) := Lib.hid (Box1.new _ _ _)
  have HB0 : Hid (Below w.heap.size w (w.alloc (.cells #[.slice none 0 0] 24))) := Lib.hid ((Below.refl _ w).alloc (Nat.le_refl _) _)
  have RM := Lib.hid (remembered_any (w.alloc (.cells #[.slice none 0 0] 24)))
  have hsz : Hid ((w.alloc (.cells #[.slice none 0 0] 24)).heap.size = w.heap.size + 1) := Lib.hid (by simp)
  have k1 : ¬ (n : Int) < 1 := by omega
  have k2 : (n : Int) ≤ 20 := by omega
  have k3 : ¬ (20 : Int) < (n : Int) := by omega
  go_enter Try.func6, Try.ntmps6
  go_wp2_with fail
  generalize w.alloc (.cells #[.slice none 0 0] 24) = w1 at *
  refine RM.out.mono ?_
  rintro e w2 ⟨rfl, hw2⟩
  have D2 : Hid (KInv (w1.heap.size + 1) w1.heap.size (fun _ => False) w2 ∧ Below w1.heap.size w1 w2 ∧ w2.heap.size = w1.heap.size + 2) := Lib.hid (by
    subst hw2
    have b1 : Below w1.heap.size w1 ((w1.alloc (.map #[] 0)).alloc (.cells #[.map (some w1.heap.size)] 54)) := ((Below.refl _ w1).alloc (Nat.le_refl _) _).alloc (by simp) _
    have hk := heap_alloc_new (w1.alloc (.map #[] 0)) (.cells #[.map (some w1.heap.size)] 54)
    rw [World.size_alloc] at hk
    exact ⟨⟨hk, ⟨_, _, (World.ownsMap_made (H := Value) w1 Try.prog 55 RawV).alloc _, Ent.nil _⟩, ⟨id, id⟩⟩, b1, by simp⟩)
  clear hw2 RM
  go_wp2_with (at_make; refine wpList_make_full _ rfl _ _ 40 rfl w2.heap.size 22 i1 (.slice none 0 0) 1 Try.underlying40 hj hy0 hy1 .i64 .i64 ((n : Int) + 1) ((n : Int) + 1) (n + 1) rfl rfl (by omega) (by omega) (by rw [hy2]; omega) (by unfold maxLen; omega) (Nat.le_refl _) ?_; intro w3 hown hgrow; rw [made_heads] at hown; have H3 := Lib.hid hown; have G3 := Lib.hid hgrow; clear hown hgrow)
  have I0 : Hid (GenI w (w1.heap.size + 1) w1.heap.size w2.heap.size n 1 w3) := Lib.hid (by
    have b3 : Below w2.heap.size w2 w3 := (Below.refl _ w2).grown G3.out (Nat.le_refl _) (by intro k hk; cases hk)
    have hs1 := hsz.out
    obtain ⟨kk, b2, s2⟩ := D2.out
    have b12 : Below w1.heap.size w1 w3 := b2.step1 b3
    exact ⟨HB0.out.step1 b12, ⟨_, own_base H3.out (by omega), fun x hx z => by rw [List.eq_of_mem_replicate hx]; intro e; cases e⟩, fun i h1 h2 => by omega, kk.below b3, BX.out.up b12, by omega⟩)
  clear H3 G3 D2 BX HB0
  generalize w1.heap.size = gk at *
  generalize w2.heap.size = FB at *
  go_loopw [6, 7] (fun p c wr => ∃ m : Nat, 1 ≤ m ∧ m ≤ n + 1 ∧ c = .int .i64 m ∧ p = .int .i64 (pw (m - 1) : Int) ∧ Hid (GenI w (gk + 1) gk FB n m wr)) (fun _ c _ => n + 1 - (intOf c).toNat)
  case atStart => exact ⟨1, Nat.le_refl _, by omega, rfl, rfl, I0⟩
  case round =>
    clear I0
    obtain ⟨m, hm1, hm2, rfl, rfl, hI⟩ := hrel
    by_cases hlt : m ≤ n
    · have hlt' : (m : Int) ≤ (n : Int) := by omega
      have hmn : (m : Int) < (n : Int) + 1 := by omega
      obtain ⟨p1, p2⟩ := pw_next m (by omega) hm1
      have p16 := pw_16 (m - 1)
      have GW := Lib.hid (gw_any (gk + 1) gk m FB (n + 1) (n + 1) wr hm1 (by omega) (by omega) hI.out.forms.at hI.out.kn)
      have PN : Hid (pw (m + 1 - 1) = pw m) := Lib.hid (by rw [Nat.add_sub_cancel])
      have hmb : (m : Int) ≤ 20 := by omega
      have EN : Hid (((n + 1 : Nat) : Int) = (n : Int) + 1) := Lib.hid (by omega)
      generalize pw (m - 1) = q at p1 p2 p16
      by_cases he : m = 2 * q
      · have e1 : ((m : Int) == 2 * (q : Int)) = true := by rw [beq_iff_eq]; omega
        rw [p1 he] at GW PN
        have he' := Lib.hid he
        clear p1 p2 he
        go_wp2_with fail
        refine GW.out.mono ?_
        rintro e w5 ⟨V, VS, rfl, hF, hS, hK, hKp⟩
        have I5 := Lib.hid (hI.out.call hKp hK)
        have F5 := Lib.hid (Fam.base hF hI.out.bel.size)
        have S5 := Lib.hid hS
        obtain ⟨x5, c5⟩ := I5.out.old m (by omega)
        have f5 := I5.out.fr m
        have I6 := Lib.hid (I5.out.store (by omega) F5.out S5.out)
        obtain ⟨av, cv, rfl, _, _⟩ := hF.head
        clear hF hS hK hKp GW F5 S5 I5 hI
        go_wp2_with fail
        go_roundw
        case rel => exact ⟨m + 1, by omega, by omega, by go_num, by rw [PN.out], I6⟩
        case measure => simp [intOf]; omega
      · have e1 : ((m : Int) == 2 * (q : Int)) = false := by rw [beq_eq_false_iff_ne]; omega
        rw [p2 he] at GW PN
        clear p1 p2 he
        go_wp2_with fail
        refine GW.out.mono ?_
        rintro e w5 ⟨V, VS, rfl, hF, hS, hK, hKp⟩
        have I5 := Lib.hid (hI.out.call hKp hK)
        have F5 := Lib.hid (Fam.base hF hI.out.bel.size)
        have S5 := Lib.hid hS
        obtain ⟨x5, c5⟩ := I5.out.old m (by omega)
        have f5 := I5.out.fr m
        have I6 := Lib.hid (I5.out.store (by omega) F5.out S5.out)
        obtain ⟨av, cv, rfl, _, _⟩ := hF.head
        clear hF hS hK hKp GW F5 S5 I5 hI
        go_wp2_with fail
        go_roundw
        case rel => exact ⟨m + 1, by omega, by omega, by go_num, by rw [PN.out], I6⟩
        case measure => simp [intOf]; omega
    · obtain rfl : m = n + 1 := by omega
      have hlt' : ¬ ((n + 1 : Nat) : Int) ≤ (n : Int) := by omega
      obtain ⟨V, VS, hc, hF, hS⟩ := hI.out.forms n h1 (by omega)
      have hmn : (n : Int) < (n : Int) + 1 := by omega
      have D := Lib.hid (resS_put hF (Nat.le_refl _) hI.out.bel hI.out.box (Nat.le_refl _))
      obtain ⟨av, cv, rfl, _, _⟩ := hF.head
      have HS := Lib.hid hS
      have c3 := hI.out.box.c
      have q3 := hI.out.box.fr 0
      clear hF hS
      go_wp2_with fail
      refine bodyPost_ret (results_box1_tmp rfl _ _ w.heap.size _ _ rfl D.out.2.2 t2 (by kernel_rfl)) rfl ?_
      exact ⟨_, VS, rfl, D.out.1, HS.out, D.out.2.1⟩

theorem GeneratorForm_both (a : Int) : ∃ (L : List (List Int)) (cd : Int), L.length ≤ 5 ∧ (∀ i, (rowsOf L i).length ≤ 6) ∧
    (∀ w, Calls Try.prog 5 #[.int .i64 a] w (ResS L cd w)) ∧ (∀ w, Calls Try.prog 6 #[.int .i64 a] w (ResS L cd w)) := by
  by_cases h : a < 1 ∨ 20 < a
  · exact ⟨[], 2, Nat.zero_le _, fun i => Nat.zero_le _, fun w => specGen_no a w h, fun w => implGen_no a w h⟩
  · obtain ⟨n, rfl⟩ := Int.eq_ofNat_of_zero_le (by omega : 0 ≤ a)
    have g := normG (i := n) (by omega) (by omega)
    exact ⟨_, 0, g.1, g.2, fun w => specGen_ok n w (by omega) (by omega), fun w => implGen_ok n w (by omega) (by omega)⟩
end Go.Proofs.Ytldlpeohdindaaa
end
section
namespace Go.Proofs.Ytldlpeohdindaaa
open Go.RowKit
set_option linter.unusedVariables false
set_option maxRecDepth 100000

set_option maxHeartbeats 2000000 in
theorem walk_FnExactGeneratorForm (a0 : Int) (w : World) (w0 : (Lit.int .i64 a0).wf = true) :
    Calls Try.prog 3 #[.int .i64 a0] w fun e w' => e = .returned (.bool true) ∧ Below w.heap.size w w' := by
  clear w0
  have t1 := Try.underlying30
  have t2 := Try.underlying24
  obtain ⟨L, cd, hL, hL20, SP, IM⟩ := GeneratorForm_both a0
  have OL : Hid (off 1 (fun i => (rowsOf L i).length) L.length ≤ 1152921504606846976) := Lib.hid (by rw [off_any]; have := tot_bound (rowsOf L) 6 L.length hL20; omega)
  have OL0 : ¬ off 1 (fun i => (rowsOf L i).length) L.length < 0 := by rw [off_any]; omega
  have SP := Lib.hid SP
  have IM := Lib.hid IM
  obtain ⟨kl, hkl⟩ : ∃ kl, off 1 (fun i => (rowsOf L i).length) L.length = kl := ⟨_, rfl⟩
  rw [hkl] at OL0
  have HKL := Lib.hid hkl
  clear hkl hL hL20
  go_enter Try.func3, Try.ntmps3
  go_wp2_with fail
  refine (SP.out w).mono ?_
  rintro e w1 ⟨v1, vs1, rfl, f1, s1, b1⟩
  obtain ⟨va1, vc1, rfl, _, _⟩ := f1.head
  have P2 : Hid (OwnF w w1.heap.size (.slice va1 L.length vc1) L.length vs1 (rowsOf L) (w1.alloc (.cells #[.slice va1 L.length vc1] 24))) := Lib.hid (OwnF.start b1.size f1 s1)
  have B2 := Lib.hid (b1.alloc b1.size (.cells #[.slice va1 L.length vc1] 24))
  clear f1 s1 b1
  go_wp2_with fail
  generalize w1.heap.size = g1 at *
  generalize w1.alloc (.cells #[.slice va1 L.length vc1] 24) = w2 at *
  refine (IM.out w2).mono ?_
  rintro e w3 ⟨v3, vs3, rfl, f3, s3, b3⟩
  obtain ⟨va3, vc3, rfl, _, _⟩ := f3.head
  have N13 := Lib.hid (fam_apart P2.out.fam f3)
  have B3 := Lib.hid (B2.out.step1 b3)
  have P4 := Lib.hid ((P2.out.up b3).alloc (.cells #[.slice va3 L.length vc3] 24))
  have V4 : Hid (OwnF w w3.heap.size (.slice va3 L.length vc3) L.length vs3 (rowsOf L) (w3.alloc (.cells #[.slice va3 L.length vc3] 24))) := Lib.hid (OwnF.start B3.out.size (f3.base B2.out.size) s3)
  have B4 := Lib.hid (B3.out.alloc B3.out.size (.cells #[.slice va3 L.length vc3] 24))
  clear f3 s3 b3 P2 B2 B3
  have d0 := P4.out.box.c
  have e0 := V4.out.box.c
  go_wp2_with fail
  generalize w3.heap.size = g3 at *
  generalize w3.alloc (.cells #[.slice va3 L.length vc3] 24) = w4 at *
  refine (eqSquares_same _ _ L.length _ _ _ _ (rowsOf L) w4 V4.out.fam P4.out.fam).mono ?_
  rintro e w5 ⟨rfl, b5⟩
  have P5 := Lib.hid (P4.out.up b5)
  have V5 := Lib.hid (V4.out.up b5)
  have B5 := Lib.hid (B4.out.step1 b5)
  clear b5 P4 V4 B4 d0 e0
  have e0 := V5.out.box.c
  go_wp2_with fail
  refine (markSquares_from 1 (by omega) _ L.length w.heap.size vs3 (rowsOf L) w5 V5.out.fam V5.out.sep B5.out.size OL.out).mono ?_
  rintro e w6 ⟨rfl, m6, k6, r6⟩
  have P6 := Lib.hid (P5.out.rest V5.out r6 N13.out)
  have V6 := Lib.hid (V5.out.box.restK (B' := 0) (by decide) V5.out.fam r6)
  have W6 := Lib.hid m6
  have B6 := Lib.hid (B5.out.trans k6)
  rw [HKL.out]
  clear P5 V5 B5 m6 k6 r6 e0
  have e0 := V6.out.c
  go_wp2_with fail
  refine (heldSquares_own _ L.length w.heap.size vs3 (rowsOf L) w6 W6.out OL.out).mono ?_
  rintro e w7 ⟨rfl, b7⟩
  have P7 := Lib.hid (P6.out.up b7)
  have V7 := Lib.hid (V6.out.up b7)
  have W7 := Lib.hid (W6.out.below b7)
  have B7 := Lib.hid (B6.out.step1 b7)
  rw [HKL.out]
  clear P6 V6 W6 B6 b7 e0
  go_wp2_with fail
  refine (IM.out w7).mono ?_
  rintro e w8 ⟨v8, vs8, rfl, f8, s8, b8⟩
  obtain ⟨va8, vc8, rfl, _, _⟩ := f8.head
  have B8 := Lib.hid (B7.out.step1 b8)
  have P9 := Lib.hid ((P7.out.up b8).alloc (.cells #[.slice va8 L.length vc8] 24))
  have V9 := Lib.hid ((V7.out.up b8).alloc (.cells #[.slice va8 L.length vc8] 24))
  have W9 := Lib.hid ((W7.out.below b8).below ((Below.refl w8.heap.size w8).alloc (Nat.le_refl _) (.cells #[.slice va8 L.length vc8] 24)))
  have Q9 : Hid (OwnF w w8.heap.size (.slice va8 L.length vc8) L.length vs8 (rowsOf L) (w8.alloc (.cells #[.slice va8 L.length vc8] 24))) := Lib.hid (OwnF.start B8.out.size (f8.base B7.out.size) s8)
  have B9 := Lib.hid (B8.out.alloc B8.out.size (.cells #[.slice va8 L.length vc8] 24))
  clear f8 s8 b8 P7 V7 W7 B7 B8
  have d0 := P9.out.box.c
  have e0 := Q9.out.box.c
  go_wp2_with fail
  generalize w8.heap.size = g8 at *
  generalize w8.alloc (.cells #[.slice va8 L.length vc8] 24) = w9 at *
  refine (eqSquares_same _ _ L.length _ _ _ _ (rowsOf L) w9 Q9.out.fam P9.out.fam).mono ?_
  rintro e w10 ⟨rfl, b10⟩
  have V10 := Lib.hid (V9.out.up b10)
  have W10 := Lib.hid (W9.out.below b10)
  have B10 := Lib.hid (B9.out.step1 b10)
  clear b10 P9 Q9 V9 W9 B9 d0 e0
  have e0 := V10.out.c
  go_wp2_with fail
  refine (heldSquares_own _ L.length w.heap.size vs3 (rowsOf L) w10 W10.out OL.out).mono ?_
  rintro e w11 ⟨rfl, b11⟩
  have B11 := Lib.hid (B10.out.step1 b11)
  rw [HKL.out]
  go_wp2_with fail
  go_ret
  exact ⟨rfl, B11.out⟩
end Go.Proofs.Ytldlpeohdindaaa
end
section
namespace Go.Proofs.Ytldlpeohdindaaa.fnExactGeneratorForm
open Go.ChangeShapes Go.WideShapes Go.ChangeAt Go.RowKit
open Go.ChangeMaps (open_string shut_string)
set_option maxRecDepth 100000
set_option linter.unusedVariables false

theorem own : ownKnob Try.prog.godebug = none := by kernel_rfl
theorem laidOut : laidOutB Try.prog = true := by kernel_rfl

set_option maxRecDepth 100000 in
theorem lifted (os : Os) (started : os.Started) (H : Type) (enc : TypeId × Value → H) :
    ReturnsInHanded {} Try.checked os 3 .any (Rows.fnExactGeneratorFormSpec.pre6 enc Try.prog Try.f3 Rows.fnExactGeneratorFormRow.domain false) (Rows.fnExactGeneratorFormSpec.post enc Try.prog Try.f3 false true false false) := by
  refine returnsInHanded_of_change (C := Try.checked) own started (by kernel_rfl) Try.func3
    (ChangeSpec.witness6 (enc := enc) (C := Try.checked) false ⟨#[], #[.int .i64 0], []⟩ 8 (by kernel_rfl) (by kernel_rfl) (by kernel_rfl) (by kernel_rfl)) ?_
  intro W base args ds gs before hval0 hW hcnd _
  have hval : ∀ (j : Nat) t v, Try.f3.params[j]? = some t → args[j]? = some v → Value.okWide Try.prog W .any base t v := hval0
  have hW' := hW
  obtain ⟨p, q, hA0, hV, rfl, hfz, hnd⟩ := hW
  have hA : DataW.TrodAll enc Try.prog W 0 (fun _ => true) true Try.f3.params.toList args.toList ds p := hA0
  rw [Try.params3] at hA hval
  obtain ⟨v0, vs0, d0, ds0, p0, q0, hargs, rfl, rfl, h0, r0⟩ := trodAll_cons hA
  obtain ⟨rfl, rfl, rfl⟩ := trodAll_nil r0
  obtain rfl : args = #[v0] := by cases args; simp_all
  obtain ⟨rfl, rfl⟩ := trodVars_none hV
  obtain ⟨a0, rfl, rfl, rfl, w0⟩ := open_int Try.underlying2 (hval 0 2 v0 rfl rfl) h0
  clear hA0 hval0
  simp only [List.append_nil] at hW'
  refine (walk_FnExactGeneratorForm a0 W w0).mono fun e W' ⟨he, bel⟩ => ?_
  subst he
  exact ⟨_, rfl, _, _, _, [], [], [], hW', trodAll_mk1 (shut_bool Try.underlying4 _), (trodAll_cons_mk (shut_int Try.underlying2 w0) trodAll_mk0), rfl, bel.frame _, fun h => by cases h⟩

theorem over : Rows.fnExactGeneratorFormRow.holds Try.pinned (OpenSpec.ofChange Rows.fnExactGeneratorFormSpec) :=
  OpenClaim.holds_of_wide 3 Try.f3 rfl rfl rfl rfl rfl rfl rfl ⟨rfl, rfl, rfl, rfl, rfl⟩ rfl rfl rfl rfl rfl (by kernel_rfl) Try.func3 (by kernel_rfl)
    (of_decide_eq_true (by kernel_rfl)) (by unfold Func.isWrapper; first | (rw [if_pos (by decide +kernel)]; kernel_rfl) | (rw [if_neg (by decide +kernel)]; exact ⟨rfl, rfl⟩))
    (fun os started H enc _ => lifted os started H enc)

theorem proved : Rows.FnExactGeneratorFormSaid := over
#print axioms proved
end Go.Proofs.Ytldlpeohdindaaa.fnExactGeneratorForm
end
