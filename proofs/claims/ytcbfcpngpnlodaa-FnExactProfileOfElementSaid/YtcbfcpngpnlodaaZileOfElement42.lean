/-
  Joined: QElS.
-/
import Derived.Test.YtcbfcpngpnlodaaZileOfElement41
import Derived.BigQuiet
import Derived.Deep.AppendLies
section
namespace Go.Proofs.Ytcbfcpngpnlodaa
open Go Go.RowKit
set_option linter.unusedVariables false
set_option maxRecDepth 100000

theorem pow_bl (x c : Nat) : (2 : Int) ^ c ≤ (x : Int) ↔ c < bl x := by
  have h1 := bl_lt x c
  have h3 : ((2 ^ c : Nat) : Int) = (2 : Int) ^ c := by simp
  omega
theorem cellN_eq {w : World} {g j : Nat} {z : Nat} (h : w.cell? ⟨g, j, none⟩ = some (.int .i64 (z : Int))) : cellN w g j = z := by
  unfold cellN
  rw [h]
  simp
theorem cellN_succ {w : World} {g j : Nat} {z : Nat} (h : w.cell? ⟨g, j, none⟩ = some (.int .i64 ((z : Int) + 1))) : cellN w g j = z + 1 := by
  unfold cellN
  rw [h]
  simp
theorem RowL.put {w : World} {B g L cap j c : Nat} {f : Nat → Int} (h : RowL w B g L cap (updF f j (c : Nat))) (hu : ∀ (c d : Nat), updF (updF f j (c : Nat)) j (d : Nat) = updF f j (d : Nat)) (hj : j < L) :
    RowL (w.setCell ⟨g, j, none⟩ (.int .i64 ((c : Int) + 1))) B g L cap (updF f j ((c + 1 : Nat) : Int)) ∧ cellN (w.setCell ⟨g, j, none⟩ (.int .i64 ((c : Int) + 1))) g j = c + 1 := by
  have e : ((c : Int) + 1) = ((c + 1 : Nat) : Int) := by omega
  rw [e]
  have h1 := h.set j ((c + 1 : Nat) : Int)
  rw [hu] at h1
  refine ⟨h1, cellN_eq ?_⟩
  rw [h1.cell j hj]
  congr 2
  exact if_pos rfl
theorem shl_wrap (s : Nat) (h : s ≤ 10) : wrap64 (2 ^ s) = 2 ^ s := by
  have h2 : (2 : Int) ^ s ≤ 2 ^ 10 := by exact_mod_cast Nat.pow_le_pow_right (by decide) h
  have h3 : (0 : Int) < 2 ^ s := by exact_mod_cast Nat.pow_pos (by decide)
  unfold wrap64
  generalize (2 : Int) ^ s = x at *
  omega
theorem wrap_one (c : Nat) (h : c ≤ 100) : wrap64 ((c : Int) + 1) = (c : Int) + 1 ∧ IntKind.i64.wrap ((c : Int) + 1) = (c : Int) + 1 := by
  constructor
  · unfold wrap64; omega
  · rw [IntKind.wrap_i64]; omega
theorem specEl_bad (a : Option Addr) (m cap : Nat) (w : World) (A : Hid (∀ wx, Below w.heap.size w wx → Calls Try.prog 67 #[.agg #[.slice a m cap]] wx (SaysB false wx))) :
    Calls Try.prog 50 #[.agg #[.slice a m cap]] w (ResI [] 1 w) := by
  have t2 := Try.underlying40
  have B0 : Hid (Below w.heap.size w (w.alloc (.cells #[.slice a m cap] 40))) := Lib.hid ((Below.refl w.heap.size w).alloc (Nat.le_refl _) _)
  go_enter Try.func50, Try.ntmps50
  go_wp2_with fail
  refine (A.out _ B0.out).mono ?_
  rintro e w' ⟨rfl, b2⟩
  have B2 := Lib.hid (B0.out.step1 b2)
  clear b2
  go_wp2_with fail
  go_ret2
  exact ⟨_, rfl, World.ownsRow_nil _ _ _ _, B2.out⟩

set_option maxHeartbeats 4000000 in
theorem specEl_ok (a : Option Addr) (m cap : Nat) (X : Nat → List Int) (w : World) (h : RdSS w (.slice a m cap) m X) (hok : okMl X m) (A : Hid (∀ wx, Below w.heap.size w wx → Calls Try.prog 67 #[.agg #[.slice a m cap]] wx (SaysB true wx))) :
    Calls Try.prog 50 #[.agg #[.slice a m cap]] w (ResI (trim (lstF (lenS X m) (supF X m))) 0 w) := by
  obtain ⟨i0, hi, hz0, hz1, hz2⟩ := info_parts Try.info2
  have t2 := Try.underlying40
  have B0 : Hid (Below w.heap.size w (w.alloc (.cells #[.slice a m cap] 40))) := Lib.hid ((Below.refl w.heap.size w).alloc (Nat.le_refl _) _)
  have BX : Hid (Box1 (w.alloc (.cells #[.slice a m cap] 40)) w.heap.size 40 (.slice a m cap)) := Lib.hid (Box1.new _ _ _)
  have hm2 : m ≤ 2000 := hok.1.1
  have HX : Hid (∀ i, i < m → okX (X i)) := Lib.hid (fun i hi => okX_of (hok.2 i hi).1)
  have HL : Hid (∀ i, i < m → (X i).length ≤ 10) := Lib.hid (fun i hi => (hok.2 i hi).1.1.1)
  have HR := Lib.hid h
  clear h hok
  go_enter Try.func50, Try.ntmps50
  go_wp2_with fail
  refine (A.out _ B0.out).mono ?_
  rintro e w2 ⟨rfl, b2⟩
  have B2 := Lib.hid (B0.out.step1 b2)
  have BX2 := Lib.hid (BX.out.up b2)
  have R2 := Lib.hid (HR.out.below B2.out)
  have HBOX : Hid (∀ wx, Below w2.heap.size w2 wx → wx.cell? ⟨w.heap.size, 0, none⟩ = some (.slice a m cap)) := Lib.hid (fun wx hb => (BX2.out.up hb).c)
  clear b2 B0 BX A BX2 HR
  go_wp2_with fail
  go_loopw [4, 5, 6] (fun v ci _ wr => ∃ i : Nat, i ≤ m ∧ ci = .int .i64 i ∧ Hid (ElR w2 X i 0 v wr)) (fun _ ci _ _ => m - (intOf ci).toNat)
  case atStart => exact ⟨0, by omega, rfl, Lib.hid ⟨World.ownsRow_lit w2 #[] 0 (Nat.le_refl _) (by decide) rfl, (Below.refl _ _).alloc (Nat.le_refl _) _⟩⟩
  case round =>
    obtain ⟨i, hi', rfl, hE⟩ := hrel
    have c1 := HBOX.out wr hE.out.bel
    by_cases him : i < m
    · have him' : (i : Int) < (m : Int) := by omega
      obtain ⟨_, hml, VS, hc, hr⟩ := R2.out
      obtain ⟨b, o, ⟨cap', e'⟩, hc2⟩ := hc.resolve_left (by omega)
      clear hc
      cases e'
      have hri := hr i him
      obtain ⟨xi, ci, eVi, hl, hcc⟩ := hri
      have hcell := hc2 i him
      rw [eVi] at hcell
      have KEEP : Hid (∀ wx, Below w2.heap.size w2 wx → wx.cell? ⟨w.heap.size, 0, none⟩ = some (.slice (some ⟨b, o, none⟩) m cap) ∧ wx.cell? ⟨b, o + i, none⟩ = some (.slice xi (X i).length ci)) :=
        Lib.hid (fun wx hb => ⟨HBOX.out wx hb, (hb.cell (p := ⟨b, o + i, none⟩) (World.block_lt_of_cell? w2 _ hcell)).trans hcell⟩)
      have KEEC : Hid (∀ j, j < (X i).length → ∃ bl ol, xi = some ⟨bl, ol, none⟩ ∧ ∀ wx, Below w2.heap.size w2 wx → wx.cell? ⟨bl, ol + j, none⟩ = some (.int .i64 ((X i)[j]?.getD 0))) := Lib.hid (fun j hj => by
        obtain ⟨bl, ol, rfl, hc3⟩ := hcc.resolve_left (by omega)
        exact ⟨bl, ol, rfl, fun wx hb => (hb.cell (p := ⟨bl, ol + j, none⟩) (World.block_lt_of_cell? w2 _ (hc3 j hj))).trans (hc3 j hj)⟩)
      have OKI := Lib.hid (HX.out i him)
      have HLI : Hid ((X i).length ≤ 10) := Lib.hid (HL.out i him)
      have HLS : Hid (lenS X i ≤ 10) := Lib.hid (lenS_le (fun k hk => HL.out k (by omega)))
      have HST := Lib.hid (fun t => supF_ten (X := X) (i := i) (fun k hk => HX.out k (by omega)) t)
      clear hc2 hr hcell eVi hcc hl hml
      go_wp2_with fail
      obtain ⟨wo, hwo⟩ : ∃ wo : World, wo = wr := ⟨_, rfl⟩
      subst hwo
      go_loopw [4, 6] (fun v cj wr => ∃ j : Nat, j ≤ (X i).length ∧ cj = .int .i64 j ∧ Hid (ElR w2 X i j v wr)) (fun _ cj _ => (X i).length - (intOf cj).toNat)
      case atStart => exact ⟨0, by omega, rfl, hE⟩
      case round =>
        clear hE c1
        obtain ⟨j, hj, rfl, hE⟩ := hrel
        obtain ⟨k1, k2⟩ := KEEP.out wr hE.out.bel
        by_cases hjn : j < (X i).length
        · have hjn' : (j : Int) < ((X i).length : Int) := by omega
          obtain ⟨bl0, ol, rfl, kc⟩ := KEEC.out j hjn
          have KC := Lib.hid kc
          clear kc
          have hx := OKI.out.2 j hjn
          dsimp only at hx
          obtain ⟨x, hxe⟩ := Int.eq_ofNat_of_zero_le hx.1
          have hx40 : x ≤ 40 := by omega
          have hbl : bl x ≤ 8 := bl_small (by omega)
          have f1 : supT X i j j = supF X i j := if_neg (Nat.lt_irrefl _)
          have hf0 := supF_nn X i j
          have hf8 := HST.out j
          rw [← f1] at hf0 hf8
          obtain ⟨fn, hfn⟩ := Int.eq_ofNat_of_zero_le hf0
          have hfn8 : fn ≤ 8 := by omega
          have hxx : (X i)[j]?.getD 0 = (x : Int) := hxe
          rw [hxx] at KC
          have NX : Hid (∀ L c v wz, lenT X i (j + 1) = L → c = max fn (bl x) → wz.ownsRow w2.heap.size 2 1 v L ((lstF L (updF (supT X i j) j (c : Nat))).map (Value.int .i64)) → Below w2.heap.size w2 wz → ElR w2 X i (j + 1) v wz) := Lib.hid (fun L c v wz hL hc ho hb => by
            subst hL
            rw [supT_next hjn (by rw [hfn, hxx, Int.toNat_natCast, hc]; omega)] at ho
            exact ⟨ho, hb⟩)
          have FJ : Hid (updF (supT X i j) j (fn : Nat) = supT X i j) := Lib.hid (by rw [← hfn]; exact updF_same _ _)
          have UP : Hid (∀ (c d : Nat), updF (updF (supT X i j) j (c : Nat)) j (d : Nat) = updF (supT X i j) j (d : Nat)) := Lib.hid (fun c d => updF_upd _ _ _ _)
          have UV : Hid (∀ c : Nat, updF (supT X i j) j (c : Nat) j = (c : Nat)) := Lib.hid (fun c => if_pos rfl)
          have OWN := Lib.hid hE.out.own
          have BEL := Lib.hid hE.out.bel
          have HLT : Hid (lenT X i j = max (lenS X i) j) := Lib.hid rfl
          have HLT1 : Hid (lenT X i (j + 1) = max (lenS X i) (j + 1)) := Lib.hid rfl
          have HFZ : Hid (lenS X i ≤ j → supT X i j j = 0) := Lib.hid (fun h => by rw [f1]; exact supF_far X i j h)
          obtain ⟨ov, oc, rfl, hmx⟩ := own_len OWN.out
          clear hx hxe f1 hf0 hf8 hE
          generalize lenT X i j = L at *
          generalize lenT X i (j + 1) = L1 at *
          generalize lenS X i = ls at *
          generalize supT X i j = f at *
          by_cases hjL : j = L
          · subst hjL
            have e1 : L1 = j + 1 := by have := HLT.out; have := HLT1.out; omega
            subst e1
            have hz : f j = 0 := HFZ.out (by have := HLT.out; omega)
            have ELN : Hid ((lstF j f).map (Value.int .i64) ++ [Value.int .i64 0] = (lstF (j + 1) f).map (Value.int .i64)) := Lib.hid (by rw [← lstF_succ j f, List.map_append, hz]; rfl)
            have hown := OWN.out
            have hsz := BEL.out.size
            have hj10 : j ≤ 10 := by have := HLI.out; omega
            have hjj : ((j : Int) == (j : Int)) = true := by simp
            go_wp2_with (at_builtin; refine wpList_append_own _ rfl _ _ 22 rfl w2.heap.size 2 i0 (.int .i64 0) 1 8 Try.underlying22 hi hz0 hz1 hz2 rfl (by decide) _ _ _ rfl (hown.alloc _) ⟨wr.heap.size, 0, none⟩ 1 1 [.int .i64 0] rfl rfl ?c1 ?c2 ?c3 ?c4 ?c5 ?_)
            case c1 =>
              intro j' u hj'
              match j', hj' with
              | 0, hj' => simp at hj'; subst hj'; simp [Addr.add]
            case c2 => intro u hu; simp at hu; subst hu; rfl
            case c3 => unfold maxLen; omega
            case c4 => omega
            case c5 => simp; omega
            intro v' wn hown' hgrow _
            have hb' : Below w2.heap.size w2 wn := (BEL.out.alloc hsz _).grown hgrow (by simp; omega) (fun k hk => (hown.lt k hk).1)
            rw [ELN.out] at hown'
            have hown'' : wn.ownsRow w2.heap.size 2 1 v' (j + 1) ((lstF (j + 1) f).map (Value.int .i64)) := hown'
            obtain ⟨g, oc', rfl, hg0, hg1⟩ := World.ownsRow.form hown'' (by omega)
            have ROW : Hid (RowL wn w2.heap.size g (j + 1) oc' (updF f j (fn : Nat))) := Lib.hid (by rw [FJ.out]; exact hown'')
            have BN := Lib.hid hb'
            have hjl1 : j < (j + 1) := by omega
            clear hown' hown'' hb' hgrow hown hsz OWN BEL k1 k2 hg1 ELN hz hj10 hjj
            go_wp2_with fail
            go_loopw [] (fun wz => ∃ c : Nat, fn ≤ c ∧ c ≤ max fn (bl x) ∧ Hid (RowL wz w2.heap.size g (j + 1) oc' (updF f j (c : Nat))) ∧ Hid (Below w2.heap.size w2 wz)) (fun wz => 64 - cellN wz g j)
            case atStart => exact ⟨fn, Nat.le_refl _, by omega, ROW, BN⟩
            case round =>
              clear ROW BN
              obtain ⟨c, hc1, hc2, hRow, hB⟩ := hrel
              rename World => wz
              obtain ⟨k1, k2⟩ := KEEP.out wz hB.out
              have k3 := KC.out wz hB.out
              have k4 := hRow.out.cell j hjl1
              rw [UV.out] at k4
              have k5 := World.ownsRow.frozenAt hRow.out j
              have hc10 : c ≤ 10 := by omega
              have hc100 : c ≤ 100 := by omega
              have HSH := Lib.hid (shl_at c hc10)
              have HSI := Lib.hid (shl_wrap c hc10)
              have HCN := Lib.hid (cellN_eq k4)
              have hpw := pow_bl x c
              by_cases hcx : c < bl x
              · have h4 : decide ((2 : Int) ^ c ≤ (x : Int)) = true := decide_eq_true (hpw.2 hcx)
                have h5 := hpw.2 hcx
                have HP := Lib.hid (hRow.out.put UP.out hjl1)
                have R3 : Hid (RowL (wz.setCell ⟨g, j, none⟩ (.int .i64 ((c : Int) + 1))) w2.heap.size g (j + 1) oc' (updF f j ((c + 1 : Nat) : Int))) := Lib.hid HP.out.1
                have C2 : Hid (cellN (wz.setCell ⟨g, j, none⟩ (.int .i64 ((c : Int) + 1))) g j = c + 1) := Lib.hid HP.out.2
                have B3 := Lib.hid (hB.out.setCell (p := ⟨g, j, none⟩) hg0 (.int .i64 ((c : Int) + 1)))
                have HW := Lib.hid (wrap_one c hc100)
                have HC : Hid (fn ≤ c + 1 ∧ c + 1 ≤ max fn (bl x) ∧ c < 60) := Lib.hid ⟨by omega, by omega, by omega⟩
                obtain ⟨p, hp⟩ : ∃ p, (2 : Int) ^ c = p := ⟨_, rfl⟩
                have hsi : wrap64 (2 ^ c) = p := HSI.out.trans hp
                have hsh := HSH.out.trans hp
                rw [hp] at h4 h5
                clear hp hpw HP hc1 hc2 hcx hbl hx40 hfn8 hfn hxx hc10 hc100
                go_wp2
                go_quiet (fail)
                obtain ⟨e1, e2⟩ := HW.out
                go_wp2_with fail
                go_roundw
                case rel => exact ⟨c + 1, HC.out.1, HC.out.2.1, R3, Lib.hid ⟨B3.out.os, B3.out.tape, B3.out.output, B3.out.size, B3.out.block⟩⟩
                case measure =>
                  have m1 := HCN.out
                  have m2 := C2.out
                  have m3 := HC.out.2.2
                  refine Nat.lt_of_lt_of_le (m := 64 - c) ?_ (by rw [m1]; exact Nat.le_refl _)
                  refine Nat.lt_of_le_of_lt (m := 64 - (c + 1)) (by rw [← m2]; exact Nat.le_refl _) (by omega)
              · have h4 : decide ((2 : Int) ^ c ≤ (x : Int)) = false := decide_eq_false (fun h => hcx (hpw.1 h))
                have h5 : ¬ (2 : Int) ^ c ≤ (x : Int) := fun h => hcx (hpw.1 h)
                have hj100 : j ≤ 100 := by have := HLI.out; omega
                have E2 := Lib.hid (NX.out (j + 1) c _ wz rfl (by omega) hRow.out hB.out)
                obtain ⟨p, hp⟩ : ∃ p, (2 : Int) ^ c = p := ⟨_, rfl⟩
                have hsi : wrap64 (2 ^ c) = p := HSI.out.trans hp
                have hsh := HSH.out.trans hp
                rw [hp] at h4 h5
                clear hp hpw hc1 hc2 hcx hbl hx40 hfn8 hfn hxx hc10 hc100
                go_wp2_with fail
                go_quiet (fail)
                go_wp2_with fail
                go_roundw
                case rel => exact ⟨j + 1, by omega, by go_num, Lib.hid ⟨E2.out.own, ⟨E2.out.bel.os, E2.out.bel.tape, E2.out.bel.output, E2.out.bel.size, E2.out.bel.block⟩⟩⟩
                case measure => simp [intOf]; omega
          · have e1 : L1 = L := by have := HLT.out; have := HLT1.out; omega
            have hjl1 : j < L1 := by have := HLT.out; omega
            have hjj : ((j : Int) == (L : Int)) = false := by rw [beq_eq_false_iff_ne]; omega
            subst e1
            obtain ⟨g, oc', e9, hg0, hg1⟩ := World.ownsRow.form OWN.out (by omega)
            cases e9
            have ROW : Hid (RowL wr w2.heap.size g L1 oc (updF f j (fn : Nat))) := Lib.hid (by rw [FJ.out]; exact OWN.out)
            have BN := BEL
            clear OWN BEL hg1
            go_wp2_with fail
            go_loopw [] (fun wz => ∃ c : Nat, fn ≤ c ∧ c ≤ max fn (bl x) ∧ Hid (RowL wz w2.heap.size g L1 oc (updF f j (c : Nat))) ∧ Hid (Below w2.heap.size w2 wz)) (fun wz => 64 - cellN wz g j)
            case atStart => exact ⟨fn, Nat.le_refl _, by omega, ROW, BN⟩
            case round =>
              clear ROW BN
              obtain ⟨c, hc1, hc2, hRow, hB⟩ := hrel
              rename World => wz
              obtain ⟨k1, k2⟩ := KEEP.out wz hB.out
              have k3 := KC.out wz hB.out
              have k4 := hRow.out.cell j hjl1
              rw [UV.out] at k4
              have k5 := World.ownsRow.frozenAt hRow.out j
              have hc10 : c ≤ 10 := by omega
              have hc100 : c ≤ 100 := by omega
              have HSH := Lib.hid (shl_at c hc10)
              have HSI := Lib.hid (shl_wrap c hc10)
              have HCN := Lib.hid (cellN_eq k4)
              have hpw := pow_bl x c
              by_cases hcx : c < bl x
              · have h4 : decide ((2 : Int) ^ c ≤ (x : Int)) = true := decide_eq_true (hpw.2 hcx)
                have h5 := hpw.2 hcx
                have HP := Lib.hid (hRow.out.put UP.out hjl1)
                have R3 : Hid (RowL (wz.setCell ⟨g, j, none⟩ (.int .i64 ((c : Int) + 1))) w2.heap.size g L1 oc (updF f j ((c + 1 : Nat) : Int))) := Lib.hid HP.out.1
                have C2 : Hid (cellN (wz.setCell ⟨g, j, none⟩ (.int .i64 ((c : Int) + 1))) g j = c + 1) := Lib.hid HP.out.2
                have B3 := Lib.hid (hB.out.setCell (p := ⟨g, j, none⟩) hg0 (.int .i64 ((c : Int) + 1)))
                have HW := Lib.hid (wrap_one c hc100)
                have HC : Hid (fn ≤ c + 1 ∧ c + 1 ≤ max fn (bl x) ∧ c < 60) := Lib.hid ⟨by omega, by omega, by omega⟩
                obtain ⟨p, hp⟩ : ∃ p, (2 : Int) ^ c = p := ⟨_, rfl⟩
                have hsi : wrap64 (2 ^ c) = p := HSI.out.trans hp
                have hsh := HSH.out.trans hp
                rw [hp] at h4 h5
                clear hp hpw HP hc1 hc2 hcx hbl hx40 hfn8 hfn hxx hc10 hc100
                go_wp2
                go_quiet (fail)
                obtain ⟨e1, e2⟩ := HW.out
                go_wp2_with fail
                go_roundw
                case rel => exact ⟨c + 1, HC.out.1, HC.out.2.1, R3, Lib.hid ⟨B3.out.os, B3.out.tape, B3.out.output, B3.out.size, B3.out.block⟩⟩
                case measure =>
                  have m1 := HCN.out
                  have m2 := C2.out
                  have m3 := HC.out.2.2
                  refine Nat.lt_of_lt_of_le (m := 64 - c) ?_ (by rw [m1]; exact Nat.le_refl _)
                  refine Nat.lt_of_le_of_lt (m := 64 - (c + 1)) (by rw [← m2]; exact Nat.le_refl _) (by omega)
              · have h4 : decide ((2 : Int) ^ c ≤ (x : Int)) = false := decide_eq_false (fun h => hcx (hpw.1 h))
                have h5 : ¬ (2 : Int) ^ c ≤ (x : Int) := fun h => hcx (hpw.1 h)
                have hj100 : j ≤ 100 := by have := HLI.out; omega
                have E2 := Lib.hid (NX.out L1 c _ wz rfl (by omega) hRow.out hB.out)
                obtain ⟨p, hp⟩ : ∃ p, (2 : Int) ^ c = p := ⟨_, rfl⟩
                have hsi : wrap64 (2 ^ c) = p := HSI.out.trans hp
                have hsh := HSH.out.trans hp
                rw [hp] at h4 h5
                clear hp hpw hc1 hc2 hcx hbl hx40 hfn8 hfn hxx hc10 hc100
                go_wp2_with fail
                go_quiet (fail)
                go_wp2_with fail
                go_roundw
                case rel => exact ⟨j + 1, by omega, by go_num, Lib.hid ⟨E2.out.own, ⟨E2.out.bel.os, E2.out.bel.tape, E2.out.bel.output, E2.out.bel.size, E2.out.bel.block⟩⟩⟩
                case measure => simp [intOf]; omega
        · have hjn' : ¬ (j : Int) < ((X i).length : Int) := by omega
          obtain rfl : j = (X i).length := by omega
          have E2 := Lib.hid hE.out.next
          go_wp2_with fail
          go_roundw
          case rel => exact ⟨i + 1, by omega, by go_num, E2⟩
          case measure => simp [intOf]; omega
    · have him' : ¬ (i : Int) < (m : Int) := by omega
      obtain rfl : i = m := by omega
      have HO := hE.out.own
      rw [lenT_zero, supT_zero] at HO
      have hl10 := lenS_le HL.out
      obtain ⟨l, hl⟩ : ∃ l, lstF (lenS X i) (supF X i) = l := ⟨_, rfl⟩
      have hll : l.length = lenS X i := by rw [← hl, lstF_len]
      rw [hl, ← hll] at HO
      have T := Lib.hid (l07Trim_any l w2.heap.size _ wr HO (by omega))
      have HB := Lib.hid hE.out.bel
      have HT : Hid (trim (lstF (lenS X i) (supF X i)) = trim l) := Lib.hid (by rw [hl])
      clear HO hE
      go_wp2_with fail
      refine T.out.mono ?_
      rintro e w' ⟨u, rfl, ho, hb⟩
      have F := Lib.hid (own_base ho (by have := HB.out.size; have := B2.out.size; omega : w.heap.size ≤ wr.heap.size))
      have FB := Lib.hid ((B2.out.step1 HB.out).step1 hb)
      go_wp2_with fail
      go_ret2
      rw [HT.out]
      exact ⟨u, rfl, F.out, FB.out⟩
end Go.Proofs.Ytcbfcpngpnlodaa
end
