/-
  The method closure of impl.profile: a machine of two labels.
-/
import Derived.Test.YtcbfcpngpnlodaaQClo
import Derived.Test.YtcbfcpngpnlodaaQJump
namespace Go.Proofs.Ytcbfcpngpnlodaa
open Go Go.RowKit
set_option linter.unusedVariables false
set_option maxRecDepth 100000

/-- The machine's memory. -/
structure MSt (w0 : World) (f : Nat → Int) (w : World) : Prop where
  bel : Below w0.heap.size w0 w
  a : ArAt w w0.heap.size f
  r : ArAt w (w0.heap.size + 1) zeroF
theorem MSt.up {w0 w w' : World} {f : Nat → Int} (h : MSt w0 f w) (k : Below w.heap.size w w') : MSt w0 f w' := ⟨h.bel.trans (k.mono h.bel.size), h.a.up k, h.r.up k⟩
theorem MSt.set {w0 w : World} {f : Nat → Int} (h : MSt w0 f w) (j : Nat) (hj : j < 16) (x : Int) : MSt w0 (updF f j x) (w.setCell ⟨w0.heap.size, j, none⟩ (.int .i64 x)) :=
  ⟨h.bel.setCell (p := ⟨w0.heap.size, j, none⟩) (Nat.le_refl _) _, h.a.set j hj x, h.r.other _ _ (by simp)⟩

/-- What is known of places that have been looked at, the one at hand too. -/
def Seen (f : Nat → Int) (I B : Nat) : Prop := ∀ a b, (a + b < I + B ∨ (a + b = I + B ∧ a ≤ I)) → reqF (at16 f) a b ≤ at16 f (a + b + 1)
/-- What closure answers. -/
def CloPost (f : Nat → Int) (w : World) (e : Ending) (w' : World) : Prop :=
  ∃ c b, e = .returned (.tuple #[.agg (arK c), .bool b]) ∧ Below w.heap.size w w' ∧ ((b = true ∧ CloOk f c) ∨ (b = false ∧ CloFail f ∧ c = zeroF))

/-- How far the machine is. -/
def mm (a : Act) : Nat := ((33 - intOf (a.tmps.getD 4 undef)) * 100 + (intOf (a.tmps.getD 4 undef) - intOf (a.tmps.getD 5 undef))).toNat
/-- At the label look. -/
def J1 (f : Nat → Int) (w : World) (K0 : Array Value) (a : Act) (wr : World) : Prop :=
  ∃ (f' : Nat → Int) (I B : Nat) (s4 s5 u6 u7 u8 u9 u10 u11 u12 u13 u14 u15 u16 u17 u18 u19 u20 u21 u22 u23 u24 u25 u26 u27 u28 u29 u30 u31 u32 u33 u34 u35 u36 u37 : Value), I + B ≤ 30 ∧ a = { tmps := #[.agg K0, .pointer (some ⟨w.heap.size, 0, none⟩), .pointer (some ⟨w.heap.size + 1, 0, none⟩), .bool false, s4, s5, u6, u7, u8, u9, u10, u11, u12, u13, u14, u15, u16, u17, u18, u19, u20, u21, u22, u23, u24, u25, u26, u27, u28, u29, u30, u31, u32, u33, u34, u35, u36, u37], defers := [] } ∧ s4 = .int .i64 ((I : Int) + (B : Int) + 2) ∧ s5 = .int .i64 ((I : Int) + 1) ∧ Hid (CInv f f' I B) ∧ Hid (MSt w f' wr)
/-- At the label next. -/
def J0 (f : Nat → Int) (w : World) (K0 : Array Value) (a : Act) (wr : World) : Prop :=
  ∃ (f' : Nat → Int) (I B : Nat) (s4 s5 u6 u7 u8 u9 u10 u11 u12 u13 u14 u15 u16 u17 u18 u19 u20 u21 u22 u23 u24 u25 u26 u27 u28 u29 u30 u31 u32 u33 u34 u35 u36 u37 : Value), I + B ≤ 30 ∧ a = { tmps := #[.agg K0, .pointer (some ⟨w.heap.size, 0, none⟩), .pointer (some ⟨w.heap.size + 1, 0, none⟩), .bool false, s4, s5, u6, u7, u8, u9, u10, u11, u12, u13, u14, u15, u16, u17, u18, u19, u20, u21, u22, u23, u24, u25, u26, u27, u28, u29, u30, u31, u32, u33, u34, u35, u36, u37], defers := [] } ∧ s4 = .int .i64 ((I : Int) + (B : Int) + 2) ∧ s5 = .int .i64 ((I : Int) + 1) ∧ Hid (CInv f f' I B) ∧ Hid (Seen f' I B) ∧ Hid (MSt w f' wr)

theorem results_ar_tmp {fn : Func} {p u : Tmp} (h : fn.results = #[.cell p 56, .tmp u]) (tmps : Array Value) (w : World) (g : Nat) (cs : Array Value) (fr : Nat × Nat)
    (hp : tmps.getD p undef = .pointer (some ⟨g, 0, none⟩)) (hg : w.heap[g]? = some (.cells cs 56 fr)) (hi : (Try.prog.info? 56).map (·.size) = some cs.size) :
    (results fn tmps).run Try.prog w = .ok (.tuple #[.agg cs, tmps.getD u undef]) w := by
  rw [results_cell_tmp h, hp]
  have := run_loadVar_row (P := Try.prog) w g 56 56 cs fr _ hg Try.underlying56 rfl hi
  show ((loadVar 56 ⟨g, 0, none⟩).run Try.prog w).andThen _ = _
  rw [this]
  rfl

set_option maxHeartbeats 4000000 in
theorem closure_any (f : Nat → Int) (hf : ∀ k, 0 ≤ at16 f k ∧ at16 f k ≤ 10) (w : World) : Calls Try.prog 59 #[.agg (arK f)] w (CloPost f w) := by
  obtain ⟨ws, hws⟩ : ∃ ws, ws = ((w.alloc (.cells (arK f) 56)).alloc (.cells (arK zeroF) 56)) := ⟨_, rfl⟩
  have M1 : Hid (MSt w f ws) := Lib.hid (by
    rw [hws]
    refine ⟨((Below.refl w.heap.size w).alloc (Nat.le_refl _) _).alloc (by simp) _, (ArAt.new w f).alloc _, ?_⟩
    have := ArAt.new (w.alloc (.cells (arK f) 56)) zeroF
    rw [World.size_alloc] at this
    exact this)
  have C1 : Hid (CInv f f 0 0) := Lib.hid (CInv.start hf)
  rw [arK_zero] at hws
  obtain ⟨K0, hK0⟩ : ∃ K0, arK f = K0 := ⟨_, rfl⟩
  rw [hK0] at hws ⊢
  clear hK0 hf
  go_enter Try.func59, Try.ntmps59
  go_wp2
  rw [← hws]
  clear hws
  refine wp_scope_two 0 1 (J0 f w K0) (J1 f w K0) (fun a _ => 2 * mm a) (fun a _ => 2 * mm a + 1) rfl rfl ?pass0 ?pass1 ?first
  case pass0 =>
    clear M1 C1
    rintro N a wr ⟨f', I, B, _, _, u6, u7, u8, u9, u10, u11, u12, u13, u14, u15, u16, u17, u18, u19, u20, u21, u22, u23, u24, u25, u26, u27, u28, u29, u30, u31, u32, u33, u34, u35, u36, u37, hIB, rfl, rfl, rfl, hc, hs, hm⟩ hN
    have hmm : mm { tmps := #[.agg K0, .pointer (some ⟨w.heap.size, 0, none⟩), .pointer (some ⟨w.heap.size + 1, 0, none⟩), .bool false, .int .i64 ((I : Int) + (B : Int) + 2), .int .i64 ((I : Int) + 1), u6, u7, u8, u9, u10, u11, u12, u13, u14, u15, u16, u17, u18, u19, u20, u21, u22, u23, u24, u25, u26, u27, u28, u29, u30, u31, u32, u33, u34, u35, u36, u37], defers := [] } = (31 - I - B) * 100 + (B + 1) := by simp [mm, intOf]; omega
    rw [hmm] at hN
    clear hmm
    cases B with
    | succ B =>
      have hlt : (I : Int) + 1 + 1 < (I : Int) + ((B + 1 : Nat) : Int) + 2 := by omega
      have C2 : Hid (CInv f f' (I + 1) B) := Lib.hid (hc.out.next hs.out)
      clear hc hs
      go_wp2_with fail
      go_step3
      refine .inr ⟨rfl, ⟨f', I + 1, B, _, _, _, _, _, _, _, _, _, _, _, _, _, _, _, _, _, _, _, _, _, _, _, _, _, _, _, _, _, _, _, _, _, _, by omega, rfl, by go_num, by go_num, C2, hm⟩, ?_⟩
      simp [mm, intOf]; omega
    | zero =>
      have hlt : ¬ (I : Int) + 1 + 1 < (I : Int) + ((0 : Nat) : Int) + 2 := by omega
      by_cases hI : I ≤ 29
      · have C2 : Hid (CInv f f' 0 (I + 1)) := Lib.hid (hc.out.wrap hs.out)
        have h32 : (I : Int) + ((0 : Nat) : Int) + 2 + 1 ≤ 32 := by omega
        clear hc hs
        go_wp2_with fail
        go_step3
        refine .inr ⟨rfl, ⟨f', 0, I + 1, _, _, _, _, _, _, _, _, _, _, _, _, _, _, _, _, _, _, _, _, _, _, _, _, _, _, _, _, _, _, _, _, _, _, by omega, rfl, by go_num, by go_num, C2, hm⟩, ?_⟩
        simp [mm, intOf]; omega
      · obtain rfl : I = 30 := by omega
        have CO := Lib.hid (hc.out.end hs.out)
        have h32 : ¬ ((30 : Nat) : Int) + ((0 : Nat) : Int) + 2 + 1 ≤ 32 := by omega
        have HR := Lib.hid hm.out.a.range
        have HO : Hid (wr.heap[w.heap.size + 1]? = some (.cells (arK zeroF) 56 (0, 0))) := Lib.hid hm.out.r
        have SZ := Lib.hid (sizeAr f')
        have S5 := Lib.hid (arK_size f')
        have S1 := Lib.hid (arK_one f')
        have SQ : Hid ((arK zeroF).size = (arK f').size) := Lib.hid (by rw [arK_size, arK_size])
        have BB := Lib.hid hm.out.bel
        obtain ⟨KF, hK⟩ : ∃ KF, arK f' = KF := ⟨_, rfl⟩
        rw [hK] at HR SZ S5 SQ S1
        have HK : Hid (.agg (arK f') = Value.agg KF) := Lib.hid (by rw [hK])
        clear hK hc hs hm
        go_wp2_with (first
          | (refine ldKQ rfl _ rfl w.heap.size 0 rfl KF HR.out S5.out ?_)
          | (refine wpList_store_row rfl 56 _ _ rfl (w.heap.size + 1) KF rfl rfl 56 _ HO.out SZ.out SQ.out S1.out ?_))
        refine bodyPost_ret (results_ar_tmp rfl _ _ (w.heap.size + 1) KF (0, 0) rfl (setRow_heap _ _ _ _ _ _ HO.out) SZ.out) rfl ?_
        exact ⟨f', true, by rw [HK.out]; rfl, below_setRow BB.out (by omega) _, .inl ⟨rfl, CO.out⟩⟩
  case pass1 =>
    clear M1 C1
    intro PASS
    have PASS0 := Lib.hid PASS
    clear PASS
    rintro N a wr ⟨f', I, B, _, _, u6, u7, u8, u9, u10, u11, u12, u13, u14, u15, u16, u17, u18, u19, u20, u21, u22, u23, u24, u25, u26, u27, u28, u29, u30, u31, u32, u33, u34, u35, u36, u37, hIB, rfl, rfl, rfl, hc, hm⟩ hN
    have hmm : mm { tmps := #[.agg K0, .pointer (some ⟨w.heap.size, 0, none⟩), .pointer (some ⟨w.heap.size + 1, 0, none⟩), .bool false, .int .i64 ((I : Int) + (B : Int) + 2), .int .i64 ((I : Int) + 1), u6, u7, u8, u9, u10, u11, u12, u13, u14, u15, u16, u17, u18, u19, u20, u21, u22, u23, u24, u25, u26, u27, u28, u29, u30, u31, u32, u33, u34, u35, u36, u37], defers := [] } = (31 - I - B) * 100 + (B + 1) := by simp [mm, intOf]; omega
    rw [hmm] at hN
    clear hmm
    have HN := Lib.hid hN
    have A1 : Hid (ArAt wr w.heap.size f') := Lib.hid hm.out.a
    have CA := Lib.hid (fun wx => at_any f' (I + B + 1) (by omega) wx)
    have CR := Lib.hid (fun wx => req_any f' I B (by omega) (by omega) hc.out.ten wx)
    have eN : ((I + B + 1 : Nat) : Int) + 1 = (I : Int) + (B : Int) + 2 := by omega
    rw [eN] at CA
    have R1 := Lib.hid (fun wx (hb : Below wr.heap.size wr wx) => (A1.out.up hb).range)
    have z1 : (Try.prog.info? 56).map (·.size) = some (arK f').toList.length := by rw [Array.length_toList]; exact sizeAr f'
    have tq := Try.underlying56
    have e1 : wrap64 ((I : Int) + (B : Int) + 2 - ((I : Int) + 1)) = (B : Int) + 1 := by unfold wrap64; omega
    have e2 : IntKind.i64.wrap ((I : Int) + (B : Int) + 2 - ((I : Int) + 1)) = (B : Int) + 1 := by rw [IntKind.wrap_i64]; omega
    have y0 : Below wr.heap.size wr wr.drew := (Below.refl _ _).drew
    have HE : Hid (req16 f' I B = reqF (at16 f') I B) := Lib.hid rfl
    have S5 := Lib.hid (arK_size f')
    rw [HE.out] at CR
    clear eN A1 hN
    have HX : Hid (at16 f' (I + B + 1) = at16 f' (I + B + 1)) := Lib.hid rfl
    obtain ⟨x, hx⟩ : ∃ x, at16 f' (I + B + 1) = x := ⟨_, rfl⟩
    obtain ⟨y, hy⟩ : ∃ y, reqF (at16 f') I B = y := ⟨_, rfl⟩
    rw [hx] at CA
    rw [hy] at CR
    have HXX := Lib.hid hx
    have HYY := Lib.hid hy
    clear hx hy HX HE
    generalize arK f' = KF at *
    refine wp_seq_k fun K hK => ?_
    have HK := Lib.hid hK
    clear hK
    refine wp_seq_k fun K2 hK2 => ?_
    have HK2 := Lib.hid hK2
    clear hK2
    by_cases hxy : y ≤ x
    · skip
      refine wp_region_noPanic ?_
      refine wp_region_held_drew (S := fun wx => wx.rangeAt w.heap.size 0 KF.toList ∧ Below wr.heap.size wr wx) (by kernel_rfl) ⟨R1.out _ y0, y0⟩ (fun hHeld => ?_)
      refine wpAnyH_take (i := 0) (v := _) rfl (by kernel_rfl) (by kernel_rfl) (by kernel_rfl) (fun _ _ _ h => h) (yieldsIf_load_mid (by rfl) _ _ rfl _ _ rfl KF.toList _ (fun wx hw => hw.1) tq rfl z1) hHeld ?_
      simp only [List.getElem_toArray, List.getElem_cons_zero, Act.put, List.setIfInBounds_toArray, List.set_cons_zero, List.set_cons_succ]
      refine wpAnyH_take (i := 3) (v := _) rfl (by kernel_rfl) (by kernel_rfl) (by kernel_rfl) (fun _ _ _ h => h) (yieldsIf_load_mid (by rfl) _ _ rfl _ _ rfl KF.toList _ (fun wx hw => hw.1) tq rfl z1) hHeld ?_
      simp only [List.getElem_toArray, List.getElem_cons_zero, List.getElem_cons_succ, Act.put, List.setIfInBounds_toArray, List.set_cons_zero, List.set_cons_succ]
      refine wpAnyH_take (i := 1) (v := ?_) rfl (by kernel_rfl) (by kernel_rfl) (by kernel_rfl) (fun _ _ _ h => h) (Or.inl ⟨by rfl, ?_⟩) hHeld ?_
      rotate_left
      · intro wx hw
        go_simp
        try with_reducible rfl
      simp only [List.getElem_toArray, List.getElem_cons_zero, List.getElem_cons_succ, Act.put, List.setIfInBounds_toArray, List.set_cons_zero, List.set_cons_succ]
      refine wpAnyH_take (i := 4) (v := ?_) rfl (by kernel_rfl) (by kernel_rfl) (by kernel_rfl) (fun _ _ _ h => h) (Or.inl ⟨by rfl, ?_⟩) hHeld ?_
      rotate_left
      · intro wx hw
        go_simp
        try with_reducible rfl
      simp only [List.getElem_toArray, List.getElem_cons_zero, List.getElem_cons_succ, Act.put, List.setIfInBounds_toArray, List.set_cons_zero, List.set_cons_succ]
      refine wpAnyH_take (i := 5) (v := ?_) rfl (by kernel_rfl) (by kernel_rfl) (by kernel_rfl) (fun _ _ _ h => h) (Or.inl ⟨by rfl, ?_⟩) hHeld ?_
      rotate_left
      · intro wx hw
        go_simp
        try with_reducible rfl
      simp only [List.getElem_toArray, List.getElem_cons_zero, List.getElem_cons_succ, Act.put, List.setIfInBounds_toArray, List.set_cons_zero, List.set_cons_succ]
      refine wpAnyH_take (i := 6) (v := ?_) rfl (by kernel_rfl) (by kernel_rfl) (by kernel_rfl) (fun _ _ _ h => h) (Or.inl ⟨by rfl, ?_⟩) hHeld ?_
      rotate_left
      · intro wx hw
        go_simp
        try with_reducible rfl
      simp only [List.getElem_toArray, List.getElem_cons_zero, List.getElem_cons_succ, Act.put, List.setIfInBounds_toArray, List.set_cons_zero, List.set_cons_succ]
      refine wpAnyH_take (i := 7) (v := ?_) rfl (by kernel_rfl) (by kernel_rfl) (by kernel_rfl) (fun _ _ _ h => h) (Or.inl ⟨by rfl, ?_⟩) hHeld ?_
      rotate_left
      · intro wx hw
        go_simp
        try with_reducible rfl
      simp only [List.getElem_toArray, List.getElem_cons_zero, List.getElem_cons_succ, Act.put, List.setIfInBounds_toArray, List.set_cons_zero, List.set_cons_succ]
      refine wpAnyH_ready (rs := [2]) (by kernel_rfl) (by simp) ?_
      refine AllReadyH.cons rfl (fun K hK => ?_) AllReadyH.nil
      go_simp
      go_at_call 86
      refine (CA.out _).mono ?_
      rintro e wa ⟨rfl, ba⟩
      have y1 : Below wr.heap.size wr wa := below_one y0 ba
      refine hK.out _ _ ⟨R1.out _ y1, y1⟩ (fun hHeld => ?_)
      clear hK K
      refine wpAnyH_ready (rs := [8]) (by kernel_rfl) (by simp) ?_
      refine AllReadyH.cons rfl (fun K hK => ?_) AllReadyH.nil
      go_simp
      go_at_call 87
      refine (CR.out _).mono ?_
      rintro e wb ⟨rfl, bb⟩
      have y2 : Below wr.heap.size wr wb := below_one y1 bb
      refine hK.out _ _ ⟨R1.out _ y2, y2⟩ (fun hHeld => ?_)
      clear hK K
      refine wpAnyH_take (i := 9) (v := ?_) rfl (by kernel_rfl) (by kernel_rfl) (by kernel_rfl) (fun _ _ _ h => h) (Or.inl ⟨by rfl, ?_⟩) hHeld ?_
      rotate_left
      · intro wx hw
        go_simp
        try with_reducible rfl
      simp only [List.getElem_toArray, List.getElem_cons_zero, List.getElem_cons_succ, Act.put, List.setIfInBounds_toArray, List.set_cons_zero, List.set_cons_succ]
      refine wpAnyH_done (by kernel_rfl) (NoPanic.normal ?_) _
      refine HK2.out _ _ ?_
      go_wp2_with fail
      go_step3
      refine .inl ⟨rfl, ⟨f', I, B, _, _, _, _, _, _, _, _, _, _, _, _, _, _, _, _, _, _, _, _, _, _, _, _, _, _, _, _, _, _, _, _, _, _, hIB, rfl, by go_num, by go_num, hc, Lib.hid (hc.out.keep (by rw [HYY.out, HXX.out]; exact hxy)), Lib.hid (hm.out.up y2)⟩, ?_⟩
      have := HN.out
      simp [mm, intOf]; omega
    · have hlt : x < y := by omega
      refine wp_region_noPanic ?_
      refine wp_region_held_drew (S := fun wx => wx.rangeAt w.heap.size 0 KF.toList ∧ Below wr.heap.size wr wx) (by kernel_rfl) ⟨R1.out _ y0, y0⟩ (fun hHeld => ?_)
      refine wpAnyH_take (i := 0) (v := _) rfl (by kernel_rfl) (by kernel_rfl) (by kernel_rfl) (fun _ _ _ h => h) (yieldsIf_load_mid (by rfl) _ _ rfl _ _ rfl KF.toList _ (fun wx hw => hw.1) tq rfl z1) hHeld ?_
      simp only [List.getElem_toArray, List.getElem_cons_zero, Act.put, List.setIfInBounds_toArray, List.set_cons_zero, List.set_cons_succ]
      refine wpAnyH_take (i := 3) (v := _) rfl (by kernel_rfl) (by kernel_rfl) (by kernel_rfl) (fun _ _ _ h => h) (yieldsIf_load_mid (by rfl) _ _ rfl _ _ rfl KF.toList _ (fun wx hw => hw.1) tq rfl z1) hHeld ?_
      simp only [List.getElem_toArray, List.getElem_cons_zero, List.getElem_cons_succ, Act.put, List.setIfInBounds_toArray, List.set_cons_zero, List.set_cons_succ]
      refine wpAnyH_take (i := 1) (v := ?_) rfl (by kernel_rfl) (by kernel_rfl) (by kernel_rfl) (fun _ _ _ h => h) (Or.inl ⟨by rfl, ?_⟩) hHeld ?_
      rotate_left
      · intro wx hw
        go_simp
        try with_reducible rfl
      simp only [List.getElem_toArray, List.getElem_cons_zero, List.getElem_cons_succ, Act.put, List.setIfInBounds_toArray, List.set_cons_zero, List.set_cons_succ]
      refine wpAnyH_take (i := 4) (v := ?_) rfl (by kernel_rfl) (by kernel_rfl) (by kernel_rfl) (fun _ _ _ h => h) (Or.inl ⟨by rfl, ?_⟩) hHeld ?_
      rotate_left
      · intro wx hw
        go_simp
        try with_reducible rfl
      simp only [List.getElem_toArray, List.getElem_cons_zero, List.getElem_cons_succ, Act.put, List.setIfInBounds_toArray, List.set_cons_zero, List.set_cons_succ]
      refine wpAnyH_take (i := 5) (v := ?_) rfl (by kernel_rfl) (by kernel_rfl) (by kernel_rfl) (fun _ _ _ h => h) (Or.inl ⟨by rfl, ?_⟩) hHeld ?_
      rotate_left
      · intro wx hw
        go_simp
        try with_reducible rfl
      simp only [List.getElem_toArray, List.getElem_cons_zero, List.getElem_cons_succ, Act.put, List.setIfInBounds_toArray, List.set_cons_zero, List.set_cons_succ]
      refine wpAnyH_take (i := 6) (v := ?_) rfl (by kernel_rfl) (by kernel_rfl) (by kernel_rfl) (fun _ _ _ h => h) (Or.inl ⟨by rfl, ?_⟩) hHeld ?_
      rotate_left
      · intro wx hw
        go_simp
        try with_reducible rfl
      simp only [List.getElem_toArray, List.getElem_cons_zero, List.getElem_cons_succ, Act.put, List.setIfInBounds_toArray, List.set_cons_zero, List.set_cons_succ]
      refine wpAnyH_take (i := 7) (v := ?_) rfl (by kernel_rfl) (by kernel_rfl) (by kernel_rfl) (fun _ _ _ h => h) (Or.inl ⟨by rfl, ?_⟩) hHeld ?_
      rotate_left
      · intro wx hw
        go_simp
        try with_reducible rfl
      simp only [List.getElem_toArray, List.getElem_cons_zero, List.getElem_cons_succ, Act.put, List.setIfInBounds_toArray, List.set_cons_zero, List.set_cons_succ]
      refine wpAnyH_ready (rs := [2]) (by kernel_rfl) (by simp) ?_
      refine AllReadyH.cons rfl (fun K hK => ?_) AllReadyH.nil
      go_simp
      go_at_call 86
      refine (CA.out _).mono ?_
      rintro e wa ⟨rfl, ba⟩
      have y1 : Below wr.heap.size wr wa := below_one y0 ba
      refine hK.out _ _ ⟨R1.out _ y1, y1⟩ (fun hHeld => ?_)
      clear hK K
      refine wpAnyH_ready (rs := [8]) (by kernel_rfl) (by simp) ?_
      refine AllReadyH.cons rfl (fun K hK => ?_) AllReadyH.nil
      go_simp
      go_at_call 87
      refine (CR.out _).mono ?_
      rintro e wb ⟨rfl, bb⟩
      have y2 : Below wr.heap.size wr wb := below_one y1 bb
      refine hK.out _ _ ⟨R1.out _ y2, y2⟩ (fun hHeld => ?_)
      clear hK K
      refine wpAnyH_take (i := 9) (v := ?_) rfl (by kernel_rfl) (by kernel_rfl) (by kernel_rfl) (fun _ _ _ h => h) (Or.inl ⟨by rfl, ?_⟩) hHeld ?_
      rotate_left
      · intro wx hw
        go_simp
        try with_reducible rfl
      simp only [List.getElem_toArray, List.getElem_cons_zero, List.getElem_cons_succ, Act.put, List.setIfInBounds_toArray, List.set_cons_zero, List.set_cons_succ]
      refine wpAnyH_done (by kernel_rfl) (NoPanic.normal ?_) _
      refine HK2.out _ _ ?_
      go_wp2_with fail
      refine HK.out _ _ ?_
      have M2 := Lib.hid (hm.out.up y2)
      by_cases h16 : I + B + 1 < 16
      · have h16' : ¬ (16 : Int) < (I : Int) + (B : Int) + 2 := by omega
        have HR := Lib.hid (R1.out _ y2)
        have RA := hc.out.raise (by rw [HYY.out, HXX.out]; exact hlt) h16
        rw [HYY.out] at RA
        have RA1 := Lib.hid RA.1
        have RA2 : Hid (Seen (updF f' (I + B + 1) y) I B) := Lib.hid RA.2
        clear RA hc hm HXX HYY
        go_wp2_with (refine ldKQ rfl _ rfl w.heap.size 0 rfl KF HR.out S5.out ?_)
        refine (CR.out _).mono ?_
        rintro e wc ⟨rfl, bc⟩
        have M3 := Lib.hid (M2.out.up bc)
        have c1 := M3.out.a.cell (I + B + 1) h16
        have f1 := M3.out.a.fr (I + B + 1)
        have M4 := Lib.hid (M3.out.set (I + B + 1) h16 y)
        clear M2 M3 HR bc
        generalize f' (I + B + 1) = old at c1
        go_wp2_with fail
        rename_i K3 hK3
        refine wp_label (hK3 _ _ ?_)
        refine PASS0.out N _ _ ⟨updF f' (I + B + 1) y, I, B, _, _, _, _, _, _, _, _, _, _, _, _, _, _, _, _, _, _, _, _, _, _, _, _, _, _, _, _, _, _, _, _, _, _, hIB, rfl, by go_num, by go_num, RA1, RA2, M4⟩ ?_
        have := HN.out
        simp [mm, intOf]; omega
      · have h16' : (16 : Int) < (I : Int) + (B : Int) + 2 := by omega
        have FA : Hid (CloFail f) := Lib.hid (hc.out.fail (by rw [HYY.out, HXX.out]; exact hlt) (by omega))
        have HO : Hid (wb.heap[w.heap.size + 1]? = some (.cells (arK zeroF) 56 (0, 0))) := Lib.hid M2.out.r
        have SZ := Lib.hid (sizeAr zeroF)
        have S1 := Lib.hid (arK_one zeroF)
        have SQ : Hid ((arK zeroF).size = (arK zeroF).size) := Lib.hid rfl
        have BB := Lib.hid M2.out.bel
        clear M2 hc hm HXX HYY
        go_wp2_with (refine wpList_store_row rfl 56 _ _ rfl (w.heap.size + 1) (arK zeroF) rfl rfl 56 _ HO.out SZ.out SQ.out S1.out ?_)
        refine bodyPost_ret (results_ar_tmp rfl _ _ (w.heap.size + 1) (arK zeroF) (0, 0) rfl (setRow_heap _ _ _ _ _ _ HO.out) SZ.out) rfl ?_
        exact ⟨zeroF, false, rfl, below_setRow BB.out (by omega) _, .inr ⟨rfl, FA.out, rfl⟩⟩
  case first =>
    intro FIRST
    have FI := Lib.hid FIRST
    clear FIRST
    go_wp2_with fail
    rename_i K3 hK3
    refine wp_label (hK3 _ _ ?_)
    exact FI.out _ _ ⟨f, 0, 0, _, _, _, _, _, _, _, _, _, _, _, _, _, _, _, _, _, _, _, _, _, _, _, _, _, _, _, _, _, _, _, _, _, _, by omega, rfl, by go_num, by go_num, C1, M1⟩
end Go.Proofs.Ytcbfcpngpnlodaa
