/-
  ClosureOfProfile on both sides.
-/
import Derived.Test.YtcbfcpngpnlodaaQClsW
import Derived.Test.YtcbfcpngpnlodaaQIscB
namespace Go.Proofs.Ytcbfcpngpnlodaa
open Go.RowKit
set_option linter.unusedVariables false
set_option maxRecDepth 100000

theorem specCls_ok (v : Value) (n : Nat) (G : Nat → Int) (w : World) (h : RdI w v n G) (hok : okPr G n) (zs : List Int) (c : Int)
    (hz : ∀ F, SInv (padF n G) F → ClosedN 26 F → ((trim (lstF 26 F)).length ≤ 16 ∧ zs = trim (lstF 26 F) ∧ c = 0) ∨ (16 < (trim (lstF 26 F)).length ∧ zs = [] ∧ c = 3)) :
    Calls Try.prog 26 #[v] w (ResI zs c w) := by
  have A := Lib.hid (l07Is_yes v n G w h hok)
  have B := Lib.hid (l07Closure_any v n G w h hok)
  have HU := Lib.hid hz
  clear h hok hz
  go_enter Try.func26, Try.ntmps26
  go_wp2_with fail
  refine A.out.mono ?_
  rintro e w' ⟨rfl, rfl⟩
  go_wp2_with fail
  refine B.out.mono ?_
  rintro e w1 ⟨F, u, rfl, s1, s2, o1, b1⟩
  have HZ := Lib.hid (HU.out F s1 s2)
  clear s1 s2 HU
  obtain ⟨l, hl⟩ : ∃ l, trim (lstF 26 F) = l := ⟨_, rfl⟩
  rw [hl] at o1 HZ
  clear hl
  obtain ⟨ua, uc, rfl⟩ : ∃ a c, u = .slice a l.length c := by
    rcases o1.2 with ⟨rfl, h0⟩ | ⟨g, cap, cur, rfl, _⟩
    · exact ⟨none, 0, by rw [h0]⟩
    · exact ⟨_, cap, rfl⟩
  have O1 := Lib.hid o1
  clear o1
  by_cases h16 : (16 : Int) < (l.length : Int)
  · have E : Hid (zs = [] ∧ c = 3) := Lib.hid (by
      rcases HZ.out with ⟨h1, _⟩ | ⟨_, h2, h3⟩
      · omega
      · exact ⟨h2, h3⟩)
    clear HZ
    go_wp2_with fail
    go_ret2
    exact ⟨_, by rw [E.out.2]; rfl, by rw [E.out.1]; exact World.ownsRow_nil _ _ _ _, b1⟩
  · have E : Hid (zs = l ∧ c = 0) := Lib.hid (by
      rcases HZ.out with ⟨_, h2, h3⟩ | ⟨h1, _⟩
      · exact ⟨h2, h3⟩
      · omega)
    clear HZ
    go_wp2_with fail
    go_ret2
    exact ⟨_, by rw [E.out.2]; rfl, by rw [E.out.1]; exact O1.out, b1⟩
theorem specCls_no (v : Value) (n : Nat) (G : Nat → Int) (w : World) (h : RdI w v n G) (hok : ¬ okPr G n) :
    Calls Try.prog 26 #[v] w (ResI [] 1 w) := by
  have A := Lib.hid (l07Is_no v n G w h hok)
  clear h hok
  go_enter Try.func26, Try.ntmps26
  go_wp2_with fail
  refine A.out.mono ?_
  rintro e w' ⟨rfl, rfl⟩
  go_wp2_with fail
  go_ret2
  exact ⟨_, rfl, World.ownsRow_nil _ _ _ _, Below.refl _ _⟩
theorem implCls_no (v : Value) (n : Nat) (G : Nat → Int) (w : World) (h : RdI w v n G) (hok : ¬ okPr G n) :
    Calls Try.prog 27 #[v] w (ResI [] 1 w) := by
  have A := Lib.hid (implIsPr_no v n G w h hok)
  clear h hok
  go_enter Try.func27, Try.ntmps27
  go_wp2_with fail
  refine A.out.mono ?_
  rintro e w' ⟨rfl, rfl⟩
  go_wp2_with fail
  go_ret2
  exact ⟨_, rfl, World.ownsRow_nil _ _ _ _, Below.refl _ _⟩
set_option maxHeartbeats 1000000 in
theorem implCls_ok (v : Value) (n : Nat) (G : Nat → Int) (w : World) (h : RdI w v n G) (hok : okPr G n) (zs : List Int) (cd : Int)
    (hy : ∀ c, CloOk (padF n G) c → zs = trim (arL c) ∧ cd = 0) (hf : CloFail (padF n G) → zs = [] ∧ cd = 3) :
    Calls Try.prog 27 #[v] w (ResI zs cd w) := by
  have A := Lib.hid (implIsPr_yes v n G w h hok)
  have P := Lib.hid (profileOf_any v n G w h hok.1)
  have CL := Lib.hid (fun wx => closure_any (padF n G) (pad_ten hok) wx)
  have HY := Lib.hid hy
  have HF := Lib.hid hf
  clear h hok hy hf
  go_enter Try.func27, Try.ntmps27
  go_wp2_with fail
  refine A.out.mono ?_
  rintro e w' ⟨rfl, rfl⟩
  go_wp2_with fail
  refine P.out.mono ?_
  rintro e w1 ⟨rfl, b1⟩
  go_wp2_with fail
  refine (CL.out _).mono ?_
  rintro e w2 ⟨c, b, rfl, b2, hpost⟩
  have B2 := Lib.hid (below_one b1 b2)
  have HP := Lib.hid hpost
  have C5 := Lib.hid (arK_size c)
  have C1 := Lib.hid (arK_one c)
  have AC : Hid (ArAt (w2.alloc (.cells (arK c) 56)) w2.heap.size c) := Lib.hid (ArAt.new w2 c)
  have B3 : Hid (Below w.heap.size w (w2.alloc (.cells (arK c) 56))) := Lib.hid (B2.out.alloc B2.out.size _)
  have HRC := Lib.hid AC.out.range
  have NU := Lib.hid (fun wx => numbers_any c wx)
  obtain ⟨KC, hKC⟩ : ∃ KC, arK c = KC := ⟨_, rfl⟩
  rw [hKC] at HRC C5 C1 B3 NU ⊢
  clear hKC hpost b1 b2 AC CL A P B2
  cases b with
  | true =>
    obtain ⟨_, hok⟩ | ⟨h0, _⟩ := HP.out
    · obtain ⟨e1, e2⟩ := HY.out c hok
      rw [← e1] at NU
      have E2 := Lib.hid e2
      clear e1 e2 HP HY HF hok
      go_wp2_with (first
        | (refine stKQ w2 rfl _ _ rfl rfl KC rfl C5.out C1.out ?_)
        | (refine ldKQ rfl _ rfl w2.heap.size 0 rfl KC HRC.out C5.out ?_))
      refine (NU.out _).mono ?_
      rintro e w4 ⟨x, rfl, ho, b4⟩
      have B4 := Lib.hid (below_one B3.out b4)
      have O4 := Lib.hid (own_base ho B3.out.size)
      clear b4 ho
      go_wp2_with fail
      go_ret2
      exact ⟨x, by rw [E2.out]; rfl, O4.out, B4.out⟩
    · cases h0
  | false =>
    obtain ⟨h0, _⟩ | ⟨_, hfail, _⟩ := HP.out
    · cases h0
    · obtain ⟨e1, e2⟩ := HF.out hfail
      have E1 := Lib.hid e1
      have E2 := Lib.hid e2
      clear e1 e2 HP HY HF hfail NU
      go_wp2_with (refine stKQ w2 rfl _ _ rfl rfl KC rfl C5.out C1.out ?_)
      go_ret2
      exact ⟨_, by rw [E2.out]; rfl, by rw [E1.out]; exact World.ownsRow_nil _ _ _ _, B3.out⟩

/-- A closure of the sweeps that ends in time is the machine's. -/
theorem clo_of_sweep {n : Nat} {G F : Nat → Int} (hok : okPr G n) (h1 : SInv (padF n G) F) (h2 : ClosedN 26 F) (h3 : ∀ k, 16 ≤ k → k < 26 → F k = 0) : CloOk (padF n G) F := by
  have e : ∀ i, at16 (padF n G) i = padF n G i := at16_pad n G hok.1
  have eF : ∀ k, k < 26 → at16 F k = F k := fun k hk => by
    by_cases h : k < 16
    · exact if_pos h
    · rw [at16_past F (by omega), h3 k (by omega) hk]
  have ten : ∀ k, 0 ≤ at16 F k ∧ at16 F k ≤ 10 := fun k => by
    by_cases h : k < 16
    · rw [eF k (by omega)]; exact h1.ten k (by omega)
    · rw [at16_past F (by omega)]; omega
  refine ⟨fun k => ?_, ten, fun g hg hc k hk => ?_, fun a b hab => ?_⟩
  · by_cases h : k < 16
    · rw [e k, eF k (by omega)]; exact h1.lo k (by omega)
    · rw [at16_past _ (by omega), at16_past _ (by omega)]; omega
  · rw [eF k (by omega)]
    have := h1.low (fun i => if i < 16 then min (g i) 10 else 10) (fun i hi => ?_) (fun a b hab => ?_) k (by omega)
    · simp only [if_pos hk] at this
      omega
    · have t := padF_nonneg hok i
      by_cases h : i < 16
      · have := hg i h
        rw [e i] at this
        simp only [if_pos h]
        omega
      · simp only [if_neg h]
        omega
    · unfold reqF
      dsimp only
      by_cases h : a + b + 1 < 16
      · have := hc a b h
        unfold reqF at this
        rw [if_pos h, if_pos (by omega), if_pos (by omega)]
        omega
      · rw [if_neg h]
        split <;> split <;> omega
  · by_cases h26 : a + b + 1 < 26
    · have := h2 a b h26
      unfold reqF at *
      rw [eF a (by omega), eF b (by omega), eF _ h26]
      exact this
    · have t1 := ten a
      have t2 := ten b
      have t3 := ten (a + b + 1)
      unfold reqF
      by_cases ha : a < 16
      · omega
      · have := at16_past F (show 16 ≤ a by omega)
        omega
theorem trimTo_pos (l : List Int) (k : Nat) (h : l[k]?.getD 0 ≠ 0) : ∀ j, j ≤ l.length → k < j → k < (trimTo l j).length
  | 0, _, hk => by omega
  | j + 1, hj, hk => by
    unfold trimTo
    by_cases e : k = j
    · subst e
      rw [if_neg h, List.length_take]
      omega
    · split
      · exact trimTo_pos l k h j (by omega) (by omega)
      · rw [List.length_take]; omega
theorem clo_unique {f c c' : Nat → Int} (h : CloOk f c) (h' : CloOk f c') (k : Nat) (hk : k < 16) : c k = c' k := by
  have h1 := h.low (at16 c') (fun i _ => h'.lo i) (h'.closed.less (by omega)) k hk
  have h2 := h'.low (at16 c) (fun i _ => h.lo i) (h.closed.less (by omega)) k hk
  unfold at16 at h1 h2
  rw [if_pos hk, if_pos hk] at h1 h2
  omega
theorem clo_fail_not {f c : Nat → Int} (h : CloOk f c) : ¬ CloFail f := fun ⟨a, b, h1, h2, h3⟩ => by
  have h4 := h3 (at16 c) (fun i _ => h.lo i) (h.closed.less (by omega))
  have h5 := h.closed a b (by omega)
  rw [at16_past c h1] at h5
  omega

theorem ClosureOfProfile_both (n : Nat) (G : Nat → Int) (hb : ∀ i, -9223372036854775808 ≤ G i ∧ G i ≤ 9223372036854775807) : ∃ (zs : List Int) (c : Int), zs.length ≤ 1048576 ∧
    (∀ v w, RdI w v n G → Calls Try.prog 26 #[v] w (ResI zs c w)) ∧
    (∀ v w, RdI w v n G → Calls Try.prog 27 #[v] w (ResI zs c w)) := by
  by_cases hok : okPr G n
  · by_cases hE : ∃ c, CloOk (padF n G) c
    · obtain ⟨c, hc⟩ := hE
      refine ⟨trim (arL c), 0, ?_, fun v w h => specCls_ok v n G w h hok _ _ (fun F s1 s2 => .inl ?_), fun v w h => implCls_ok v n G w h hok _ _ (fun c' hc' => ⟨?_, rfl⟩) (fun hf => absurd hf (clo_fail_not hc))⟩
      · have := trim_len (arL c); rw [arL_len] at this; omega
      · have e1 : lstF 26 F = lstF 26 (at16 c) := List.map_congr_left fun k hk => clo_same hok.1 hc s1 s2 k (List.mem_range.1 hk)
        have e2 : trim (lstF 26 (at16 c)) = trim (arL c) := by
          have := trim_zeros (at16 c) 16 (fun k hk => at16_past c hk) 10
          unfold lstF arL
          rw [this]
          exact congrArg trim (List.map_congr_left fun k hk => if_pos (List.mem_range.1 hk))
        rw [e1, e2]
        refine ⟨?_, rfl, rfl⟩
        have := trim_len (arL c); rw [arL_len] at this; exact this
      · rw [arL_congr (clo_unique hc hc')]
    · refine ⟨[], 3, by decide, fun v w h => specCls_ok v n G w h hok _ _ (fun F s1 s2 => .inr ⟨?_, rfl, rfl⟩), fun v w h => implCls_ok v n G w h hok _ _ (fun c' hc' => absurd ⟨c', hc'⟩ hE) (fun _ => ⟨rfl, rfl⟩)⟩
      apply Decidable.byContradiction
      intro hl
      refine hE ⟨F, clo_of_sweep hok s1 s2 fun k h1 h2 => ?_⟩
      apply Decidable.byContradiction
      intro hne
      have := trimTo_pos (lstF 26 F) k (by rw [lstF_at 26 F k h2]; exact hne) 26 (by rw [lstF_len]; omega) h2
      unfold trim at hl
      rw [lstF_len] at hl
      omega
  · exact ⟨[], 1, by decide, fun v w h => specCls_no v n G w h hok, fun v w h => implCls_no v n G w h hok⟩
end Go.Proofs.Ytcbfcpngpnlodaa
