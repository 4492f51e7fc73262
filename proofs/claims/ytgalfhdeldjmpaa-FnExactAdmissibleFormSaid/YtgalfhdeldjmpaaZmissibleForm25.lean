/-
  Joined: RAll, RRange, RBack.
-/
import Derived.Test.YtgalfhdeldjmpaaZmissibleForm24
import Derived.RangeFuncWrites
import Derived.RangeFuncNested
import Derived.WalkKit
import Derived.OwnWalkIn
import Derived.TacticsInMore
import Derived.LoopNIn
import Derived.LoopIn
section
namespace Go.Proofs.Ytgalfhdeldjmpaa
open Go.RowKit Go.Maps
set_option linter.unusedVariables false
set_option maxRecDepth 100000

theorem times_any (R K gk gp : Nat) : ∀ f, TimesAt R K gk gp f
  | 0 => fun X n x w _ _ _ hmu => absurd hmu (Nat.not_lt_zero _)
  | f + 1 => fun X n x w hX hI hok hmu => by
    by_cases h0 : n = 0
    · subst h0; exact times_zero R K gk gp X x w hI hok.fit
    · have hn := hok.n0
      have hxs := isAdm_sum hok.adm
      have hs := hok.sum
      have hx8 : x.length ≤ 6 := isAdm_len hok.adm (by omega)
      have hnx : fits (n :: x) := by
        refine ⟨by simp; omega, fun i hi => ?_⟩
        cases i with
        | zero => simp; omega
        | succ i =>
          have := hok.fit.2 i (by simpa using hi)
          simpa using this
      cases x with
      | nil => exact times_ge R K gk gp X n 0 [] [] w hI (by simp at hs; omega) hok.fit hnx hok.fit (by omega) (by omega) (admF_ge h0 (.inl rfl)) fun wx => divided_nil wx
      | cons b r =>
        have hb := isAdm_pos hok.adm
        have hrs := isAdm_sum (isAdm_tail hok.adm)
        rw [List.sum_cons] at hs
        by_cases hlt : n < 2 * b
        · exact times_lt R K gk gp f (times_any R K gk gp f) (timesSum_of R K gk gp f (times_any R K gk gp f)) X n b r w hX hI hok h0 hlt hmu
        · exact times_ge R K gk gp X n b (b :: r) r w hI (by omega) hok.fit hnx (fits_tail hok.fit).1 (by omega) (by omega) (admF_ge h0 (.inr ⟨b, r, rfl, by omega⟩)) fun wx => divided_word b r hok.fit wx
theorem timesSum_any (R K gk gp : Nat) : TimesSumAt R K gk gp 1700 := timesSum_of R K gk gp 1700 (times_any R K gk gp 1700)

theorem remembered_any (w : World) :
    Calls Try.prog 38 #[] w fun e w' => e = .returned (.func (.func 62) #[] #[.pointer (some ⟨w.heap.size + 1, 0, none⟩)]) ∧ w' = (w.alloc (.map #[] 0)).alloc (.cells #[.map (some w.heap.size)] 81) := by
  have hmm := @run_makeMap Try.prog
  go_enter Try.func38, Try.ntmps38
  go_wp2_with fail
  go_ret
  exact ⟨rfl, rfl⟩

theorem newReducer_any (w : World) :
    Calls Try.prog 22 #[] w fun e w' => ∃ R K gk gp, e = .returned (.pointer (some ⟨R, 0, none⟩)) ∧ RInv R K gk gp (fun _ => False) w' ∧ Below w.heap.size w w' ∧ w.heap.size ≤ gk ∧ w.heap.size ≤ gp := by
  have hmm := @run_makeMap Try.prog
  have A := Lib.hid (remembered_any w)
  go_enter Try.func22, Try.ntmps22
  go_wp2_with fail
  refine A.out.mono ?_
  rintro e w1 ⟨rfl, hw1⟩
  have HW := Lib.hid hw1
  have HS1 : Hid (w1.heap.size = w.heap.size + 2) := Lib.hid (by rw [hw1]; simp)
  clear hw1
  go_wp2_with fail
  go_ret
  have hs1 := HS1.out
  have b1 : Below w.heap.size w w1 := by rw [HW.out]; exact ((Below.refl _ w).alloc (Nat.le_refl _) _).alloc (by simp) _
  have hk : w1.heap[w.heap.size + 1]? = some (.cells #[.map (some w.heap.size)] 81 (0, 0)) := by
    rw [HW.out]
    have := heap_alloc_new (w.alloc (.map #[] 0)) (.cells #[.map (some w.heap.size)] 81)
    rw [World.size_alloc] at this
    exact this
  have ok : w1.ownsMap (H := Value) Try.prog 82 RawV w.heap.size 0 (.map []) := by
    rw [HW.out]
    exact (World.ownsMap_made w _ _ _).alloc _
  have op := World.ownsMap_made (H := Value) w1 Try.prog 112 RawV
  refine ⟨w1.heap.size + 1, w.heap.size + 1, w.heap.size, w1.heap.size, rfl, ⟨?_, ?_, ⟨_, _, (ok.alloc _).alloc _, Ent.nil _⟩, ⟨_, _, op.alloc _, Ent.nil _⟩, by omega, ⟨id, id, id, id⟩⟩, (b1.alloc (by omega) _).alloc (by simp; omega) _, Nat.le_refl _, by omega⟩
  · have := heap_alloc_new (w1.alloc (.map #[] 0)) (.cells #[.func (.func 62) #[] #[.pointer (some ⟨w.heap.size + 1, 0, none⟩)], .map (some w1.heap.size)] 61)
    rw [World.size_alloc] at this
    exact this
  · rw [heap_alloc_old _ _ (by simp; omega), heap_alloc_old _ _ (by omega)]
    exact hk
end Go.Proofs.Ytgalfhdeldjmpaa
end
section
namespace Go.Proofs.Ytgalfhdeldjmpaa
open Go.RowKit
set_option linter.unusedVariables false
set_option maxRecDepth 100000

/-- The iterator's word: in round k it hands over 'enc k'; there are N rounds, unless one of them says 'no more'. J k: what holds when k rounds are over. -/
def SeqIn (P : Program) (gf : Nat) (lb : Array Value) (N : Nat) (enc : Nat → Array Value) (Kp : World → World → Prop) (w : World) : Prop :=
  ∀ (l : Nat) (J : Nat → World → Prop) (Jx : World → Prop) (W : World), Kp w W →
    (∀ k W1, k < N → J k W1 → YieldAt Fence.wide 1 P l (enc k) W1 fun e W' => (e = .returned (.bool true) ∧ J (k + 1) W' ∧ Kp W1 W') ∨ (e = .returned (.bool false) ∧ Jx W')) →
    J 0 W → CallsIn Fence.wide 2 P gf (#[.func (.yield l) #[] #[]] ++ lb) W fun e W' => (∃ v, e = .returned v) ∧ (J N W' ∨ Jx W')

/-- How a round's body is left: on with the next one, or out of a block around. -/
def RoundOut (B : Nat) (Kp : World → World → Prop) (I : World → Prop) (Ix : Nat → World → Prop) (W : World) : Exit → Act → World → Prop
  | .normal, _, W' => KeepsFrom B W W' ∧ Kp W W' ∧ I W'
  | .exit id, _, W' => KeepsFrom B W W' ∧ Ix id W'
  | _, _, _ => False

section
variable {P : Program} {ps : Array Tmp} {assign body : Code}
/-- The loop's record. -/
def recOf (fn : Nat) (t : Array Value) (ps : Array Tmp) (assign body : Code) (D : Nat) (s : LoopState) (pend : Option Code) : Loop := { state := s, pending := pend, fn := fn, tmps := t, params := ps, assign := assign, body := body, defers := D }
/-- The two blocks of a loop's own. -/
structure Marks (D : Nat) (r : Loop) (W : World) : Prop where
  lp : W.heap[D + 1]? = some (.loop r)
  df : W.heap[D]? = some (.deferred (some []))
theorem Marks.put {D : Nat} {r r' : Loop} {W : World} (h : Marks D r W) : Marks D r' (W.putObj (D + 1) (.loop r')) :=
  ⟨World.putObj_heap_same (Array.getElem?_eq_some_iff.1 h.lp).1, (World.putObj_heap_other (by omega)).trans h.df⟩
theorem Marks.keep {D B : Nat} {r : Loop} {W W' : World} (h : Marks D r W) (hB : B ≤ D) (k : KeepsFrom B W W') : Marks D r W' :=
  ⟨k.same _ _ (by omega) h.lp rfl, k.same _ _ hB h.df rfl⟩

theorem range_next {Q : Exit → Act → World → Prop} {a : Act} {w : World} {g : Operand} {gf : Nat} {lb : Array Value} (hg : a.eval g = .func (.func gf) #[] lb) (eg : ∀ args w, (callFunc gf args).run P w = .ok (.enter gf args) w)
    {N : Nat} {enc : Nat → Array Value} {Kp : World → World → Prop} (hseq : SeqIn P gf lb N enc Kp w) (hps : ∀ k, (enc k).size = ps.size)
    (kt : ∀ {A B C : World}, Kp A B → Kp B C → Kp A C) (kp : ∀ (W : World) (l : Nat) (o o' : Obj), l = w.heap.size + 1 → W.heap[l]? = some o → o.isCells = false → Kp W (W.putObj l o')) (k0 : ∀ o o', Kp w ((w.alloc o).alloc o'))
    (I : Nat → World → Prop) (Ix : Nat → World → Prop)
    (ip : ∀ k W l o o', I k W → l = w.heap.size + 1 → W.heap[l]? = some o → o.isCells = false → I k (W.putObj l o')) (ixp : ∀ id W l o o', Ix id W → l = w.heap.size + 1 → W.heap[l]? = some o → o.isCells = false → Ix id (W.putObj l o'))
    (i0 : ∀ o o', I 0 ((w.alloc o).alloc o')) (a₁ : Nat → Act)
    (hassign : ∀ (l k : Nat) (W : World) (K : Act → World → Prop), K (a₁ k) W → assign.wpIn (Fence.wide.inRound l) 1 P (Exit.then K (fun _ _ _ => False)) { tmps := (ps.zip (enc k)).foldl (fun t (p, v) => t.setIfInBounds p v) a.tmps, defers := [] } W)
    (hbody : ∀ (l k : Nat) (W : World), k < N → I k W → body.wpIn (Fence.wide.inRound l) 1 P (RoundOut w.heap.size Kp (I (k + 1)) Ix W) (a₁ k) W)
    (hdone : ∀ W, I N W → W.heap[w.heap.size]? = some (.deferred (some [])) → Q .normal { a with defers := { target := .collected w.heap.size, args := #[] } :: a.defers } W)
    (hstop : ∀ id W, Ix id W → W.heap[w.heap.size]? = some (.deferred (some [])) → (Code.exit id).wpIn Fence.wide 3 P Q { a with defers := { target := .collected w.heap.size, args := #[] } :: a.defers } W) :
    (Code.rangeFunc g ps assign body).wpIn Fence.wide 3 P Q a w := by
  refine wpIn_rangeFunc fun fn hfn => ?_
  have M1 : Marks w.heap.size (recOf fn a.tmps ps assign body w.heap.size .ready none) ((w.alloc (.deferred (some []))).alloc (.loop (recOf fn a.tmps ps assign body w.heap.size .ready none))) := by
    refine ⟨?_, (Below.heap_alloc _ _ _ (by simp)).trans (World.alloc_heap_new w _)⟩
    have := World.alloc_heap_new (w.alloc (.deferred (some []))) (.loop (recOf fn a.tmps ps assign body w.heap.size .ready none))
    rwa [World.size_alloc] at this
  refine ⟨_, _, _, _, _, gf, _, _, run_enterLoop_outer fn a.tmps ps assign body, by simp only [resolve, hg]; simp [go_sem]; exact ⟨rfl, rfl⟩, fun _ _ => trivial, by simp [invoke, go_sem, eg]; exact ⟨rfl, rfl⟩, fun h => by simp [Fence.wide] at h, ?_⟩
  refine (hseq (w.heap.size + 1) (fun k W => I k W ∧ Marks w.heap.size (recOf fn a.tmps ps assign body w.heap.size .ready none) W)
    (fun W => ∃ id, Ix id W ∧ Marks w.heap.size (recOf fn a.tmps ps assign body w.heap.size .done (some (.exit id))) W) _ (k0 _ _) ?_ ⟨i0 _ _, M1⟩).mono ?_
  · rintro k W hk ⟨hi, hm⟩
    have hy := run_yield (P := P) (args := enc k) hm.lp (hps k)
    refine ⟨fn, _, assign, body, hy, roundIn_of_wpIn hfn (hassign _ k W _ ⟨_, run_beginRound hm.lp rfl, ?_⟩)⟩
    have hm2 := hm.put (r' := recOf fn a.tmps ps assign body w.heap.size .busy none)
    have k2 := kp W (w.heap.size + 1) _ (.loop (recOf fn a.tmps ps assign body w.heap.size .busy none)) rfl hm.lp rfl
    refine wpIn_mono (hbody _ k _ hk (ip _ _ _ _ _ hi rfl hm.lp rfl)) ?_
    rintro e a3 W3 hp
    cases e with
    | normal =>
      obtain ⟨h3, h4, h5⟩ := hp
      have m3 := hm2.keep (Nat.le_refl _) h3
      exact ⟨_, _, run_endRound (P := P) none m3.lp, .inl ⟨rfl, ⟨ip _ _ _ _ _ h5 (by omega) m3.lp rfl, m3.put⟩, kt (kt k2 h4) (kp _ _ _ _ rfl m3.lp rfl)⟩⟩
    | exit id =>
      obtain ⟨h3, h5⟩ := hp
      have m3 := hm2.keep (Nat.le_refl _) h3
      exact ⟨_, _, run_endRound (P := P) (some (.exit id)) m3.lp, .inr ⟨rfl, id, ixp _ _ _ _ _ h5 (by omega) m3.lp rfl, m3.put⟩⟩
    | ret => exact hp.elim
    | goto t => exact hp.elim
    | panic ch => exact hp.elim
    | outgrown => exact hp.elim
  · rintro e W2 ⟨⟨v, rfl⟩, (⟨hi, hm⟩ | ⟨id, hi, hm⟩)⟩
    · exact ⟨none, _, run_endLoop (P := P) hm.lp (by simp [recOf]), hdone _ (ip _ _ _ _ _ hi rfl hm.lp rfl) (hm.put (r' := { recOf fn a.tmps ps assign body w.heap.size .ready none with state := .exhausted })).df⟩
    · exact ⟨some (.exit id), _, run_endLoop (P := P) hm.lp (by simp [recOf]), hstop id _ (ixp _ _ _ _ _ hi rfl hm.lp rfl) (hm.put (r' := { recOf fn a.tmps ps assign body w.heap.size .done (some (.exit id)) with state := .exhausted })).df⟩
end
end Go.Proofs.Ytgalfhdeldjmpaa
end
section
namespace Go.Proofs.Ytgalfhdeldjmpaa
open Go.RowKit
set_option linter.unusedVariables false
set_option maxRecDepth 100000

/-- Blocks below n₀ stay, but for those of Y. -/
structure KpY (n₀ : Nat) (Y : Nat → Prop) (A B : World) : Prop where
  size : A.heap.size ≤ B.heap.size
  block : ∀ b, b < n₀ → ¬ Y b → B.heap[b]? = A.heap[b]?
theorem KpY.trans {n₀ : Nat} {Y : Nat → Prop} {A B C : World} (h : KpY n₀ Y A B) (k : KpY n₀ Y B C) : KpY n₀ Y A C := ⟨Nat.le_trans h.size k.size, fun b hb hy => (k.block b hb hy).trans (h.block b hb hy)⟩
theorem KpY.refl (n₀ : Nat) (Y : Nat → Prop) (A : World) : KpY n₀ Y A A := ⟨Nat.le_refl _, fun _ _ _ => rfl⟩
/-- What the k-th round is told. -/
def encB (xs : List Int) (k : Nat) : Array Value := #[.int .i64 ((xs.length : Int) - 1 - k), .int .i64 (xs[xs.length - 1 - k]?.getD 0)]

set_option maxHeartbeats 1000000 in
theorem back1_in (F : Fence) (n : Nat) (h67 : F.fn 67) (hro : F.round = none) (hn : 1 ≤ n) (l Bs n₀ : Nat) (Y : Nat → Prop) (xs : List Int) (v : Value) (w : World) (hBs : w.heap[Bs]? = some (.cells #[v] 41 (0, 0))) (hB : Bs < n₀ ∧ ¬ Y Bs)
    (hv : RdI w v xs.length (fun j => xs[j]?.getD 0)) (hrow : 0 < xs.length → ∀ g, v.ownBlock = some g → g < n₀ ∧ ¬ Y g) (J : Nat → World → Prop) (Jx : World → Prop) (W : World) (hW : KpY n₀ Y w W)
    (hY : ∀ k W1, k < xs.length → J k W1 → YieldAt F (n - 1) Try.prog l (encB xs k) W1 fun e W' => (e = .returned (.bool true) ∧ J (k + 1) W' ∧ KpY n₀ Y W1 W') ∨ (e = .returned (.bool false) ∧ Jx W')) (h0 : J 0 W) :
    CallsIn F n Try.prog 67 #[.func (.yield l) #[] #[], .pointer (some ⟨Bs, 0, none⟩)] W fun e W' => (∃ v, e = .returned v) ∧ (J xs.length W' ∨ Jx W') := by
  obtain ⟨a, cap, rfl, hm, hc⟩ := hv
  unfold maxLen at hm
  have HC := Lib.hid hc
  have HROW := Lib.hid hrow
  have HBS := Lib.hid hBs
  have HB := Lib.hid hB
  have hn1 : IntKind.i64.wrap ((xs.length : Int) - 1) = (xs.length : Int) - 1 := by rw [IntKind.wrap_i64]; omega
  have hcB : ∀ W', KpY n₀ Y w W' → W'.cell? ⟨Bs, 0, none⟩ = some (.slice a xs.length cap) := fun W' h => by
    rw [World.cell?, h.block Bs HB.out.1 HB.out.2, HBS.out]; rfl
  have HCB := Lib.hid hcB
  have hc0 := hcB W hW
  have HK := Lib.hid hW
  clear hc hrow hBs hB hcB hW
  refine callsIn_of_wp Try.func67 rfl h67 ?_ hro
  simp only [Try.ntmps67, List.size_toArray, List.length_cons, List.length_nil, Nat.reduceAdd, Nat.reduceSub, Array.replicate_succ, Array.replicate_zero, List.push_toArray, List.append_toArray, List.nil_append, List.cons_append]
  gi_wp2
  clear hc0
  gi_loopw [3] (fun c wr => ∃ k : Nat, k ≤ xs.length ∧ c = .int .i64 ((xs.length : Int) - 1 - k) ∧ J k wr ∧ Hid (KpY n₀ Y w wr)) (fun c _ => (intOf c + 1).toNat)
  case atStart => exact ⟨0, Nat.zero_le _, by simp, h0, HK⟩
  case round =>
    obtain ⟨k, hk, rfl, hJ, hK⟩ := hrel
    by_cases hlt : k < xs.length
    · obtain ⟨i, hi⟩ : ∃ i, i + 1 + k = xs.length := ⟨xs.length - 1 - k, by omega⟩
      have e1 : (xs.length : Int) - 1 - k = (i : Int) := by omega
      obtain ⟨b, off, rfl, hcell⟩ := HC.out.resolve_left (by omega)
      have hci := hcell i (by omega)
      have hr := HROW.out (by omega) b rfl
      have c1 : wr.cell? ⟨b, off + i, none⟩ = some (.int .i64 (xs[i]?.getD 0)) := by
        rw [World.cell?, hK.out.block b hr.1 hr.2]; exact hci
      have cB := HCB.out wr hK.out
      obtain ⟨fn, tmps, assign, body, hy, hR⟩ := hY k wr hlt hJ
      have ex : encB xs k = #[.int .i64 (i : Int), .int .i64 (xs[i]?.getD 0)] := by
        unfold encB; rw [e1, show xs.length - 1 - k = i by omega]
      obtain ⟨x, hx⟩ : ∃ x, xs[i]?.getD 0 = x := ⟨_, rfl⟩
      rw [ex, hx] at hy
      rw [hx] at c1
      rw [e1]
      clear hx
      have hil : i < xs.length := by omega
      have hil' : (i : Int) < (xs.length : Int) := by omega
      clear hcell hci hr ex
      gi_wp2
      refine hR.mono ?_
      rintro e W3 (⟨rfl, hJ3, hk3⟩ | ⟨rfl, hJx3⟩)
      · have HK3 := Lib.hid (hK.out.trans hk3)
        clear hk3
        gi_wp2
        go_roundw
        case rel => exact ⟨k + 1, by omega, by go_num, hJ3, HK3⟩
        case measure => simp [intOf]
      · gi_wp2
        refine bodyPost_ret (results_none rfl _ _ _) rfl ?_
        exact ⟨⟨_, rfl⟩, .inr hJx3⟩
    · obtain rfl : k = xs.length := by omega
      rw [show (xs.length : Int) - 1 - xs.length = -1 by omega]
      gi_wp2
      go_end0
      exact ⟨⟨_, rfl⟩, .inl hJ⟩

/-- slices.Backward's function value keeps the word 'SeqIn'. -/
theorem back_seq (Bs n₀ : Nat) (Y : Nat → Prop) (xs : List Int) (v : Value) (w : World) (hBs : w.heap[Bs]? = some (.cells #[v] 41 (0, 0))) (hB : Bs < n₀ ∧ ¬ Y Bs) (hv : RdI w v xs.length (fun j => xs[j]?.getD 0)) (hrow : 0 < xs.length → ∀ g, v.ownBlock = some g → g < n₀ ∧ ¬ Y g) :
    SeqIn Try.prog 67 #[.pointer (some ⟨Bs, 0, none⟩)] xs.length (encB xs) (KpY n₀ Y) w :=
  fun l J Jx W hW hY h0 => back1_in Fence.wide 2 trivial rfl (by omega) l Bs n₀ Y xs v w hBs hB hv hrow J Jx W hW hY h0

theorem backward_any (a : Option Addr) (len cap : Nat) (w : World) :
    Calls Try.prog 41 #[.slice a len cap] w fun e w' => e = .returned (.func (.func 67) #[] #[.pointer (some ⟨w.heap.size, 0, none⟩)]) ∧ w' = w.alloc (.cells #[.slice a len cap] 41) := by
  go_enter Try.func41, Try.ntmps41
  go_wp2_with fail
  go_ret
  exact ⟨rfl, rfl⟩
end Go.Proofs.Ytgalfhdeldjmpaa
end
