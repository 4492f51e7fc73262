/-
  Joined: PTimes, PJoin, PDia.
-/
import Derived.Test.YtnmilkehggjpfaaZBMil16
import Derived.Test.YtnmilkehggjpfaaZBMil17
import Derived.Test.YtnmilkehggjpfaaZBMil08
section
namespace Go.Proofs.Ytnmilkehggjpfaa
open Go.RowKit
set_option linter.unusedVariables false
set_option maxRecDepth 100000

theorem rowsOf_all (zs : List (List Int)) : rowsL (rowsOf zs) zs.length = zs := by
  refine List.ext_getElem? fun i => ?_
  unfold rowsL rowsOf
  rw [List.getElem?_map]
  by_cases h : i < zs.length
  · rw [List.getElem?_range h, List.getElem?_eq_getElem h]; simp [h]
  · rw [List.getElem?_eq_none (by rw [List.length_range]; omega), List.getElem?_eq_none (by omega)]; rfl
theorem mrg_len2 : ∀ (xs ys : List (List Int)), (mrg xs ys).length ≤ xs.length + ys.length
  | [], ys => by rw [mrg]; simp
  | x :: xs, [] => by rw [mrg]; simp
  | x :: xs, y :: ys => by
    rw [mrg]
    split
    · have := mrg_len2 xs (y :: ys)
      simp only [List.length_cons] at this ⊢
      omega
    · split
      · have := mrg_len2 (x :: xs) ys
        simp only [List.length_cons] at this ⊢
        omega
      · have := mrg_len2 xs ys
        simp only [List.length_cons] at this ⊢
        omega
  termination_by xs ys => xs.length + ys.length
theorem mrg_count {xs ys : List (List Int)} (hx : Asc xs) (hy : Asc ys) (z : List Int) : (mrg xs ys).count z % 2 = (xs.count z + ys.count z) % 2 := by
  obtain ⟨h1, h2⟩ := mrg_spec xs ys hx hy
  rw [asc_count h1, asc_count hx, asc_count hy]
  have := h2 z
  by_cases a : z ∈ xs <;> by_cases b : z ∈ ys <;> simp [a, b, this]

/-- All results of one product. -/
noncomputable def prodL (r s : List Int) : List (List Int) := resF (resS r.length s.length) (rm r.length s.length) (T0 r s)
theorem resF_mem {res : Tab → Option (List Int)} {z : List Int} : ∀ (ps : List (Nat × Nat)) (T : Tab), z ∈ resF res ps T → ∃ T', res T' = some z
  | [], T, h => ⟨T, by simpa [resF, Option.mem_toList] using h⟩
  | p :: ps, T, h => by
    obtain ⟨v, _, hv⟩ := List.mem_flatMap.1 h
    exact resF_mem ps _ hv
theorem prodL_short {r s : List Int} (hr : r.length ≤ 5) (hs : s.length ≤ 5) {z : List Int} (h : z ∈ prodL r s) : z.length ≤ 10 := by
  obtain ⟨T', e⟩ := resF_mem _ _ h
  have := resS_len e
  omega
noncomputable def rowTo (X Y : Nat → List Int) (i k : Nat) : List (List Int) := (List.range k).flatMap fun j => prodL (X i) (Y j)
noncomputable def allTo (X Y : Nat → List Int) (q i : Nat) : List (List Int) := (List.range i).flatMap fun i => rowTo X Y i q
theorem rowTo_succ (X Y : Nat → List Int) (i k : Nat) : rowTo X Y i (k + 1) = rowTo X Y i k ++ prodL (X i) (Y k) := by
  unfold rowTo; rw [List.range_succ, List.flatMap_append]; simp
theorem allTo_succ (X Y : Nat → List Int) (q i : Nat) : allTo X Y q (i + 1) = allTo X Y q i ++ rowTo X Y i q := by
  unfold allTo; rw [List.range_succ, List.flatMap_append]; simp

/-- What the loops keep. -/
structure TimesSt (w : World) (R : List (List Int)) (S : Value) (VS : Nat → Value) (M : List (List Int)) (wr : World) : Prop where
  fam : FamL wr w.heap.size S VS M
  sep : Sep M.length VS
  asc : Asc M
  bel : Below w.heap.size w wr
  par : ∀ z, M.count z % 2 = R.count z % 2
  few : M.length ≤ R.length
theorem TimesSt.short {w wr : World} {R M : List (List Int)} {S : Value} {VS : Nat → Value} (h : TimesSt w R S VS M wr) (hR : ∀ z ∈ R, z.length ≤ 10) (i : Nat) : (rowsOf M i).length ≤ 10 := by
  unfold rowsOf
  by_cases k : i < M.length
  · rw [List.getElem?_eq_getElem k]
    show M[i].length ≤ 10
    have hz := List.getElem_mem k
    refine hR _ (Classical.byContradiction fun h3 => ?_)
    have h1 := h.par M[i]
    rw [asc_count h.asc, if_pos hz, List.count_eq_zero_of_not_mem h3] at h1
    omega
  · rw [List.getElem?_eq_none (by omega)]; simp
theorem TimesSt.step {w wr w7 w8 : World} {R P M N : List (List Int)} {S U : Value} {VS US : Nat → Value} (h : TimesSt w R S VS M wr) (b7 : Below wr.heap.size wr w7) (hN : Asc N) (pN : ∀ z, N.count z % 2 = P.count z % 2) (lN : N.length ≤ P.length)
    (f : FamL w8 w7.heap.size U US (mrg M N)) (s : Sep (mrg M N).length US) (b : Below w7.heap.size w7 w8) : TimesSt w (R ++ P) U US (mrg M N) w8 := by
  have k := h.bel.step1 b7
  refine ⟨Fam.base f k.size, s, (mrg_spec M N h.asc hN).1, k.step1 b, fun z => ?_, ?_⟩
  · rw [mrg_count h.asc hN, List.count_append]
    have := h.par z
    have := pN z
    omega
  · have := mrg_len2 M N
    have := h.few
    rw [List.length_append]
    omega

def TimesPost (w : World) (R : List (List Int)) (e : Ending) (w' : World) : Prop := ∃ S VS M, e = .returned S ∧ TimesSt w R S VS M w'
/-- The second call of a round. -/
theorem times_sum {w w2 w7 : World} {R P M N : List (List Int)} {S U : Value} {VS US : Nat → Value} (h : TimesSt w R S VS M w2) (fN : FamL w7 w2.drew.heap.size U US N) (aN : Asc N) (bN : Below w2.drew.heap.size w2.drew w7)
    (pN : ∀ z, N.count z % 2 = (([] : List (List Int)).count z + P.count z) % 2) (lN : N.length ≤ ([] : List (List Int)).length + P.length) (LM : M.length ≤ 100000000000) (LP : P.length ≤ 100000000000) (S1 : ∀ i, (rowsOf M i).length ≤ 10) (S2 : ∀ z ∈ P, z.length ≤ 10) :
    Calls Try.prog 58 #[S, U] w7 fun e w' => ∃ V VS, e = .returned V ∧ TimesSt w (R ++ P) V VS (mrg M N) w' := by
  have b7 : Below w2.heap.size w2 w7 := ((Below.refl w2.heap.size w2).drew).trans bN
  have pN' : ∀ z, N.count z % 2 = P.count z % 2 := fun z => by have := pN z; rw [List.count_nil, Nat.zero_add] at this; exact this
  have lN' : N.length ≤ P.length := by simpa using lN
  have S3 : ∀ i, (rowsOf N i).length ≤ 10 := fun i => by
    unfold rowsOf
    by_cases k : i < N.length
    · rw [List.getElem?_eq_getElem k]
      show N[i].length ≤ 10
      have hz := List.getElem_mem k
      refine S2 _ (Classical.byContradiction fun h3 => ?_)
      have h1 := pN' N[i]
      rw [asc_count aN, if_pos hz, List.count_eq_zero_of_not_mem h3] at h1
      omega
    · rw [List.getElem?_eq_none (by omega)]; simp
  have k := l01Sum_any S U M.length N.length (rowsOf M) (rowsOf N) VS US w.heap.size w2.drew.heap.size w7 (h.fam.below b7) fN LM (by omega) (fun i _ => by have := S1 i; omega) (fun i _ => by have := S3 i; omega)
  rw [rowsOf_all, rowsOf_all] at k
  refine k.mono ?_
  rintro e w8 ⟨V8, VS8, rfl, f8, s8, b8⟩
  exact ⟨V8, VS8, rfl, h.step b7 aN pN' lN' f8 s8 b8⟩

set_option maxHeartbeats 1000000 in
theorem l04Times_any (Va Vb : Value) (VA VB : Nat → Value) (X Y : Nat → List Int) (p q Ba Bb : Nat) (w : World) (ha : Fam w Ba Va p VA X) (hb : Fam w Bb Vb q VB Y) (hp : p ≤ 100000) (hq : q ≤ 100000)
    (hX : ∀ i, i < p → (X i).length ≤ 5 ∧ ∀ z ∈ X i, 0 ≤ z ∧ z ≤ 1000000) (hY : ∀ i, i < q → (Y i).length ≤ 5 ∧ ∀ z ∈ Y i, 0 ≤ z ∧ z ≤ 1000000) (hl : ∀ i k, i < p → k < q → (prodL (X i) (Y k)).length ≤ 100000000000)
    (ht : ∀ i k, i < p → k ≤ q → (allTo X Y q i ++ rowTo X Y i k).length ≤ 100000000000) :
    Calls Try.prog 117 #[Va, Vb] w (TimesPost w (allTo X Y q p)) := by
  have HA := Lib.hid ha
  have HB := Lib.hid hb
  have HX := Lib.hid hX
  have HY := Lib.hid hY
  have HL := Lib.hid hl
  have HT := Lib.hid ht
  obtain ⟨aa, ca, rfl, _, _⟩ := ha.head
  obtain ⟨ab, cb, rfl, _, _⟩ := hb.head
  have I0 : Hid (TimesSt w [] (.slice (some ⟨w.heap.size, 0, none⟩) 0 0) (fun _ => undef) [] (w.alloc (.cells #[] 65))) := Lib.hid ⟨⟨World.ownsRow_made w #[] 0 (Nat.le_refl _) (Nat.zero_le _) (by simp), fun i hi => absurd hi (Nat.not_lt_zero _)⟩, fun i j hi => absurd hi (Nat.not_lt_zero _), List.Pairwise.nil, (Below.refl _ w).alloc (Nat.le_refl _) _, fun z => rfl, Nat.le_refl _⟩
  have Z0 : Hid (allTo X Y q 0 = []) := Lib.hid rfl
  have SH : Hid (∀ i k, i < p → k ≤ q → ∀ z ∈ allTo X Y q i ++ rowTo X Y i k, z.length ≤ 10) := Lib.hid (fun i k hi hk z hz => by
    rcases List.mem_append.1 hz with h | h
    · obtain ⟨i', h1, h⟩ := List.mem_flatMap.1 h
      obtain ⟨k', h2, h⟩ := List.mem_flatMap.1 h
      have := List.mem_range.1 h1
      have := List.mem_range.1 h2
      exact prodL_short (hX i' (by omega)).1 (hY k' (by omega)).1 h
    · obtain ⟨k', h2, h⟩ := List.mem_flatMap.1 h
      have := List.mem_range.1 h2
      exact prodL_short (hX i hi).1 (hY k' (by omega)).1 h)
  clear ha hb hX hY hl ht
  go_enter Try.func117, Try.ntmps117
  go_wp2_with fail
  go_loopw [5, 6, 7] (fun S c _ wr => ∃ (i : Nat) (VS : Nat → Value) (M : List (List Int)), i ≤ p ∧ c = .int .i64 i ∧ Hid (TimesSt w (allTo X Y q i) S VS M wr)) (fun _ c _ _ => p + 1 - (intOf c).toNat)
  case atStart => exact ⟨0, _, [], by omega, rfl, Lib.hid (by rw [Z0.out]; exact I0.out)⟩
  case round =>
    clear I0 Z0
    obtain ⟨i, VS, M, hi, rfl, hI⟩ := hrel
    rename World => w1
    by_cases hip : i < p
    · have hip' : (i : Int) < (p : Int) := by omega
      have J0 : Hid (TimesSt w (allTo X Y q i ++ rowTo X Y i 0) u5 VS M w1) := Lib.hid (by rw [show rowTo X Y i 0 = [] from rfl, List.append_nil]; exact hI.out)
      clear hI
      go_wp2_with fail
      go_loopw [5, 7] (fun S c wr => ∃ (k : Nat) (VS : Nat → Value) (M : List (List Int)), k ≤ q ∧ c = .int .i64 k ∧ Hid (TimesSt w (allTo X Y q i ++ rowTo X Y i k) S VS M wr)) (fun _ c _ => q + 1 - (intOf c).toNat)
      case atStart => exact ⟨0, VS, M, by omega, rfl, J0⟩
      case round =>
        clear J0
        obtain ⟨k, VS, M, hk, rfl, hI⟩ := hrel
        rename World => w2
        by_cases hkq : k < q
        · have hkq' : (k : Int) < (q : Int) := by omega
          have FA := HA.out.below hI.out.bel
          have FB := HB.out.below hI.out.bel
          obtain ⟨a9, c9, e9, _, hc⟩ := FA.head
          cases e9
          obtain ⟨ba, rfl, hca⟩ := hc.resolve_left (by omega)
          obtain ⟨a9, c9, e9, _, hc⟩ := FB.head
          cases e9
          obtain ⟨bb, rfl, hcb⟩ := hc.resolve_left (by omega)
          have c1 := hca i hip
          have c2 := hcb k hkq
          have PR := Lib.hid (l04Product_any (VA i) (VB k) (X i) (Y k) Ba Bb w2.drew (FA.inn i hip) (FB.inn k hkq) (HX.out i hip).1 (HY.out k hkq).1 (HX.out i hip).2 (HY.out k hkq).2 (HL.out i k hip hkq))
          generalize VA i = va at c1 PR
          generalize VB k = vb at c2 PR
          clear FA FB hc hca hcb
          go_wp2_with fail
          have HI := Lib.hid hI.out
          have LT := HT.out i k hip hk
          have LP := HL.out i k hip hkq
          have S1 := hI.out.short (SH.out i k hip hk)
          have S2 := SH.out i (k + 1) hip hkq
          have LM := Nat.le_trans hI.out.few LT
          have STEP := Lib.hid (fun (w7 : World) (U : Value) (US : Nat → Value) (N : List (List Int)) (fN : FamL w7 w2.drew.heap.size U US N) (aN : Asc N) (bN : Below w2.drew.heap.size w2.drew w7) (pN : ∀ z, N.count z % 2 = (([] : List (List Int)).count z + (prodL (X i) (Y k)).count z) % 2) (lN : N.length ≤ ([] : List (List Int)).length + (prodL (X i) (Y k)).length) => times_sum hI.out fN aN bN pN lN LM LP S1 (fun z hz => S2 z (by rw [rowTo_succ]; exact List.mem_append_right _ (List.mem_append_right _ hz))))
          clear LT LP S1 S2 LM hI
          go_region_law (first
            | (go_simp; go_at_call 138; refine PR.out.mono ?_; rintro e w7 ⟨U, US, N, rfl, fN, sN, aN, bN, pN, lN⟩; have SM := Lib.hid (STEP.out w7 U US N fN aN bN pN lN); clear fN sN aN bN pN lN)
            | (go_simp; go_at_call 58; refine SM.out.mono ?_; rintro e w8 ⟨V8, VS8, rfl, t8⟩; have T8 := Lib.hid t8; clear t8))
          all_goals
            first
            | (go_wp2_with fail
               go_roundw
               case rel => exact ⟨k + 1, VS8, _, by omega, by go_num, Lib.hid (by rw [rowTo_succ, ← List.append_assoc]; exact T8.out)⟩
               case measure => simp [intOf]; omega)
            | exact ⟨⟨k + 1, VS8, _, by omega, by go_num, Lib.hid (by rw [rowTo_succ, ← List.append_assoc]; exact T8.out)⟩, by simp [intOf]; omega⟩
        · obtain rfl : k = q := by omega
          have hkq' : ¬ ((k : Nat) : Int) < (k : Int) := by omega
          have J1 : Hid (TimesSt w (allTo X Y k (i + 1)) u5 VS M w2) := Lib.hid (by rw [allTo_succ]; exact hI.out)
          clear hI
          go_wp2_with fail
          go_roundw
          case rel => exact ⟨i + 1, VS, M, by omega, by go_num, J1⟩
          case measure => simp [intOf]; omega
    · obtain rfl : i = p := by omega
      have hip' : ¬ ((i : Nat) : Int) < (i : Int) := by omega
      go_wp2_with fail
      go_ret
      exact ⟨_, VS, M, rfl, hI.out⟩
end Go.Proofs.Ytnmilkehggjpfaa
end
section
namespace Go.Proofs.Ytnmilkehggjpfaa
set_option maxRecDepth 100000
set_option linter.unusedVariables false

theorem prodL_few {r s : List Int} (hr : goodE r) (hs : goodE s) : (prodL r s).length ≤ 10000000 :=
  resF_small _ r.length s.length (by have := good_len hr; omega) (by have := good_len hs; omega) (T0 r s) fun i hi => start_caps hr i hi
/-- The counter's results are those of the rows. -/
theorem prodL_par {r s : List Int} (hr : goodE r) (hs : goodE s) (hd : dgL r + dgL s ≤ 40) (z : List Int) : par ((allE posI (T0 r s)).filterMap (resS r.length s.length)) z ↔ par (prodL r s) z :=
  same_results (start_of hr hs hd) _ z
theorem T0_pos (r s : List Int) : ∀ p ∈ posI, T0 r s p.1 p.2 = 0 := fun p hp => T0_in r s p (posI_in p hp).1 (posI_in p hp).2
theorem T0_ok {r s : List Int} (hr : goodE r) (hs : goodE s) : okT (T0 r s) := fun k => ⟨(T0_bound (good_small hr) (good_small hs) k 0).1, (T0_bound (good_small hr) (good_small hs) 0 k).1⟩
/-- The counter comes back to the first table, and not before. -/
theorem steps_gen (ps : List (Nat × Nat)) (h1 : ∀ p ∈ ps, inP p) (h2 : ps.Nodup) (T : Tab) (hT : okT T) (h0 : ∀ p ∈ ps, T p.1 p.2 = 0) : Steps (advG ps) (allE ps T) T := allE_steps ps T h1 h2 hT h0
theorem T0_steps {r s : List Int} (hr : goodE r) (hs : goodE s) (ps : List (Nat × Nat)) (hp : ps = posI) : Steps (advG ps) (allE ps (T0 r s)) (T0 r s) :=
  steps_gen ps (fun p h => posI_in p (hp ▸ h)) (hp ▸ posI_nodup) (T0 r s) (T0_ok hr hs) (fun p h => T0_pos r s p (hp ▸ h))
theorem T0_head {r s : List Int} (hr : goodE r) (hs : goodE s) : ∃ l, allE posI (T0 r s) = T0 r s :: l ∧ ∀ y ∈ l, y ≠ T0 r s := by
  obtain ⟨l, e, h⟩ := allE_head posI (T0 r s) posI_in posI_nodup (T0_ok hr hs) (T0_pos r s)
  refine ⟨l, e, fun y hy e2 => ?_⟩
  obtain ⟨p, hp, hne⟩ := h y hy
  rw [e2] at hne
  exact hne (T0_pos r s p hp)
end Go.Proofs.Ytnmilkehggjpfaa
end
section
namespace Go.Proofs.Ytnmilkehggjpfaa
set_option linter.unusedVariables false
set_option maxRecDepth 100000

/-! ### Numbers without a common digit -/
def dj (a b : Int) : Prop := a.toNat &&& b.toNat = 0
theorem tk_nat (g : Nat → Nat) (G : Nat → Int) (hG : ∀ i, G i = (g i : Int)) (hg : ∀ i, g i < 2 ^ 20) : ∀ i, ∃ t : Nat, t < 2 ^ 20 ∧ tk G i = (t : Int) ∧ ∀ x, t &&& x = 0 ↔ ∀ j, j < i → g j &&& x = 0
  | 0 => ⟨0, by decide, rfl, fun x => ⟨fun _ j hj => absurd hj (Nat.not_lt_zero _), fun _ => Nat.zero_and x⟩⟩
  | i + 1 => by
    obtain ⟨t, h1, h2, h3⟩ := tk_nat g G hG hg i
    have hi := hg i
    refine ⟨t ||| g i, Nat.or_lt_two_pow h1 hi, ?_, fun x => ?_⟩
    · rw [tk, h2, hG i, i64_or t (g i) (by omega) (by omega)]
    · rw [Nat.and_or_distrib_right]
      constructor
      · intro h j hj
        have h4 : t &&& x = 0 ∧ g i &&& x = 0 := Nat.or_eq_zero_iff.1 h
        by_cases e : j = i
        · subst e; exact h4.2
        · exact (h3 x).1 h4.1 j (by omega)
      · intro h
        rw [(h3 x).2 fun j hj => h j (by omega), h i (by omega)]
        rfl
theorem getD_small {l : List Int} (h : ∀ z ∈ l, 0 ≤ z ∧ z ≤ 1000000) (i : Nat) : 0 ≤ l[i]?.getD 0 ∧ l[i]?.getD 0 ≤ 1000000 := by
  by_cases k : i < l.length
  · rw [List.getElem?_eq_getElem k]; exact h _ (List.getElem_mem k)
  · rw [List.getElem?_eq_none (by omega)]; exact ⟨Int.le_refl 0, by show (0 : Int) ≤ 1000000; omega⟩
theorem apL_iff {l : List Int} (h : ∀ z ∈ l, 0 ≤ z ∧ z ≤ 1000000) : apL l ↔ l.Pairwise dj := by
  have hg : ∀ i, (l[i]?.getD (0 : Int)).toNat < 2 ^ 20 := fun i => by have := getD_small h i; omega
  have hG : ∀ i, (fun j => l[j]?.getD 0) i = (((l[i]?.getD (0 : Int)).toNat : Nat) : Int) := fun i => by have := getD_small h i; show l[i]?.getD 0 = _; omega
  have step : ∀ i, ((bits .and .i64 (tk (fun j => l[j]?.getD 0) i) ((fun j => l[j]?.getD 0) i) != 0) = false) ↔ ∀ j, j < i → dj (l[j]?.getD 0) (l[i]?.getD 0) := fun i => by
    obtain ⟨t, h1, h2, h3⟩ := tk_nat (fun i => (l[i]?.getD (0 : Int)).toNat) _ hG hg i
    have := hg i
    rw [h2, hG i, i64_and t _ (by omega) (by omega), bne_eq_false_iff_eq]
    have e := h3 (l[i]?.getD (0 : Int)).toNat
    constructor
    · intro h4; exact e.1 (by omega)
    · intro h4; have := e.2 h4; omega
  rw [List.pairwise_iff_getElem]
  constructor
  · intro hap i j hi hj hij
    have := (step j).1 (hap j hj) i hij
    rw [List.getElem?_eq_getElem hi, List.getElem?_eq_getElem hj] at this
    exact this
  · intro hp i hi
    refine (step i).2 fun j hj => ?_
    have := hp j i (by omega) hi hj
    rw [List.getElem?_eq_getElem hi, List.getElem?_eq_getElem (show j < l.length by omega)]
    exact this
/-- Without the zeros. -/
def nz (l : List Int) : List Int := l.filter fun z => decide (z ≠ 0)
theorem nz_pair : ∀ l : List Int, (nz l).Pairwise dj ↔ l.Pairwise dj
  | [] => Iff.rfl
  | a :: l => by
    have ih := nz_pair l
    by_cases e : a = 0
    · subst e
      show (nz l).Pairwise dj ↔ _
      rw [List.pairwise_cons, ih]
      exact ⟨fun h => ⟨fun b _ => Nat.zero_and _, h⟩, fun h => h.2⟩
    · have e1 : nz (a :: l) = a :: nz l := by unfold nz; rw [List.filter_cons, if_pos (decide_eq_true e)]
      rw [e1, List.pairwise_cons, List.pairwise_cons, ih]
      refine ⟨fun h => ⟨fun b hb => ?_, h.2⟩, fun h => ⟨fun b hb => h.1 b ((List.mem_filter.1 hb).1), h.2⟩⟩
      by_cases e2 : b = 0
      · subst e2; exact Nat.and_zero _
      · exact h.1 b (List.mem_filter.2 ⟨hb, decide_eq_true e2⟩)
theorem dj_symm {a b : Int} (h : dj a b) : dj b a := by unfold dj at h ⊢; rw [Nat.and_comm]; exact h
theorem pair_rev (l : List Int) : l.reverse.Pairwise dj ↔ l.Pairwise dj := (List.reverse_perm l).pairwise_iff dj_symm

/-! ### Sums -/
def isum : List Int → Int
  | [] => 0
  | a :: l => a + isum l
theorem isum_append : ∀ l l' : List Int, isum (l ++ l') = isum l + isum l'
  | [], l' => by simp [isum]
  | a :: l, l' => by simp only [List.cons_append, isum, isum_append l l']; omega
theorem isum_rev : ∀ l : List Int, isum l.reverse = isum l
  | [] => rfl
  | a :: l => by rw [List.reverse_cons, isum_append, isum_rev l]; simp only [isum]; omega
theorem isum_nz : ∀ l : List Int, isum (nz l) = isum l
  | [] => rfl
  | a :: l => by
    have ih := isum_nz l
    by_cases e : a = 0
    · subst e
      show isum (nz l) = 0 + isum l
      rw [ih]; omega
    · have e1 : nz (a :: l) = a :: nz l := by unfold nz; rw [List.filter_cons, if_pos (decide_eq_true e)]
      rw [e1]; simp only [isum]; omega
theorem smTo_isum (l : List Int) : ∀ i, i ≤ l.length → smTo l i = isum (l.take i)
  | 0, _ => rfl
  | i + 1, h => by
    rw [smTo, smTo_isum l i (by omega), List.take_succ_eq_append_getElem (by omega), isum_append, List.getElem?_eq_getElem (by omega)]
    simp [isum]
theorem sm_isum (l : List Int) : sm l = isum l := by unfold sm; rw [smTo_isum l l.length (Nat.le_refl _), List.take_length]

/-! ### Diagonals -/
/-- x(k, 0), x(k - 1, 1), .., x(0, k). -/
def dia (T : Tab) (k : Nat) : List Int := (List.range (k + 1)).map fun j => T (k - j) j
def upw (T : Tab) (k i : Nat) : List Int := (List.range i).map fun i => T i (k - i)
theorem dia_rev (T : Tab) (k : Nat) : (dia T k).reverse = upw T k (k + 1) := by
  refine List.ext_getElem (by simp [dia, upw]) fun i h1 h2 => ?_
  have hi : i < k + 1 := by simpa [upw] using h2
  rw [List.getElem_reverse]
  simp only [dia, upw, List.getElem_map, List.getElem_range, List.length_map, List.length_range]
  congr 1 <;> omega
/-- Nothing outside n rows and m columns. -/
def inn (T : Tab) (n m : Nat) : Prop := ∀ i j, n < i ∨ m < j → T i j = 0
theorem upw_succ (T : Tab) (k i : Nat) : upw T k (i + 1) = upw T k i ++ [T i (k - i)] := by unfold upw; rw [List.range_succ, List.map_append]; rfl
theorem nz_append (l l' : List Int) : nz (l ++ l') = nz l ++ nz l' := List.filter_append ..
theorem nz_zero : nz [0] = [] := rfl
theorem sdgTo_succ (T : Tab) (m k i : Nat) : sdgTo T m k (i + 1) = if i ≤ k ∧ k - i ≤ m then sdgTo T m k i ++ [T i (k - i)] else sdgTo T m k i := rfl
theorem sdgTo_nz {T : Tab} {n m : Nat} (h : inn T n m) (k : Nat) : ∀ i, i ≤ k + 1 → nz (sdgTo T m k i) = nz (upw T k i)
  | 0, _ => rfl
  | i + 1, hi => by
    have ih := sdgTo_nz h k i (by omega)
    rw [upw_succ, nz_append, ← ih, sdgTo_succ]
    by_cases c : i ≤ k ∧ k - i ≤ m
    · rw [if_pos c, nz_append]
    · rw [if_neg c, h i (k - i) (Or.inr (by omega)), nz_zero, List.append_nil]
theorem sdgTo_far (T : Tab) (m k : Nat) : ∀ d, sdgTo T m k (k + 1 + d) = sdgTo T m k (k + 1)
  | 0 => rfl
  | d + 1 => by
    show sdgTo T m k (k + 1 + d + 1) = _
    rw [sdgTo_succ, if_neg (by omega)]
    exact sdgTo_far T m k d
theorem upw_far {T : Tab} {n m : Nat} (h : inn T n m) (k : Nat) : ∀ d, nz (upw T k (n + 1 + d)) = nz (upw T k (n + 1))
  | 0 => rfl
  | d + 1 => by
    show nz (upw T k (n + 1 + d + 1)) = _
    rw [upw_succ, nz_append, h (n + 1 + d) _ (Or.inl (by omega)), nz_zero, List.append_nil]
    exact upw_far h k d
theorem sdg_nz {T : Tab} {n m : Nat} (h : inn T n m) (k : Nat) : nz (sdg T n m k) = nz (upw T k (k + 1)) := by
  unfold sdg
  by_cases c : n ≤ k
  · rw [sdgTo_nz h k (n + 1) (by omega), show k + 1 = n + 1 + (k - n) by omega, upw_far h]
  · rw [show n + 1 = k + 1 + (n - k) by omega, sdgTo_far, sdgTo_nz h k (k + 1) (Nat.le_refl _)]
theorem nz_rev (l : List Int) : nz l.reverse = (nz l).reverse := List.filter_reverse ..

theorem dia_mem {T : Tab} {k : Nat} {z : Int} (h : z ∈ dia T k) : ∃ a b, z = T a b := by
  obtain ⟨j, _, e⟩ := List.mem_map.1 h
  exact ⟨_, _, e.symm⟩
theorem sdg_dia {T : Tab} {n m : Nat} (h : inn T n m) (hT : ∀ a b, 0 ≤ T a b ∧ T a b ≤ 1000000) (k : Nat) : (apL (sdg T n m k) ↔ apL (dia T k)) ∧ sm (sdg T n m k) = sm (dia T k) := by
  have e : nz (sdg T n m k) = (nz (dia T k)).reverse := by rw [sdg_nz h, ← dia_rev, nz_rev]
  refine ⟨?_, ?_⟩
  · rw [apL_iff (fun z hz => by obtain ⟨a, b, e⟩ := sdgTo_mem T m k (n + 1) z hz; rw [e]; exact hT a b), apL_iff (fun z hz => by obtain ⟨a, b, e⟩ := dia_mem hz; rw [e]; exact hT a b),
      ← nz_pair, e, pair_rev, nz_pair]
  · rw [sm_isum, sm_isum, ← isum_nz, e, isum_rev, isum_nz]

/-! ### The results -/
noncomputable def resI (T : Tab) : Option (List Int) :=
  @ite _ (∀ k, k < 5 → apL (dia T (k + 1))) (Classical.propDecidable _) (some (trim ((List.range 5).map fun k => sm (dia T (k + 1))))) none

theorem trimTo_congr {l l' : List Int} : ∀ j, l.take j = l'.take j → trimTo l j = trimTo l' j
  | 0, _ => rfl
  | j + 1, h => by
    have e : l[j]? = l'[j]? := by
      have := congrArg (fun x : List Int => x[j]?) h
      simpa [List.getElem?_take] using this
    have e2 : l.take j = l'.take j := by
      have := congrArg (List.take j) h
      rw [List.take_take, List.take_take] at this
      rwa [show min j (j + 1) = j by omega] at this
    unfold trimTo
    rw [e, h, trimTo_congr j e2]
theorem trim_zeros (s : Nat → Int) (a : Nat) (h : ∀ k, a ≤ k → s k = 0) : ∀ d, trim ((List.range (a + d)).map s) = trim ((List.range a).map s)
  | 0 => rfl
  | d + 1 => by
    rw [← trim_zeros s a h d]
    unfold trim
    rw [List.length_map, List.length_range, List.length_map, List.length_range]
    show trimTo _ (a + d + 1) = _
    rw [trimTo, if_pos (by rw [List.getElem?_map, List.getElem?_range (by omega)]; exact h (a + d) (by omega))]
    refine trimTo_congr _ ?_
    rw [← List.map_take, ← List.map_take, List.take_range, List.take_range]
    congr 2
    omega
theorem apL_zeros {l : List Int} (h : ∀ z ∈ l, z = 0) : apL l := by
  rw [apL_iff (fun z hz => by rw [h z hz]; exact ⟨Int.le_refl 0, by omega⟩)]
  refine List.pairwise_iff_getElem.2 fun i j hi hj _ => ?_
  rw [h _ (List.getElem_mem hi)]
  exact Nat.zero_and _
theorem sm_zeros {l : List Int} (h : ∀ z ∈ l, z = 0) : sm l = 0 := by
  rw [sm_isum]
  induction l with
  | nil => rfl
  | cons a l ih => rw [isum, ih fun z hz => h z (List.mem_cons_of_mem _ hz), h a List.mem_cons_self]; rfl
/-- By rows and columns, or in the square: the results are the same. -/
theorem resS_resI {T : Tab} {n m : Nat} (h : inn T n m) (h6 : ∀ i j, 6 ≤ i + j → T i j = 0) (hT : ∀ a b, 0 ≤ T a b ∧ T a b ≤ 1000000) : resS n m T = resI T := by
  have z1 : ∀ k, 5 ≤ k → ∀ z ∈ dia T (k + 1), z = 0 := fun k hk z hz => by
    obtain ⟨j, hj, e⟩ := List.mem_map.1 hz
    have := List.mem_range.1 hj
    rw [← e]; exact h6 _ _ (by omega)
  have z2 : ∀ k, n + m ≤ k → ∀ z ∈ dia T (k + 1), z = 0 := fun k hk z hz => by
    obtain ⟨j, hj, e⟩ := List.mem_map.1 hz
    have := List.mem_range.1 hj
    rw [← e]; exact h _ _ (by omega)
  have e1 : (∀ k, k < n + m → apL (sdg T n m (k + 1))) ↔ (∀ k, k < 5 → apL (dia T (k + 1))) := by
    constructor
    · intro a k hk
      by_cases c : k < n + m
      · exact (sdg_dia h hT (k + 1)).1.1 (a k c)
      · exact apL_zeros (z2 k (by omega))
    · intro a k hk
      refine (sdg_dia h hT (k + 1)).1.2 ?_
      by_cases c : k < 5
      · exact a k c
      · exact apL_zeros (z1 k (by omega))
  have e2 : trim (outs T n m (n + m)) = trim ((List.range 5).map fun k => sm (dia T (k + 1))) := by
    have e3 : outs T n m (n + m) = (List.range (n + m)).map fun k => sm (dia T (k + 1)) := List.map_congr_left fun k _ => (sdg_dia h hT (k + 1)).2
    rw [e3]
    by_cases c : n + m ≤ 5
    · have := trim_zeros (fun k => sm (dia T (k + 1))) (n + m) (fun k hk => sm_zeros (z2 k hk)) (5 - (n + m))
      rw [show n + m + (5 - (n + m)) = 5 by omega] at this
      exact this.symm
    · have := trim_zeros (fun k => sm (dia T (k + 1))) 5 (fun k hk => sm_zeros (z1 k hk)) (n + m - 5)
      rw [show 5 + (n + m - 5) = n + m by omega] at this
      exact this
  unfold resS resI
  by_cases c : ∀ k, k < 5 → apL (dia T (k + 1))
  · rw [if_pos c, if_pos (e1.2 c), e2]
  · rw [if_neg c, if_neg (fun x => c (e1.1 x))]
end Go.Proofs.Ytnmilkehggjpfaa
end
