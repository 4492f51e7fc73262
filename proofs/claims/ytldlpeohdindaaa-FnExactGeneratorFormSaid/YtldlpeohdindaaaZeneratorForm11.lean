/-
  Joined: SLeft.
-/
import Derived.Test.YtldlpeohdindaaaZeneratorForm04
import Derived.Test.YtldlpeohdindaaaZeneratorForm08
import Derived.Test.YtldlpeohdindaaaZeneratorForm09
import Derived.Test.YtldlpeohdindaaaZeneratorForm10
import Derived.Deep.DeepCutAuto
import Derived.Deep.RegionHeld3
section
namespace Go.Proofs.Ytldlpeohdindaaa
open Go.RowKit
set_option linter.unusedVariables false
set_option maxRecDepth 100000

/-- V reads as the m lists X 0, .. -/
def RdR (w : World) (V : Value) (m : Nat) (X : Nat → List Int) : Prop := ∃ a cap, V = .slice a m cap ∧ m ≤ maxLen ∧ ∃ VS : Nat → Value, (m = 0 ∨ ∃ b off, a = some ⟨b, off, none⟩ ∧ ∀ i, i < m → w.cell? ⟨b, off + i, none⟩ = some (VS i)) ∧ ∀ i, i < m → RdN w (VS i) (X i)
theorem RdR.below {w w' : World} {V : Value} {m : Nat} {X : Nat → List Int} (h : RdR w V m X) (k : Below w.heap.size w w') : RdR w' V m X := by
  obtain ⟨a, cap, e, hm, VS, hc, hr⟩ := h
  refine ⟨a, cap, e, hm, VS, ?_, fun i hi => (hr i hi).below k⟩
  rcases hc with h0 | ⟨b, off, h1, h2⟩
  · exact .inl h0
  · exact .inr ⟨b, off, h1, fun i hi => (k.cell (p := ⟨b, off + i, none⟩) (World.block_lt_of_cell? w _ (h2 i hi))).trans (h2 i hi)⟩
theorem Fam.rdr {w : World} {B : Nat} {V : Value} {m : Nat} {VS : Nat → Value} {X : Nat → List Int} (h : Fam w B V m VS X) : RdR w V m X := by
  obtain ⟨a, cap, e, hm, hc⟩ := h.head
  refine ⟨a, cap, e, hm, VS, ?_, fun i hi => RdN.of_own (h.inn i hi)⟩
  rcases hc with h0 | ⟨b, h1, h2⟩
  · exact .inl h0
  · exact .inr ⟨b, 0, h1, fun i hi => by rw [Nat.zero_add]; exact h2 i hi⟩

/-- What l03Left leaves. -/
def LeftPost (f : Nat) (i : Int) (T : List (List Int)) (w : World) (e : Ending) (w' : World) : Prop :=
  ∃ U US zs, e = .returned U ∧ FamL w' w.heap.size U US zs ∧ Sep zs.length US ∧ Asc zs ∧ (∀ x, x ∈ zs ↔ par (T.flatMap (admF f i)) x) ∧ Below w.heap.size w w'
/-- What it is asked of the words. -/
def wordOk (f : Nat) (i : Int) (x : List Int) : Prop := isAdm x ∧ i + x.sum ≤ 40 ∧ mu i x < f

/-- The lists that a round starts with. -/
structure LSt (f : Nat) (i : Int) (T : List (List Int)) (w : World) (S : Value) (US : Nat → Value) (zs : List (List Int)) (wr : World) : Prop where
  fam : FamL wr w.heap.size S US zs
  sep : Sep zs.length US
  asc : Asc zs
  mem : ∀ x, x ∈ zs ↔ par T x
  bel : Below w.heap.size w wr
theorem LSt.up {f : Nat} {i : Int} {T : List (List Int)} {w wr w' : World} {S : Value} {US : Nat → Value} {zs : List (List Int)} (h : LSt f i T w S US zs wr) (k : Below wr.heap.size wr w') : LSt f i T w S US zs w' :=
  ⟨h.fam.below k, h.sep, h.asc, h.mem, h.bel.trans (k.mono h.bel.size)⟩
theorem LSt.ok {f : Nat} {i : Int} {T : List (List Int)} {w wr : World} {S : Value} {US : Nat → Value} {zs : List (List Int)} (h : LSt f i T w S US zs wr) (hT : ∀ x ∈ T, isAdm x ∧ x.sum ≤ 40) : zs.length ≤ 6000000000 ∧ ∀ j, j < zs.length → (rowsOf zs j).length ≤ 6 := by
  have hz : ∀ x ∈ zs, isAdm x ∧ x.sum ≤ 40 := fun x hx => hT x (par_mem _ _ ((h.mem x).1 hx))
  refine ⟨adm_count zs h.asc.nodup hz, fun j hj => ?_⟩
  unfold rowsOf
  rw [List.getElem?_eq_getElem hj]
  have := hz _ (List.getElem_mem hj)
  exact isAdm_len this.1 this.2
theorem words_ok {f : Nat} {i : Int} (hi : 0 ≤ i) (L : List (List Int)) (h : ∀ y ∈ L, wordOk f i y) : ∀ x ∈ L.flatMap (admF f i), isAdm x ∧ x.sum ≤ 40 := by
  intro x hx
  obtain ⟨y, hy, hx⟩ := List.mem_flatMap.1 hx
  obtain ⟨h1, h2, h3⟩ := h y hy
  have := admF_ok f i y hi h1 h2 h3 x hx
  exact ⟨this.1, by rw [this.2]; exact h2⟩

theorem admF_put (f : Nat) (i : Int) (x : List Int) (h : i = 0 ∨ x = [] ∨ ∃ b r, x = b :: r ∧ 2 * b ≤ i) : admF (f + 1) i x = [front i x] := by
  unfold front
  cases x with
  | nil => unfold admF; split <;> rfl
  | cons b r =>
    unfold admF
    split
    · rfl
    · rename_i h0
      rcases h with h | h | ⟨b', r', e, h⟩
      · exact absurd h h0
      · cases h
      · cases e; rw [if_pos h]
theorem admF_rec (f : Nat) (i b : Int) (r : List Int) (h0 : i ≠ 0) (h : i < 2 * b) : admF (f + 1) i (b :: r) = (js b i).flatMap fun j => (admF f j r).flatMap fun w => admF f (i + b - j) w := by
  conv => lhs; unfold admF
  rw [if_neg h0, if_neg (by omega)]

theorem front_len (i : Int) (x : List Int) : (front i x).length ≤ x.length + 1 := by unfold front; split <;> simp
/-- The first places. -/
def jsTo (b i : Int) (j : Nat) : List Int := ((List.range j).filter (fun j => decide (bpar (b.toNat - j - 1) (i.toNat - 2 * j) = 1))).map (fun j : Nat => (j : Int))
theorem jsTo_all (b i : Int) : jsTo b i (i.toNat / 2 + 1) = js b i := rfl
theorem jsTo_yes (b i : Int) (j : Nat) (h : bpar (b.toNat - j - 1) (i.toNat - 2 * j) = 1) : jsTo b i (j + 1) = jsTo b i j ++ [(j : Int)] := by
  unfold jsTo; rw [List.range_succ, List.filter_append]; simp [h]
theorem jsTo_no (b i : Int) (j : Nat) (h : bpar (b.toNat - j - 1) (i.toNat - 2 * j) ≠ 1) : jsTo b i (j + 1) = jsTo b i j := by
  unfold jsTo; rw [List.range_succ, List.filter_append]; simp [h]
theorem jsTo_mem {b i j : Int} {n : Nat} (h : j ∈ jsTo b i n) : 0 ≤ j ∧ j < n := by
  obtain ⟨k, hk, rfl⟩ := List.mem_map.1 h
  have := List.mem_range.1 (List.mem_filter.1 hk).1
  omega
theorem jsTo_sub {b i : Int} {n : Nat} {y : Int} (h : y ∈ jsTo b i n) (hn : n ≤ i.toNat / 2 + 1) : y ∈ js b i := by
  obtain ⟨k, hk, rfl⟩ := List.mem_map.1 h
  obtain ⟨h1, h2⟩ := List.mem_filter.1 hk
  have := List.mem_range.1 h1
  exact List.mem_map.2 ⟨k, List.mem_filter.2 ⟨List.mem_range.2 (by omega), h2⟩, rfl⟩
theorem chain_mem (f : Nat) (i j : Int) (r : List Int) (zs2 zs3 : List (List Int)) (h2 : Asc zs2) (m2 : ∀ x, x ∈ zs2 ↔ par ((rowsL (fun _ => r) 1).flatMap (admF f j)) x) (m3 : ∀ x, x ∈ zs3 ↔ par (zs2.flatMap (admF f i)) x) :
    ∀ x, x ∈ zs3 ↔ par ((admF f j r).flatMap fun w => admF f i w) x := fun x => by
  rw [m3]
  exact par_flatMap _ _ _ _ fun y => by rw [par_nodup zs2 h2.nodup, m2]; simp [rowsL]
/-- One place of Adem's relation: what it asks. -/
theorem rest_ok (f : Nat) (i b j : Int) (r : List Int) (hi : 0 < i) (hb : 1 ≤ b) (hlt : i < 2 * b) (h1 : 0 ≤ j) (h2 : 2 * j ≤ i) (hr : isAdm r) (h40 : i + (b :: r).sum ≤ 40) (hmu : mu i (b :: r) < f + 1) :
    wordOk f j r ∧ ∀ z ∈ admF f j r, wordOk f (i + b - j) z := by
  have hrs := isAdm_sum hr
  have h41 := h40
  rw [List.sum_cons] at h41
  have m1 := mu_rest hi hb ⟨h1, h2⟩ hrs h40
  refine ⟨⟨hr, by omega, by omega⟩, fun z hz => ?_⟩
  obtain ⟨a1, a2⟩ := admF_ok f j r h1 hr (by omega) (by omega) z hz
  exact ⟨a1, by rw [a2]; omega, by have := mu_step hi hb hlt ⟨h1, h2⟩ hrs a2 h40; omega⟩
theorem rowsL_of (zs : List (List Int)) : rowsL (rowsOf zs) zs.length = zs := by
  apply List.ext_getElem
  · simp [rowsL]
  · intro i h1 h2
    simp [rowsL, rowsOf, h2]

theorem LSt.put {f : Nat} {i : Int} {T : List (List Int)} {y : List Int} {w wr w' : World} {S V : Value} {US VS : Nat → Value} {zs : List (List Int)} (h : LSt f i T w S US zs wr) (hF : FamL w' w.heap.size V VS (putL zs y)) (hS : Sep (putL zs y).length VS) (hb : Below w.heap.size w w') :
    LSt f i (T ++ [y]) w V VS (putL zs y) w' := by
  obtain ⟨h1, h2⟩ := putL_spec zs y h.asc
  refine ⟨hF, hS, h1, fun x => ?_, hb⟩
  rw [h2, par_snoc, ← h.mem]
  by_cases e : x = y
  · rw [e]; simp
  · have : y ≠ x := fun e2 => e e2.symm
    simp [e, this]
theorem LSt.add {f : Nat} {i : Int} {T T2 : List (List Int)} {w wr w' : World} {S V : Value} {US VS : Nat → Value} {zs zs2 : List (List Int)} (h : LSt f i T w S US zs wr) (h2 : Asc zs2) (h3 : ∀ x, x ∈ zs2 ↔ par T2 x) (hF : FamL w' w.heap.size V VS (mrg zs zs2)) (hS : Sep (mrg zs zs2).length VS) (hb : Below w.heap.size w w') :
    LSt f i (T ++ T2) w V VS (mrg zs zs2) w' := by
  obtain ⟨h4, h5⟩ := mrg_spec zs zs2 h.asc h2
  refine ⟨hF, hS, h4, fun x => ?_, hb⟩
  rw [h5, par_append, h.mem, h3]

theorem left_zero (f : Nat) (i : Int) (V : Value) (X : Nat → List Int) (w : World) (h : RdR w V 0 X) : Calls Try.prog 45 #[.int .i64 i, V] w (LeftPost f i (rowsL X 0) w) := by
  obtain ⟨a, cap, rfl, _⟩ := h
  have B0 := Lib.hid ((Below.refl _ w).alloc (Nat.le_refl _) (.cells #[] 46))
  have F0 : Hid (FamL (w.alloc (.cells #[] 46)) w.heap.size (.slice (some ⟨w.heap.size, 0, none⟩) 0 0) (fun _ => undef) []) := Lib.hid ⟨World.ownsRow_made w #[] 0 (Nat.le_refl _) (Nat.zero_le _) (by simp), fun i hi => absurd hi (Nat.not_lt_zero _)⟩
  go_enter Try.func45, Try.ntmps45
  go_wp2_with fail
  refine wp_loop_rounds 1 ?_
  rw [rounds_succ]
  go_wp2_with fail
  go_ret
  exact ⟨_, _, [], rfl, F0.out, fun i j hi => absurd hi (Nat.not_lt_zero _), List.Pairwise.nil, fun x => by simp [rowsL, par], B0.out⟩

set_option maxHeartbeats 8000000 in
theorem left_step (f : Nat) (IH : ∀ (i : Int) (V : Value) (m : Nat) (X : Nat → List Int) (w : World), 0 ≤ i → RdR w V m X → m ≤ 6000000000 → (∀ k, k < m → wordOk f i (X k)) → Calls Try.prog 45 #[.int .i64 i, V] w (LeftPost f i (rowsL X m) w))
    (ni : Nat) (V : Value) (m : Nat) (X : Nat → List Int) (w : World) (h : RdR w V m X) (hm0 : 0 < m) (hm : m ≤ 6000000000) (hX : ∀ k, k < m → wordOk (f + 1) (ni : Int) (X k)) :
    Calls Try.prog 45 #[.int .i64 (ni : Int), V] w (LeftPost (f + 1) (ni : Int) (rowsL X m) w) := by
  have IH := Lib.hid IH
  have HW := Lib.hid hX
  have HI : ni ≤ 40 := by
    obtain ⟨h1, h2, _⟩ := hX 0 hm0
    have := isAdm_sum h1
    omega
  have HTT : Hid (∀ k, k ≤ m → ∀ x ∈ (rowsL X k).flatMap (admF (f + 1) (ni : Int)), isAdm x ∧ x.sum ≤ 40) := Lib.hid fun k hk => words_ok (by omega) _ (fun y hy => by obtain ⟨j, hj, rfl⟩ := mem_rowsL hy; exact hX j (by omega))
  obtain ⟨a, cap, rfl, hmm, VS, hc, hr⟩ := h
  obtain ⟨b0, off, rfl, hcell⟩ := hc.resolve_left (by omega)
  have HC := Lib.hid hcell
  have HR := Lib.hid hr
  have hbl : b0 < w.heap.size := World.block_lt_of_cell? w ⟨b0, off + 0, none⟩ (hcell 0 hm0)
  unfold maxLen at hmm
  have S0 : Hid (LSt (f + 1) (ni : Int) ((rowsL X 0).flatMap (admF (f + 1) (ni : Int))) w (.slice (some ⟨w.heap.size, 0, none⟩) 0 0) (fun _ => undef) [] (w.alloc (.cells #[] 46))) := Lib.hid
    ⟨⟨World.ownsRow_made w #[] 0 (Nat.le_refl _) (Nat.zero_le _) (by simp), fun i hi => absurd hi (Nat.not_lt_zero _)⟩, fun i j hi => absurd hi (Nat.not_lt_zero _), List.Pairwise.nil, fun x => by simp [rowsL, par], (Below.refl _ w).alloc (Nat.le_refl _) _⟩
  clear hc hcell hr hX hm0
  go_enter Try.func45, Try.ntmps45
  go_wp2_with fail
  go_loopw [5, 6, 7, 8, 9, 10] (fun S c _ _ _ _ wr => ∃ (k : Nat) (US : Nat → Value) (zs : List (List Int)), k ≤ m ∧ c = .int .i64 k ∧ Hid (LSt (f + 1) (ni : Int) ((rowsL X k).flatMap (admF (f + 1) (ni : Int))) w S US zs wr)) (fun _ c _ _ _ _ _ => m - (intOf c).toNat)
  case atStart => exact ⟨0, _, [], Nat.zero_le _, rfl, S0⟩
  case round =>
    clear S0
    obtain ⟨k, US, zs, hk, rfl, hS⟩ := hrel
    by_cases hlt : k < m
    · have hlt' : (k : Int) < (m : Int) := by omega
      have c1 : wr.cell? ⟨b0, off + k, none⟩ = some (VS k) := (hS.out.bel.cell (p := ⟨b0, off + k, none⟩) hbl).trans (HC.out k hlt)
      have RK : Hid (RdN wr (VS k) (X k)) := Lib.hid ((HR.out k hlt).below hS.out.bel)
      obtain ⟨hadm, h40, hmu⟩ := HW.out k hlt
      have HL6 := isAdm_len hadm (by have := isAdm_sum hadm; omega)
      obtain ⟨hzl, hzr⟩ := hS.out.ok (HTT.out k (by omega))
      have NX : Hid ((rowsL X (k + 1)).flatMap (admF (f + 1) (ni : Int)) = (rowsL X k).flatMap (admF (f + 1) (ni : Int)) ++ admF (f + 1) (ni : Int) (X k)) := Lib.hid (by rw [rowsL_succ, List.flatMap_append, List.flatMap_cons, List.flatMap_nil, List.append_nil])
      have HWK := Lib.hid (HW.out k hlt)
      by_cases hi0 : ni = 0
      · have hi1 : ((ni : Int) == 0) = true := by rw [beq_iff_eq]; omega
        have AP : Hid (admF (f + 1) (ni : Int) (X k) = [front (ni : Int) (X k)]) := Lib.hid (admF_put f (ni : Int) (X k) (.inl (by omega)))
        rw [AP.out] at NX
        clear hi0
        have FR := Lib.hid (l03Front_any (ni : Int) (VS k) (X k) wr RK.out (by have := HL6; omega))
        obtain ⟨vk, hvk⟩ : ∃ vk, VS k = vk := ⟨_, rfl⟩
        rw [hvk] at c1 FR
        clear RK hvk
        go_wp2_with fail
        refine FR.out.mono ?_
        rintro e w3 ⟨u, rfl, hu, hb3⟩
        have HU := Lib.hid hu
        have S3 := Lib.hid (hS.out.up hb3)
        have hsz3 := S3.out.bel.size
        have PT := Lib.hid (l01Put_any _ u US zs (front (ni : Int) (X k)) w.heap.size _ w3 S3.out.fam S3.out.sep HU.out (by have := HL6; have := front_len (ni : Int) (X k); omega) hsz3 (by omega))
        clear hu hb3
        go_wp2_with fail
        refine PT.out.mono ?_
        rintro e w4 ⟨V4, VS4, rfl, hF4, hS4, hb4⟩
        have S4 := Lib.hid (S3.out.put hF4 hS4 (S3.out.bel.trans (hb4.mono hsz3)))
        clear hF4 hS4 hb4
        go_wp2_with fail
        go_roundw
        case rel => exact ⟨k + 1, VS4, _, by omega, by go_num, Lib.hid (by rw [NX.out]; exact S4.out)⟩
        case measure => simp [intOf]; omega
      · have hi1 : ((ni : Int) == 0) = false := by rw [beq_eq_false_iff_ne]; omega
        rcases hx : X k with _ | ⟨b, r⟩
        · have AP : Hid (admF (f + 1) (ni : Int) (X k) = [front (ni : Int) (X k)]) := Lib.hid (admF_put f (ni : Int) (X k) (.inr (.inl hx)))
          rw [AP.out] at NX
          rw [hx] at RK NX
          have HLX : Hid ((X k).length = 0) := Lib.hid (by rw [hx]; rfl)
          obtain ⟨av, cv, ev, hcv, hmv, hv⟩ := id RK.out
          have FR := Lib.hid (l03Front_any (ni : Int) (VS k) [] wr RK.out (by have := HL6; simp))
          obtain ⟨vk, hvk⟩ : ∃ vk, VS k = vk := ⟨_, rfl⟩
          rw [hvk] at c1 FR
          rw [hvk] at ev
          subst ev
          clear RK hvk hv
          go_wp2_with fail
          refine FR.out.mono ?_
          rintro e w3 ⟨u, rfl, hu, hb3⟩
          have HU := Lib.hid hu
          have S3 := Lib.hid (hS.out.up hb3)
          have hsz3 := S3.out.bel.size
          have PT := Lib.hid (l01Put_any _ u US zs (front (ni : Int) []) w.heap.size _ w3 S3.out.fam S3.out.sep HU.out (by have := HL6; have := front_len (ni : Int) []; (simp at this; omega)) hsz3 (by omega))
          clear hu hb3
          go_wp2_with fail
          refine PT.out.mono ?_
          rintro e w4 ⟨V4, VS4, rfl, hF4, hS4, hb4⟩
          have S4 := Lib.hid (S3.out.put hF4 hS4 (S3.out.bel.trans (hb4.mono hsz3)))
          clear hF4 hS4 hb4
          go_wp2_with fail
          go_roundw
          case rel => exact ⟨k + 1, VS4, _, by omega, by go_num, Lib.hid (by rw [NX.out]; exact S4.out)⟩
          case measure => simp [intOf]; omega
        · rw [hx] at hadm h40 hmu
          have hb1 := isAdm_pos hadm
          have hrt := isAdm_tail hadm
          have hrs := isAdm_sum hrt
          obtain ⟨nb, rfl⟩ := Int.eq_ofNat_of_zero_le (by omega : 0 ≤ b)
          have hb40 : nb ≤ 40 := by rw [List.sum_cons] at h40; omega
          have RK2 := RK.out
          rw [hx] at RK2
          obtain ⟨av, cv, ev, hcv, hmv, hv⟩ := RK2
          rcases hv with ⟨_, hv⟩ | ⟨bv, ov, rfl, hv⟩
          · simp at hcv; omega
          · have c2 := hv 0 (by simp)
            simp only [Nat.add_zero, List.getElem?_cons_zero, Option.getD_some] at c2
            have hw2 : IntKind.i64.wrap (2 * (nb : Int)) = 2 * (nb : Int) := by rw [IntKind.wrap_i64]; omega
            have hn0 : (((nb : Int) :: r).length : Int) ≠ 0 := by simp; omega
            have hn1 : ((((nb : Int) :: r).length : Int) == 0) = false := by rw [beq_eq_false_iff_ne]; exact hn0
            have hnp : (0 : Int) < (((nb : Int) :: r).length : Int) := by simp only [List.length_cons]; omega
            by_cases h2 : 2 * (nb : Int) ≤ (ni : Int)
            · have AP : Hid (admF (f + 1) (ni : Int) (X k) = [front (ni : Int) (X k)]) := Lib.hid (admF_put f (ni : Int) (X k) (.inr (.inr ⟨_, _, hx, h2⟩)))
              rw [AP.out] at NX
              rw [hx] at RK NX
              have FR := Lib.hid (l03Front_any (ni : Int) (VS k) ((nb : Int) :: r) wr RK.out (by have := HL6; (rw [hx] at this; omega)))
              obtain ⟨vk, hvk⟩ : ∃ vk, VS k = vk := ⟨_, rfl⟩
              rw [hvk] at c1 FR
              rw [hvk] at ev
              subst ev
              clear RK hvk hv
              go_wp2_with fail
              refine FR.out.mono ?_
              rintro e w3 ⟨u, rfl, hu, hb3⟩
              have HU := Lib.hid hu
              have S3 := Lib.hid (hS.out.up hb3)
              have hsz3 := S3.out.bel.size
              have PT := Lib.hid (l01Put_any _ u US zs (front (ni : Int) ((nb : Int) :: r)) w.heap.size _ w3 S3.out.fam S3.out.sep HU.out (by have := HL6; have := front_len (ni : Int) ((nb : Int) :: r); (rw [hx] at HL6; omega)) hsz3 (by omega))
              clear hu hb3
              go_wp2_with fail
              refine PT.out.mono ?_
              rintro e w4 ⟨V4, VS4, rfl, hF4, hS4, hb4⟩
              have S4 := Lib.hid (S3.out.put hF4 hS4 (S3.out.bel.trans (hb4.mono hsz3)))
              clear hF4 hS4 hb4
              go_wp2_with fail
              go_roundw
              case rel => exact ⟨k + 1, VS4, _, by omega, by go_num, Lib.hid (by rw [NX.out]; exact S4.out)⟩
              case measure => simp [intOf]; omega
            · have h2' : ¬ 2 * (nb : Int) ≤ (ni : Int) := h2
              have HNX := Lib.hid (admF_rec f (ni : Int) (nb : Int) r (by omega) (by omega))
              obtain ⟨G, hG⟩ : ∃ G : Int → List (List Int), (fun j => (admF f j r).flatMap fun w => admF f ((ni : Int) + (nb : Int) - j) w) = G := ⟨_, rfl⟩
              have HG := Lib.hid hG
              rw [hG] at HNX
              rw [hx, HNX.out] at NX
              have HTX : Hid (∀ x ∈ (js (nb : Int) (ni : Int)).flatMap G, isAdm x ∧ x.sum ≤ 40) := Lib.hid fun x hxx => by
                rw [← HNX.out] at hxx
                have := admF_ok (f + 1) (ni : Int) ((nb : Int) :: r) (by omega) hadm h40 hmu x hxx
                exact ⟨this.1, by rw [this.2]; exact h40⟩
              have HMU := Lib.hid hmu
              have HAD := Lib.hid hrt
              have HS40 : Hid ((ni : Int) + (nb : Int) + r.sum ≤ 40 ∧ 0 ≤ r.sum) := Lib.hid (by rw [List.sum_cons] at h40; exact ⟨by omega, hrs⟩)
              have HH40 := Lib.hid h40
              have HTK := Lib.hid (HTT.out k (by omega))
              have HRR : Hid (RdN wr (.slice (if cv = 1 then some ⟨bv, ov, none⟩ else some ⟨bv, ov + 1, none⟩) r.length (cv - 1)) r) := Lib.hid (by
                simp only [List.length_cons] at hcv hmv
                by_cases e : cv = 1
                · rw [if_pos e]
                  have hr0 : r = [] := List.eq_nil_of_length_eq_zero (by omega)
                  subst hr0
                  exact ⟨_, _, rfl, by simp, Nat.zero_le _, .inr ⟨_, _, rfl, fun i hi => absurd hi (Nat.not_lt_zero _)⟩⟩
                · rw [if_neg e]
                  refine ⟨_, _, rfl, by omega, by omega, .inr ⟨_, _, rfl, fun i hi => ?_⟩⟩
                  have := hv (i + 1) (by simp only [List.length_cons]; omega)
                  rw [List.getElem?_cons_succ] at this
                  rw [show ov + 1 + i = ov + (i + 1) by omega]
                  exact this)
              rw [ev] at c1
              obtain ⟨nl, hnl⟩ : ∃ nl, ((nb : Int) :: r).length = nl + 1 := ⟨r.length, rfl⟩
              have hrl : r.length = nl := by simpa using hnl
              rw [hnl] at c1 hn1 hnp hcv hmv
              rw [hrl] at HRR
              have hle1 : (1 : Int) ≤ (nl : Int) + 1 := by omega
              have hle2 : ((nl + 1 : Nat) : Int) ≤ (cv : Int) := by omega
              have c2q : wr.drew.cell? ⟨bv, ov, none⟩ = some (.int .i64 (nb : Int)) := c2
              have hbv : bv < wr.heap.size := World.block_lt_of_cell? wr ⟨bv, ov, none⟩ c2
              have KEEP : Hid (∀ wx, Below wr.heap.size wr wx → (wx.cell? ⟨bv, ov, none⟩ = some (.int .i64 (nb : Int)) ∧ Below wr.heap.size wr wx)) := Lib.hid fun wx hb => ⟨(hb.cell (p := ⟨bv, ov, none⟩) hbv).trans c2, hb⟩
              have B8 : Hid (∀ rv, Below wr.heap.size wr (wr.alloc (.cells #[rv] 46)).drew) := Lib.hid fun rv => ((Below.refl _ wr).alloc (Nat.le_refl _) _).drew
              have B9 : Hid (∀ rv, Below wr.heap.size wr (wr.drew.alloc (.cells #[rv] 46))) := Lib.hid fun rv => (Below.refl _ wr).drew.alloc (Nat.le_refl _) _
              have N8 : Hid (∀ rv, (wr.alloc (.cells #[rv] 46)).drew.cell? ⟨wr.heap.size, 0, none⟩ = some rv) := Lib.hid fun rv => cell_of_row _ wr.heap.size 0 _ _ (0, 0) (heap_alloc_new wr _)
              clear RK hx hadm h40 hmu hrt hrs hv ev hn0 hnl hrl hG HL6
              go_upto_region 8 with fail
              go_cut [7, 8, 9] (fun _ s8 s9 wx => ∃ (g : Nat) (rv : Value), s8 = .int .i64 (nb : Int) ∧ s9 = .slice (some ⟨g, 0, none⟩) 1 1 ∧ Hid (wx.cell? ⟨g, 0, none⟩ = some rv) ∧ Hid (RdN wx rv r) ∧ Hid (Below wr.heap.size wr wx))
              case first =>
                by_cases hcv1 : cv = 1
                · subst hcv1
                  obtain rfl : nl = 0 := by omega
                  rw [if_pos rfl] at HRR
                  have HRR : Hid (RdN wr (.slice (some ⟨bv, ov, none⟩) 0 0) r) := Lib.hid HRR.out
                  go_region_held3 (fun wx => wx.cell? ⟨bv, ov, none⟩ = some (.int .i64 (nb : Int)) ∧ Below wr.heap.size wr wx)
                    (first | exact KEEP.out _ (Below.refl _ _).drew | exact KEEP.out _ (B9.out _) | exact KEEP.out _ (by assumption))
                    (first | fail)
                  go_wp2_with fail
                  go_meet
                  exact ⟨_, _, rfl, rfl, Lib.hid (N8.out _), Lib.hid ((HRR.out).below (B8.out _)), B8.out _⟩
                · rw [if_neg hcv1] at HRR
                  go_region_held3 (fun wx => wx.cell? ⟨bv, ov, none⟩ = some (.int .i64 (nb : Int)) ∧ Below wr.heap.size wr wx)
                    (first | exact KEEP.out _ (Below.refl _ _).drew | exact KEEP.out _ (B9.out _) | exact KEEP.out _ (by assumption))
                    (first | fail)
                  go_wp2_with fail
                  go_meet
                  exact ⟨_, _, rfl, rfl, Lib.hid (N8.out _), Lib.hid ((HRR.out).below (B8.out _)), B8.out _⟩
              case rest =>
                obtain ⟨g, rv, rfl, rfl, hc8, hr8, hb8⟩ := hcut
                have S8 := Lib.hid (hS.out.up hb8.out)
                have MU := Lib.hid fun (j : Int) (h1 : 0 ≤ j) (h2 : 2 * j ≤ (ni : Int)) => rest_ok f (ni : Int) (nb : Int) j r (by omega) (by omega) (by omega) h1 h2 HAD.out HH40.out HMU.out
                clear KEEP B8 B9 N8 c2 c2q hbv c1 hle1 hle2 hcv hmv hnp hn1 HRR hw2 hS
                go_wp2_with fail
                go_loopw [5, 10] (fun S c wr => ∃ (j : Nat) (US : Nat → Value) (zs : List (List Int)), j ≤ ni / 2 + 1 ∧ c = .int .i64 j ∧ Hid (LSt (f + 1) (ni : Int) ((rowsL X k).flatMap (admF (f + 1) (ni : Int)) ++ (jsTo (nb : Int) (ni : Int) j).flatMap G) w S US zs wr) ∧ Hid (Below wc.heap.size wc wr)) (fun _ c _ => ni / 2 + 1 - (intOf c).toNat)
                case atStart => exact ⟨0, _, _, by omega, rfl, Lib.hid (by simpa [jsTo] using S8.out), Lib.hid (Below.refl _ _)⟩
                case round =>
                  clear S8
                  obtain ⟨j, US, zs, hj, rfl, hS, hBj⟩ := hrel
                  obtain ⟨hzl, hzr⟩ := hS.out.ok (fun x hx => by
                    rcases List.mem_append.1 hx with hx | hx
                    · exact HTK.out x hx
                    · obtain ⟨y, hy, hx⟩ := List.mem_flatMap.1 hx
                      exact HTX.out x (List.mem_flatMap.2 ⟨y, jsTo_sub hy (by omega), hx⟩))
                  have HBW := Lib.hid (hb8.out.trans (hBj.out.mono hb8.out.size))
                  by_cases hj2 : 2 * (j : Int) ≤ (ni : Int)
                  · obtain ⟨p, hp⟩ : ∃ p : Nat, (nb : Int) - (j : Int) - 1 = (p : Int) := ⟨nb - j - 1, by omega⟩
                    obtain ⟨q, hq⟩ : ∃ q : Nat, (ni : Int) - 2 * (j : Int) = (q : Int) := ⟨ni - 2 * j, by omega⟩
                    have P : Hid (Calls Try.prog 34 #[.int .i64 ((nb : Int) - (j : Int) - 1), .int .i64 ((ni : Int) - 2 * (j : Int))] wr fun e w' => e = .returned (.int .i64 (bpar p q)) ∧ wr = w') := Lib.hid (by rw [hp, hq]; exact l01Parity_in p q wr (by omega) (by omega))
                    have ep : bpar p q = bpar ((nb : Int).toNat - j - 1) ((ni : Int).toNat - 2 * j) := by
                      rw [show p = (nb : Int).toNat - j - 1 by omega, show q = (ni : Int).toNat - 2 * j by omega]
                    by_cases hb1 : bpar p q = 1
                    · have JY := Lib.hid (jsTo_yes (nb : Int) (ni : Int) j (by rw [← ep]; exact hb1))
                      rw [hb1] at P
                      have MJ := Lib.hid (MU.out (j : Int) (by omega) hj2)
                      have RD1 : Hid (RdR wr (.slice (some ⟨g, 0, none⟩) 1 1) 1 (fun _ => r)) := Lib.hid (by
                        have hgl := World.block_lt_of_cell? wc ⟨g, 0, none⟩ hc8.out
                        refine ⟨_, _, rfl, by unfold maxLen; omega, fun _ => rv, .inr ⟨g, 0, rfl, fun i hi => ?_⟩, fun i hi => hr8.out.below hBj.out⟩
                        obtain rfl : i = 0 := by omega
                        exact (hBj.out.cell (p := ⟨g, 0, none⟩) hgl).trans hc8.out)
                      have C1 := Lib.hid (IH.out (j : Int) (.slice (some ⟨g, 0, none⟩) 1 1) 1 (fun _ => r) wr (by omega) RD1.out (by omega) (fun _ _ => MJ.out.1))
                      clear RD1 hp hq ep hb1
                      go_wp2_with fail
                      refine P.out.mono ?_
                      rintro e w2 ⟨rfl, rfl⟩
                      go_wp2_with fail
                      refine C1.out.mono ?_
                      rintro e w2 ⟨U2, US2, zs2, rfl, f2, s2, a2, m2, b2⟩
                      have Z2 : Hid (∀ z ∈ zs2, wordOk f ((ni : Int) + (nb : Int) - (j : Int)) z) := Lib.hid fun z hz => MJ.out.2 z (by have := par_mem _ _ ((m2 z).1 hz); simpa [rowsL] using this)
                      have C2 := Lib.hid (IH.out ((ni : Int) + (nb : Int) - (j : Int)) U2 zs2.length (rowsOf zs2) w2 (by omega) (Fam.rdr f2) (adm_count zs2 a2.nodup fun z hz => ⟨(Z2.out z hz).1, by have h1 := (Z2.out z hz).2.1; omega⟩)
                        (fun i hi => by unfold rowsOf; rw [List.getElem?_eq_getElem hi]; exact Z2.out _ (List.getElem_mem hi)))
                      rw [rowsL_of] at C2
                      have M2 := Lib.hid m2
                      have A2 := Lib.hid a2
                      have S2 := Lib.hid (hS.out.up b2)
                      have BW2 := Lib.hid (hBj.out.trans (b2.mono hBj.out.size))
                      clear f2 s2 a2 m2 b2 P C1
                      go_wp2_with fail
                      refine C2.out.mono ?_
                      rintro e w3 ⟨U3, US3, zs3, rfl, f3, s3, a3, m3, b3⟩
                      have M3 := Lib.hid (chain_mem f ((ni : Int) + (nb : Int) - (j : Int)) (j : Int) r zs2 zs3 A2.out M2.out m3)
                      rw [congrFun HG.out (j : Int)] at M3
                      have S3 := Lib.hid (S2.out.up b3)
                      have A3 := Lib.hid a3
                      have Z3 : Hid (∀ z ∈ zs3, isAdm z ∧ z.sum ≤ 40) := Lib.hid fun z hz => HTX.out z (List.mem_flatMap.2 ⟨_, jsTo_sub (n := j + 1) (by rw [JY.out]; simp) (by omega), par_mem _ _ ((M3.out z).1 hz)⟩)
                      have SM := Lib.hid (l01Sum_any u5 U3 zs.length zs3.length (rowsOf zs) (rowsOf zs3) US US3 w.heap.size w2.heap.size w3 S3.out.fam f3 (by omega) (by have := adm_count zs3 a3.nodup Z3.out; omega) (fun i hi => by have := hzr i hi; omega)
                        (fun i hi => by unfold rowsOf; rw [List.getElem?_eq_getElem hi]; have h1 := Z3.out _ (List.getElem_mem hi); have := isAdm_len h1.1 h1.2; simp only [Option.getD_some]; omega))
                      rw [rowsL_of, rowsL_of] at SM
                      have HB3 := Lib.hid (HBW.out.size)
                      have BW3 := Lib.hid (BW2.out.trans (b3.mono BW2.out.size))
                      clear f3 s3 a3 m3 C2 M2 A2 S2
                      go_wp2_with fail
                      refine SM.out.mono ?_
                      rintro e w4 ⟨V4, VS4, rfl, f4, s4, b4⟩
                      have S4 := Lib.hid (S3.out.add A3.out M3.out (Fam.base f4 S3.out.bel.size) s4 (S3.out.bel.trans (b4.mono S3.out.bel.size)))
                      clear f4 s4 SM
                      go_wp2_with fail
                      go_roundw
                      case rel => exact ⟨j + 1, VS4, _, by omega, by go_num, Lib.hid (by rw [JY.out, List.flatMap_append, List.flatMap_cons, List.flatMap_nil, List.append_nil, ← List.append_assoc]; exact S4.out), Lib.hid (BW3.out.trans (b4.mono BW3.out.size))⟩
                      case measure => simp [intOf]; omega
                    · have hb0 : bpar p q = 0 := by unfold bpar at hb1 ⊢; split <;> simp_all
                      have JN := Lib.hid (jsTo_no (nb : Int) (ni : Int) j (by rw [← ep]; exact hb1))
                      rw [hb0] at P
                      clear hp hq ep hb1 hb0
                      go_wp2_with fail
                      refine P.out.mono ?_
                      rintro e w2 ⟨rfl, rfl⟩
                      go_wp2_with fail
                      go_roundw
                      case rel => exact ⟨j + 1, US, zs, by omega, by go_num, Lib.hid (by rw [JN.out]; exact hS.out), hBj⟩
                      case measure => simp [intOf]; omega
                  · obtain rfl : j = ni / 2 + 1 := by omega
                    have EJ : Hid (jsTo (nb : Int) (ni : Int) (ni / 2 + 1) = js (nb : Int) (ni : Int)) := Lib.hid (by have := jsTo_all (nb : Int) (ni : Int); rw [Int.toNat_natCast] at this; exact this)
                    rw [EJ.out] at hS
                    rw [← NX.out] at hS
                    go_wp2_with fail
                    go_roundw
                    case rel => exact ⟨k + 1, US, zs, by omega, by go_num, hS⟩
                    case measure => simp [intOf]; omega
    · have ek : k = m := by omega
      have hlt' : ¬ (k : Int) < (m : Int) := by omega
      rw [ek] at hS
      have S9 := hS
      clear hS
      go_wp2_with fail
      go_ret
      exact ⟨_, _, zs, rfl, S9.out.fam, S9.out.sep, S9.out.asc, S9.out.mem, S9.out.bel⟩

theorem left_any : ∀ (f : Nat) (i : Int) (V : Value) (m : Nat) (X : Nat → List Int) (w : World), 0 ≤ i → RdR w V m X → m ≤ 6000000000 → (∀ k, k < m → wordOk f i (X k)) → Calls Try.prog 45 #[.int .i64 i, V] w (LeftPost f i (rowsL X m) w)
  | f, i, V, 0, X, w, _, h, _, _ => left_zero f i V X w h
  | 0, i, V, m + 1, X, w, _, _, _, hX => absurd (hX 0 (Nat.succ_pos _)).2.2 (Nat.not_lt_zero _)
  | f + 1, i, V, m + 1, X, w, hi, h, hm, hX => by
    obtain ⟨ni, rfl⟩ := Int.eq_ofNat_of_zero_le hi
    exact left_step f (left_any f) ni V (m + 1) X w h (Nat.succ_pos _) hm hX
end Go.Proofs.Ytldlpeohdindaaa
end
