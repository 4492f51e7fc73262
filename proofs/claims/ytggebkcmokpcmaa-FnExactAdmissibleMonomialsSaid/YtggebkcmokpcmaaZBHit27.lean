/-
  Joined: YSqT, YSqU.
-/
import Derived.Test.YtggebkcmokpcmaaZBHit25
import Derived.Test.YtggebkcmokpcmaaZBHit15
import Derived.Test.YtggebkcmokpcmaaZBHit20
section
namespace Go.Proofs.Ytggebkcmokpcmaa
open Go.RowKit
set_option linter.unusedVariables false
set_option maxRecDepth 100000

theorem sqL_len3 (r : List Int) (i : Nat) (hr : r.length ≤ 3) (hi : i ≤ 40) : (sqL r i).length ≤ 68921 :=
  Nat.le_trans (sqL_len r i hi) (Nat.le_trans (Nat.pow_le_pow_right (by decide) hr) (Nat.le_of_eq (by rfl)))
theorem sqL_few (r : List Int) (k : Nat) (pre : List Int) (hr : r.length ≤ 3) (hk : k ≤ 40) (hp : pre.length ≤ 4) : ((sqL r k).map (pre ++ ·)).length ≤ 100000000 ∧ ∀ z ∈ (sqL r k).map (pre ++ ·), z.length ≤ 100 := by
  constructor
  · rw [List.length_map]
    exact Nat.le_trans (sqL_len3 r k hr hk) (by decide)
  · intro z hz
    obtain ⟨y, hy, rfl⟩ := List.mem_map.1 hz
    have := sqL_row r _ y hy
    rw [List.length_append]
    omega
theorem sqTo_few (n : Int) (r : List Int) (i j : Nat) (pre : List Int) (hr : r.length ≤ 3) (hi : i ≤ 40) (hj : j ≤ 41) : ((sqTo n r i j).map (pre ++ ·)).length ≤ 100000000 := by
  rw [List.length_map]
  exact Nat.le_trans (sqTo_len n r 68921 (fun i hi => sqL_len3 r i hr hi) i hi j) (Nat.le_trans (Nat.mul_le_mul_right _ hj) (by decide))
theorem sqTo_rows (n : Int) (r : List Int) (i j : Nat) (pre : List Int) (hr : pre.length + r.length ≤ 3) : ∀ z ∈ (sqTo n r i j).map (pre ++ ·), z.length ≤ 100 := by
  intro z hz
  obtain ⟨y, hy, rfl⟩ := List.mem_map.1 hz
  unfold sqTo at hy
  obtain ⟨k, _, hy⟩ := List.mem_flatMap.1 hy
  split at hy
  · obtain ⟨t, ht, rfl⟩ := List.mem_map.1 hy
    have := sqL_row r _ t ht
    rw [List.length_append, List.length_cons]
    omega
  · cases hy

/-- What the calls for a shorter rest answer. -/
def MonIH (r : List Int) : Prop := ∀ (pre : List Int) (i : Nat) (v : Value) (w : World), (pre ++ r).length ≤ 4 → i ≤ 40 → RdN w v (pre ++ r) →
  Calls Try.prog 93 #[v, .int .i64 (pre.length : Int), .int .i64 (i : Int)] w (LPostY (oddY ((sqL r i).map (pre ++ ·))) w)
theorem LPostY.ti {w w5 : World} {Z : List (List Int)} {e : Ending} {w' : World} (h : LPostY (oddY Z) w5 e w') (b : Below w.heap.size w w5) : ∃ V VS, e = .returned V ∧ TiY w V VS Z w' := by
  obtain ⟨V, VS, h1, h2, h3, h4⟩ := h
  exact ⟨V, VS, h1, b.step1 h4, ⟨own_base h2.1 b.size, fun i hi => own_base (h2.2 i hi) b.size⟩, h3⟩

set_option maxHeartbeats 4000000 in
theorem l08Mono_step (N : Nat) (r pre : List Int) (i : Nat) (v : Value) (w : World) (hl : (pre ++ (N : Int) :: r).length ≤ 4) (hN : N ≤ 1000) (hi : i ≤ 40) (hv : RdN w v (pre ++ (N : Int) :: r)) (ih : MonIH r) :
    Calls Try.prog 93 #[v, .int .i64 (pre.length : Int), .int .i64 (i : Int)] w (LPostY (oddY ((sqL ((N : Int) :: r) i).map (pre ++ ·))) w) := by
  have IH := Lib.hid ih
  obtain ⟨xs, hxs⟩ : ∃ xs, pre ++ (N : Int) :: r = xs := ⟨_, rfl⟩
  have hpl : pre.length < xs.length := by rw [← hxs]; simp
  have hpN : xs[pre.length]? = some (N : Int) := by rw [← hxs]; simp
  have SET : Hid (∀ x : Int, xs.set pre.length x = (pre ++ [x]) ++ r) := Lib.hid (fun x => by rw [← hxs]; simp)
  have hrl : pre.length + 1 + r.length = xs.length := by rw [← hxs]; simp; omega
  rw [hxs] at hl hv
  have ZL := Lib.hid (fun j (hj : j ≤ 41) => sqTo_few (N : Int) r i j pre (by omega) hi hj)
  have ZR := Lib.hid (fun j => sqTo_rows (N : Int) r i j pre (by omega))
  have PL := Lib.hid (fun (x : Int) k (hk : k ≤ 40) => sqL_few r k (pre ++ [x]) (by omega) hk (by simp only [List.length_append, List.length_singleton]; omega))
  have NX : Hid (∀ j, (sqTo (N : Int) r i (j + 1)).map (pre ++ ·) = (sqTo (N : Int) r i j).map (pre ++ ·) ++ (if bpar N j = 1 then (sqL r (i - j)).map ((pre ++ [(N : Int) + (j : Int)]) ++ ·) else [])) := Lib.hid (fun j => by
    rw [sqTo_succ, List.map_append]
    congr 1
    rw [show ((N : Int)).toNat = N from rfl]
    split
    · simp
    · rfl)
  have END : Hid (sqL ((N : Int) :: r) i = sqTo (N : Int) r i (min N i + 1)) := Lib.hid (by rw [sqL_cons]; rfl)
  rw [END.out]
  have HV := Lib.hid hv
  obtain ⟨a, cap, rfl, hcap, hm, hc⟩ := hv
  obtain ⟨b, off, rfl, hc2⟩ := hc.resolve_left (fun h => by omega)
  have cp := hc2 pre.length hpl
  rw [hpN] at cp
  simp only [Option.getD_some] at cp
  have CP := Lib.hid cp
  have I0 : Hid (TiY w (.slice (some ⟨w.heap.size, 0, none⟩) 0 0) (fun _ => undef) ((sqTo (N : Int) r i 0).map (pre ++ ·)) (w.alloc (.cells #[] 42))) := Lib.hid ⟨(Below.refl _ _).alloc (Nat.le_refl _) _, ⟨World.ownsRow_made w #[] 0 (Nat.le_refl _) (Nat.zero_le _) (by simp), fun i hi => absurd hi (Nat.not_lt_zero _)⟩, fun i j hi => absurd hi (Nat.not_lt_zero _)⟩
  obtain ⟨Z, hZ⟩ : ∃ Z : Nat → List (List Int), ∀ j, (sqTo (N : Int) r i j).map (pre ++ ·) = Z j := ⟨fun j => _, fun j => rfl⟩
  have eP : ((pre.length : Nat) : Int) + 1 = ((pre ++ [(0 : Int)]).length : Int) := by simp
  have PP : Hid (∀ x : Int, ((pre ++ [x]).length : Int) = (pre.length : Int) + 1) := Lib.hid (fun x => by simp)
  simp only [hZ] at *
  have LL : Hid (∀ x : Int, ((pre ++ [x]) ++ r).length = xs.length) := Lib.hid (fun x => by simp only [List.length_append, List.length_singleton]; omega)
  have OWN : Hid (∀ wr, Below w.heap.size w wr → Calls Try.prog 80 #[.slice (some ⟨b, off, none⟩) xs.length cap] wr fun e w' => ∃ u, e = .returned u ∧ w'.ownsRow wr.heap.size 2 1 u xs.length (xs.map (Value.int .i64)) ∧ Below wr.heap.size wr w') := Lib.hid (fun wr hb => own_rdn _ xs wr (HV.out.below hb) (by omega))
  generalize pre.length = p at *
  generalize xs.length = L at *
  clear hc hc2 hZ hxs eP hcap hm cp
  have hpl' : (p : Int) < (L : Int) := by omega
  have e0 : ((p : Int) == (L : Int)) = false := by rw [beq_eq_false_iff_ne]; omega
  go_enter Try.func93, Try.ntmps93
  go_wp2_with fail
  go_loopw [7, 8, 9] (fun S c _ wr => ∃ (j : Nat) (US : Nat → Value), j ≤ min N i + 1 ∧ c = .int .i64 j ∧ Hid (TiY w S US (Z j) wr)) (fun _ c _ _ => 50 - (intOf c).toNat)
  case atStart => exact ⟨0, _, by omega, rfl, I0⟩
  case round =>
    clear I0
    obtain ⟨j, US, hj, rfl, hI⟩ := hrel
    have cw := (hI.out.bel.cell (p := ⟨b, off + p, none⟩) (World.block_lt_of_cell? w _ CP.out)).trans CP.out
    by_cases hgo : j ≤ i ∧ j ≤ N
    · obtain ⟨hj1, hj2⟩ := hgo
      have hj1' : (j : Int) ≤ (i : Int) := by omega
      have hj2' : (j : Int) ≤ (N : Int) := by omega
      have PA := Lib.hid (fun wx => l01Parity_in N j wx (by omega) (by omega))
      have NXJ := Lib.hid (NX.out j)
      have hjm : j + 1 ≤ min N i + 1 := by omega
      have hj41 : j ≤ 40 := by omega
      rcases bpar_two N j with h2 | h2
      · rw [h2, if_neg (by decide), List.append_nil] at NXJ
        rw [h2] at PA
        have I9 : Hid (TiY w u7 US (Z (j + 1)) wr) := Lib.hid (by rw [NXJ.out]; exact hI.out)
        clear hI
        go_wp2_with fail
        refine (PA.out _).mono ?_
        rintro e w2 ⟨rfl, rfl⟩
        go_wp2_with fail
        go_roundw
        case rel => exact ⟨j + 1, _, hjm, by go_num, I9⟩
        case measure => simp [intOf]; omega
      · rw [h2, if_pos rfl] at NXJ
        rw [h2] at PA
        have OW := Lib.hid (OWN.out wr hI.out.bel)
        clear h2
        go_wp2_with fail
        refine (PA.out _).mono ?_
        rintro e w2 ⟨rfl, rfl⟩
        go_wp2_with fail
        refine OW.out.mono ?_
        rintro e w3 ⟨u, rfl, ho, b3⟩
        obtain ⟨g, cap', rfl, hg⟩ : ∃ g cap', u = .slice (some ⟨g, 0, none⟩) L cap' ∧ wr.heap.size ≤ g := by
          rcases ho.2 with ⟨_, h⟩ | ⟨g, cap', cur, e, hg, _⟩
          · omega
          · exact ⟨g, cap', e, hg⟩
        have c3 := World.ownsRow.cellAt ho p (by omega)
        rw [List.getElem?_map, hpN] at c3
        simp only [Option.map_some] at c3
        have f3 := World.ownsRow.frozenAt ho p
        obtain ⟨x, hx⟩ : ∃ x : Int, (N : Int) + (j : Int) = x := ⟨_, rfl⟩
        rw [hx] at NXJ
        have HX := Lib.hid hx
        obtain ⟨st1, _⟩ := World.ownsRow.stored ho p (.int .i64 x)
        rw [← List.map_set, SET.out] at st1
        have B4 := Lib.hid (b3.setCell (p := ⟨g, p, none⟩) hg (.int .i64 x))
        have RD : Hid (RdN (w3.setCell ⟨g, p, none⟩ (.int .i64 x)) (.slice (some ⟨g, 0, none⟩) L cap') ((pre ++ [x]) ++ r)) := Lib.hid (RdN.of_own (by
          rw [LL.out]; exact st1))
        have CA := Lib.hid (IH.out (pre ++ [x]) (i - j) _ _ (by rw [LL.out]; exact hl) (by omega) RD.out)
        rw [PP.out] at CA
        have eij : ((i - j : Nat) : Int) = (i : Int) - (j : Int) := by omega
        rw [eij] at CA
        have PLj := Lib.hid (PL.out x (i - j) (by omega))
        clear ho b3 st1 OW hx eij
        go_upto_region 12 with fail
        rw [HX.out]
        generalize w3.setCell ⟨g, p, none⟩ (.int .i64 x) = w4 at *
        go_wp2_with fail
        refine CA.out.mono ?_
        rintro e w5 ⟨V5, US5, rfl, F5, S5, b5⟩
        have B5 := Lib.hid ((hI.out.bel.trans (B4.out.mono hI.out.bel.size)).step1 b5)
        have SM := Lib.hid (sum_famsY (w := w5) (hI.out.fam.below (B4.out.step1 b5)) F5 (by have := ZL.out j (by omega); omega) (by have := PLj.out.1; omega) (ZR.out j) PLj.out.2)
        rw [← NXJ.out] at SM
        clear F5 S5 b5 CA
        go_wp2_with fail
        refine SM.out.mono ?_
        rintro e w6 h6
        obtain ⟨V6, US6, rfl, t6⟩ := h6.ti B5.out
        have I9 := Lib.hid t6
        clear h6 t6 hI
        go_wp2_with fail
        go_roundw
        case rel => exact ⟨j + 1, _, hjm, by go_num, I9⟩
        case measure => simp [intOf]; omega
    · have F9 := Lib.hid hI.out.fam
      have S9 := Lib.hid hI.out.sep
      have B9 := Lib.hid hI.out.bel
      have JK : Hid (j = min N i + 1) := Lib.hid (by omega)
      clear hI
      by_cases h1 : j ≤ i
      · have h1' : (j : Int) ≤ (i : Int) := by omega
        have h2' : ¬ (j : Int) ≤ (N : Int) := by omega
        go_wp2_with fail
        go_ret
        rw [← JK.out]
        exact ⟨_, _, rfl, F9.out, S9.out, B9.out⟩
      · have h1' : ¬ (j : Int) ≤ (i : Int) := by omega
        go_wp2_with fail
        go_ret
        rw [← JK.out]
        exact ⟨_, _, rfl, F9.out, S9.out, B9.out⟩

theorem l08Monomial_any : ∀ (r : List Int), (∀ z ∈ r, 0 ≤ z ∧ z ≤ 1000) → MonIH r
  | [], _ => fun pre i v w hl hi hv => by
    rw [List.append_nil] at hl hv
    exact l08Mono_end pre i v w hl hv
  | n :: r, h => fun pre i v w hl hi hv => by
    obtain ⟨h1, h2⟩ := h n List.mem_cons_self
    obtain ⟨N, rfl⟩ : ∃ N : Nat, n = N := ⟨n.toNat, by omega⟩
    exact l08Mono_step N r pre i v w hl (by omega) hi hv (l08Monomial_any r fun z hz => h z (List.mem_cons_of_mem _ hz))
end Go.Proofs.Ytggebkcmokpcmaa
end
section
namespace Go.Proofs.Ytggebkcmokpcmaa
open Go.RowKit
set_option linter.unusedVariables false
set_option maxRecDepth 100000

/-- The lists of Sq^i of some terms. -/
def sqAll (L : List (List Int)) (i : Nat) : List (List Int) := L.flatMap fun x => sqL x i
theorem sqAll_snoc (L : List (List Int)) (x : List Int) (i : Nat) : sqAll (L ++ [x]) i = sqAll L i ++ sqL x i := by simp [sqAll]
theorem sqL_len4 (r : List Int) (i : Nat) (hr : r.length ≤ 4) (hi : i ≤ 40) : (sqL r i).length ≤ 2825761 :=
  Nat.le_trans (sqL_len r i hi) (Nat.le_trans (Nat.pow_le_pow_right (by decide) hr) (Nat.le_of_eq (by rfl)))
theorem sqAll_len (i : Nat) (hi : i ≤ 40) : ∀ L : List (List Int), (∀ x ∈ L, x.length ≤ 4) → (sqAll L i).length ≤ L.length * 2825761
  | [], _ => by simp [sqAll]
  | x :: L, h => by
    have e : sqAll (x :: L) i = sqL x i ++ sqAll L i := by simp [sqAll]
    have h1 := sqL_len4 x i (h x List.mem_cons_self) hi
    have h2 := sqAll_len i hi L fun y hy => h y (List.mem_cons_of_mem _ hy)
    rw [e, List.length_append, List.length_cons]
    omega
theorem sqAll_row {L : List (List Int)} {i : Nat} {z : List Int} (h : ∀ x ∈ L, x.length ≤ 4) (hz : z ∈ sqAll L i) : z.length ≤ 100 := by
  obtain ⟨x, hx, hz⟩ := List.mem_flatMap.1 hz
  have h1 := sqL_row x i z hz
  have h2 := h x hx
  omega

set_option maxHeartbeats 2000000 in
theorem l08Square_any (V : Value) (m : Nat) (VS : Nat → Value) (B : Nat) (X : Nat → List Int) (i : Nat) (w : World) (h : Fam w B V m VS X) (hX : ∀ k, k < m → (X k).length ≤ 4 ∧ ∀ z ∈ X k, 0 ≤ z ∧ z ≤ 1000) (hi : i ≤ 40) (hm : m ≤ 2000) :
    Calls Try.prog 71 #[V, .int .i64 (i : Int)] w (LPostY (oddY (sqAll (rowsL X m) i)) w) := by
  obtain ⟨a, cap, rfl, hsm, hc⟩ := h.head
  have HC := Lib.hid hc
  have HR : Hid (∀ k, k < m → RdN w (VS k) (X k)) := Lib.hid (fun k hk => RdN.of_own (h.inn k hk))
  have HX := Lib.hid hX
  have RL : Hid (∀ k, k ≤ m → ∀ x ∈ rowsL X k, x.length ≤ 4) := Lib.hid (fun k hk x hx => by
    obtain ⟨j, hj, rfl⟩ := mem_rowsL hx
    exact (hX j (by omega)).1)
  have CAL : Hid (∀ k, k < m → ∀ wr, Below w.heap.size w wr → Calls Try.prog 93 #[VS k, .int .i64 0, .int .i64 (i : Int)] wr (LPostY (oddY (sqL (X k) i)) wr)) := Lib.hid (fun k hk wr hb => by
    have := l08Monomial_any (X k) (hX k hk).2 [] i (VS k) wr (by rw [List.nil_append]; exact (hX k hk).1) hi (by rw [List.nil_append]; exact (HR.out k hk).below hb)
    rw [show (sqL (X k) i).map (([] : List Int) ++ ·) = sqL (X k) i by simp] at this
    exact this)
  have I0 : Hid (TiY w (.slice (some ⟨w.heap.size, 0, none⟩) 0 0) (fun _ => undef) (sqAll (rowsL X 0) i) (w.alloc (.cells #[] 42))) := Lib.hid ⟨(Below.refl _ _).alloc (Nat.le_refl _) _, ⟨World.ownsRow_made w #[] 0 (Nat.le_refl _) (Nat.zero_le _) (by simp), fun i hi => absurd hi (Nat.not_lt_zero _)⟩, fun i j hi => absurd hi (Nat.not_lt_zero _)⟩
  clear h hc hX hsm
  go_enter Try.func71, Try.ntmps71
  go_wp2_with fail
  go_loopw [5, 6] (fun S c wr => ∃ (k : Nat) (US : Nat → Value), k ≤ m ∧ c = .int .i64 k ∧ Hid (TiY w S US (sqAll (rowsL X k) i) wr)) (fun _ c _ => m - (intOf c).toNat)
  case atStart => exact ⟨0, _, by omega, rfl, I0⟩
  case round =>
    clear I0
    obtain ⟨k, US, hk, rfl, hI⟩ := hrel
    by_cases hlt : k < m
    · have hlt' : (k : Int) < (m : Int) := by omega
      obtain ⟨b, rfl, hc'⟩ := HC.out.resolve_left (by omega)
      have cb := (hI.out.bel.cell (p := ⟨b, k, none⟩) (World.block_lt_of_cell? w _ (hc' k hlt))).trans (hc' k hlt)
      have CA := Lib.hid (CAL.out k hlt wr hI.out.bel)
      have NX : Hid (sqAll (rowsL X (k + 1)) i = sqAll (rowsL X k) i ++ sqL (X k) i) := Lib.hid (by rw [rowsL_succ, sqAll_snoc])
      have L1 : Hid ((sqAll (rowsL X k) i).length ≤ 100000000000) := Lib.hid (by
        have := sqAll_len i hi (rowsL X k) (RL.out k (by omega))
        rw [rowsL_len] at this
        have h2 : k * 2825761 ≤ 2000 * 2825761 := Nat.mul_le_mul_right _ (by omega)
        have h3 : 2000 * 2825761 ≤ 100000000000 := by decide
        omega)
      have L2 : Hid ((sqL (X k) i).length ≤ 100000000000) := Lib.hid (by have := sqL_len4 (X k) i (HX.out k hlt).1 hi; omega)
      have R1 : Hid (∀ z ∈ sqAll (rowsL X k) i, z.length ≤ 100) := Lib.hid (fun z hz => sqAll_row (RL.out k (by omega)) hz)
      have R2 : Hid (∀ z ∈ sqL (X k) i, z.length ≤ 100) := Lib.hid (fun z hz => by have := sqL_row _ _ z hz; have := (HX.out k hlt).1; omega)
      generalize sqAll (rowsL X k) i = Z at *
      generalize sqL (X k) i = P at *
      generalize VS k = va at *
      clear hc'
      go_wp2_with fail
      refine CA.out.mono ?_
      rintro e w5 ⟨V5, US5, rfl, F5, S5, b5⟩
      have B5 := Lib.hid (hI.out.bel.step1 b5)
      have SM := Lib.hid (sum_famsY (w := w5) (hI.out.fam.below b5) F5 L1.out L2.out R1.out R2.out)
      rw [← NX.out] at SM
      clear F5 S5 b5 CA cb
      go_wp2_with fail
      refine SM.out.mono ?_
      rintro e w6 h6
      obtain ⟨V6, US6, rfl, t6⟩ := h6.ti B5.out
      have I9 := Lib.hid t6
      clear h6 t6 hI
      go_wp2_with fail
      go_roundw
      case rel => exact ⟨k + 1, _, by omega, by go_num, I9⟩
      case measure => simp [intOf]; omega
    · obtain rfl : k = m := by omega
      have F9 := Lib.hid hI.out.fam
      have S9 := Lib.hid hI.out.sep
      have B9 := Lib.hid hI.out.bel
      clear hI
      go_wp2_with fail
      go_ret
      exact ⟨_, _, rfl, F9.out, S9.out, B9.out⟩
end Go.Proofs.Ytggebkcmokpcmaa
end
