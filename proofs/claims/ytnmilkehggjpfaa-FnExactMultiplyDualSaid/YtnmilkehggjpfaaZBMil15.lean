/-
  Joined: PFill.
-/
import Derived.Test.YtnmilkehggjpfaaZBMil14
import Derived.BigRegion
import Derived.Deep.DeepCutAuto
section
namespace Go.Proofs.Ytnmilkehggjpfaa
open Go.RowKit
set_option linter.unusedVariables false
set_option maxRecDepth 100000

theorem trimTo_len (l : List Int) : ∀ j, (trimTo l j).length ≤ j
  | 0 => Nat.le_refl _
  | j + 1 => by
    unfold trimTo
    split
    · have := trimTo_len l j; omega
    · rw [List.length_take]; omega
theorem resS_len {n m : Nat} {T : Tab} {l : List Int} (h : resS n m T = some l) : l.length ≤ n + m := by
  unfold resS at h
  split at h
  · cases h
    have := trimTo_len (outs T n m (n + m)) (outs T n m (n + m)).length
    rw [outs_len] at this
    unfold trim
    rw [outs_len]
    exact this
  · cases h

def FillPost (B : Nat) (w : World) (L R : List (List Int)) (e : Ending) (w' : World) : Prop :=
  ∃ O OS M, e = .returned O ∧ FamL w' B O OS M ∧ Sep M.length OS ∧ Asc M ∧ Below w.heap.size w w' ∧ (∀ z, M.count z % 2 = (L.count z + R.count z) % 2) ∧ M.length ≤ L.length + R.length
def FillAll (n m i j : Nat) (qs : List (Nat × Nat)) : Prop :=
  ∀ (V : Value) (VS : Nat → Value) (T : Tab) (O : Value) (OS : Nat → Value) (L : List (List Int)) (B B2 : Nat) (w : World), 1 ≤ i → 1 ≤ j → Fam w B V (n + 1) VS (tabX T m) → (∀ a b, 0 ≤ T a b ∧ T a b ≤ 1000000) → (∀ p ∈ qs, T p.1 p.2 = 0) →
    FamL w B2 O OS L → Sep L.length OS → Asc L → B2 ≤ w.heap.size → L.length + (resF (resS n m) qs T).length ≤ 100000000000 →
    Calls Try.prog 165 #[V, .int .i64 i, .int .i64 j, O] w (FillPost B2 w L (resF (resS n m) qs T))

set_option maxHeartbeats 2000000 in
theorem fill_done (n m : Nat) (hn : n ≤ 5) (hm : m ≤ 5) : FillAll n m (n + 1) 1 [] := by
  intro V VS T O OS L B B2 w _ _ hF hT _ hL hS hA hB hlen
  have RES := Lib.hid (l04Result_any n m B V VS T w hF (by omega) (by omega) hT)
  obtain ⟨a, cap, rfl, hm0, hc⟩ := hF.head
  obtain ⟨oa, oc, rfl, _⟩ := hL.head
  have HL := Lib.hid hL
  have HS := Lib.hid hS
  have HA := Lib.hid hA
  have HLEN : L.length ≤ 100000000000 := by omega
  have RF : Hid (resF (resS n m) [] T = (resS n m T).toList) := Lib.hid rfl
  have RL : Hid (∀ l, resS n m T = some l → l.length ≤ 10) := Lib.hid (fun l h => by have := resS_len h; omega)
  rw [RF.out]
  clear hF hT hL hS hA hc hm0 hlen
  generalize resS n m T = res at *
  go_enter Try.func165, Try.ntmps165
  go_wp2_with fail
  refine RES.out.mono ?_
  intro e w1 hr
  cases res with
  | none =>
    obtain ⟨rfl, hb⟩ := hr
    go_wp2_with fail
    go_ret
    exact ⟨_, OS, L, rfl, HL.out.below hb, HS.out, HA.out, hb, fun z => by simp, by simp⟩
  | some l =>
    obtain ⟨u, rfl, hu, hb⟩ := hr
    have PUT := Lib.hid (l01Put_any _ u OS L l B2 w.heap.size w1 (Fam.below HL.out hb) HS.out hu (by have := RL.out l rfl; omega) (by have := hb.size; omega) HLEN)
    have HB := Lib.hid hb
    obtain ⟨ua, uc, rfl, _⟩ := own_len hu
    clear hu hb
    go_wp2_with fail
    refine PUT.out.mono ?_
    rintro e w2 ⟨V', VS', rfl, hF2, hS2, hb2⟩
    go_wp2_with fail
    go_ret
    exact ⟨_, VS', putL L l, rfl, hF2, hS2, (putL_spec L l HA.out).1, HB.out.step1 hb2, fun z => putL_count HA.out l z, putL_len L l⟩

set_option maxHeartbeats 2000000 in
theorem fill_next (n m i : Nat) (qs : List (Nat × Nat)) (hn : n ≤ 5) (hm : m ≤ 5) (hi : i ≤ n) (ih : FillAll n m (i + 1) 1 qs) : FillAll n m i (m + 1) qs := by
  intro V VS T O OS L B B2 w h1 _ hF hT h0 hL hS hA hB hlen
  have IH := Lib.hid (ih V VS T O OS L B B2 w (by omega) (by omega) hF hT h0 hL hS hA hB hlen)
  have c0 := (row_at hF 0 (by omega))
  obtain ⟨g, q, e0, _⟩ := c0
  obtain ⟨a, cap, rfl, hm0, hc⟩ := hF.head
  obtain ⟨b, rfl, hc2⟩ := hc.resolve_left (by omega)
  have c0 := hc2 0 (by omega)
  rw [e0] at c0
  obtain ⟨oa, oc, rfl, _⟩ := hL.head
  have hne : ((i : Int) == (n : Int) + 1) = false := by rw [beq_eq_false_iff_ne]; omega
  clear hF hT h0 hL hS hA hc hc2 hm0 e0 hlen ih
  generalize resF (resS n m) qs T = R at *
  go_enter Try.func165, Try.ntmps165
  go_wp2_with fail
  refine IH.out.mono ?_
  rintro e w1 ⟨O', OS', M, rfl, k⟩
  have K := Lib.hid k
  clear k
  go_wp2_with fail
  go_ret
  exact ⟨O', OS', M, rfl, K.out⟩

theorem mx_iff {i j : Nat} {T : Tab} (hT : ∀ a b, 0 ≤ T a b ∧ T a b ≤ 1000000) (x : Nat) : x ≤ mx (i, j) T ↔ ((x * 2 ^ j : Nat) : Int) ≤ T i 0 ∧ (x : Int) ≤ T 0 j := by
  rw [le_mx (fun k => ⟨(hT k 0).1, (hT 0 k).1⟩) x, show ((x * 2 ^ j : Nat) : Int) = (x : Int) * 2 ^ j by simp]
theorem mv_bound {i j : Nat} (hi : 0 < i) (hj : 0 < j) {T : Tab} (hT : ∀ a b, 0 ≤ T a b ∧ T a b ≤ 1000000) (h0 : T i j = 0) (x : Nat) (hx : x ≤ mx (i, j) T) : ∀ a b, 0 ≤ mv i j (x : Int) T a b ∧ mv i j (x : Int) T a b ≤ 1000000 := by
  intro a b
  have h1 := (mx_iff hT x).1 hx
  rw [show ((x * 2 ^ j : Nat) : Int) = (x : Int) * 2 ^ j by simp] at h1
  have h2 : (0 : Int) ≤ (x : Int) * 2 ^ j := Int.mul_nonneg (by omega) (Int.le_of_lt (pow_pos' _))
  have h3 := hT i 0
  have h4 := hT 0 j
  unfold mv
  split
  · rw [h0]; omega
  · split
    · omega
    · split
      · omega
      · exact hT a b
theorem shl_ok (x j y : Nat) (hj : j ≤ 5) (hx : x ≤ 1000001) (hy : x * 2 ^ j = y) : wrap64 ((x : Int) * 2 ^ j) = (y : Int) ∧ y ≤ 1000001 * 32 := by
  have h1 : x * 2 ^ j ≤ 1000001 * 2 ^ 5 := Nat.mul_le_mul hx (Nat.pow_le_pow_right (by omega) hj)
  rw [← show ((x * 2 ^ j : Nat) : Int) = (x : Int) * 2 ^ j by simp, hy]
  unfold wrap64
  omega

theorem tab_cell {w : World} {B n m i g q : Nat} {U : Value} {US : Nat → Value} {T : Tab} (h : Fam w B U n US (tabX T m)) (hi : i < n) (e : US i = .slice (some ⟨g, 0, none⟩) (m + 1) q) (j : Nat) (hj : j ≤ m) : w.cell? ⟨g, j, none⟩ = some (.int .i64 (T i j)) ∧ w.frozen? ⟨g, j, none⟩ = false := by
  have o := h.inn i hi
  rw [e, tabX_len] at o
  refine ⟨?_, World.ownsRow.frozenAt o j⟩
  rw [o.cellAt j (by omega)]
  unfold tabX
  rw [List.getElem?_map, List.getElem?_map, List.getElem?_range (by omega)]
  rfl
/-- The copy of a table, with x at (i, j), in three steps. -/
def put1 (w2 : World) (gt j : Nat) (a : Int) : World := (w2.setCell ⟨gt, j, none⟩ (.int .i64 a)).drew
def put2 (w2 : World) (gt gr j : Nat) (a b : Int) : World := (put1 w2 gt j a).setCell ⟨gr, 0, none⟩ (.int .i64 b)
def put3 (w2 : World) (gt gr j : Nat) (a b c : Int) : World := (put2 w2 gt gr j a b).setCell ⟨gr, j, none⟩ (.int .i64 c)
structure Copied (w1 w2 : World) (U : Value) (US : Nat → Value) (n m i j x : Nat) (T : Tab) (t0 ti y : Int) (bu cu gt qt gr qr : Nat) : Prop where
  u : U = .slice (some ⟨bu, 0, none⟩) (n + 1) cu
  c0 : w2.cell? ⟨bu, 0, none⟩ = some (.slice (some ⟨gt, 0, none⟩) (m + 1) qt)
  ci : w2.cell? ⟨bu, i, none⟩ = some (.slice (some ⟨gr, 0, none⟩) (m + 1) qr)
  d0 : w2.cell? ⟨gt, j, none⟩ = some (.int .i64 t0) ∧ w2.frozen? ⟨gt, j, none⟩ = false
  d1 : (put1 w2 gt j (t0 - x)).cell? ⟨gr, 0, none⟩ = some (.int .i64 ti) ∧ (put1 w2 gt j (t0 - x)).frozen? ⟨gr, 0, none⟩ = false
  d2 : (put2 w2 gt gr j (t0 - x) (ti - y)).cell? ⟨gr, j, none⟩ = some (.int .i64 0) ∧ (put2 w2 gt gr j (t0 - x) (ti - y)).frozen? ⟨gr, j, none⟩ = false
  fam : Fam (put3 w2 gt gr j (t0 - x) (ti - y) x) w1.heap.size U (n + 1) US (tabX (mv i j (x : Int) T) m)
  bel : Below w1.heap.size w1 (put3 w2 gt gr j (t0 - x) (ti - y) x)
theorem fill_copy {w1 w2 : World} {n m i j x : Nat} {U : Value} {US : Nat → Value} {T : Tab} {t0 ti y : Int} (FU : Fam w2 w1.heap.size U (n + 1) US (tabX T m)) (hUS : Sep (n + 1) US) (hb2 : Below w1.heap.size w1 w2)
    (h1 : 1 ≤ i) (h2 : 1 ≤ j) (hi : i ≤ n) (hj : j ≤ m) (ht0 : T 0 j = t0) (hti : T i 0 = ti) (h0 : T i j = 0) (hy : (x : Int) * 2 ^ j = y) :
    ∃ bu cu gt qt gr qr, Copied w1 w2 U US n m i j x T t0 ti y bu cu gt qt gr qr := by
  obtain ⟨gt, qt, et, zt⟩ := row_at FU 0 (by omega)
  obtain ⟨gr, qr, er, zr⟩ := row_at FU i (by omega)
  obtain ⟨au, cu, rfl, hmu, hcu⟩ := FU.head
  obtain ⟨bu, rfl, hcu2⟩ := hcu.resolve_left (by omega)
  have c0 := hcu2 0 (by omega)
  have ci := hcu2 i (by omega)
  rw [et] at c0
  rw [er] at ci
  obtain ⟨S0, l1⟩ := Fam.stored FU hUS 0 (by omega) et j hj (t0 - x)
  have S1 : Fam (put1 w2 gt j (t0 - x)) w1.heap.size _ (n + 1) US (tabX (updT T 0 j (t0 - x)) m) := S0.below ((Below.refl _ _).drew)
  have d1 := tab_cell S1 (by omega) er 0 (by omega)
  obtain ⟨S2, l2⟩ := Fam.stored S1 hUS i (by omega) er 0 (by omega) (ti - y)
  have d2 := tab_cell S2 (by omega) er j hj
  obtain ⟨S3, l3⟩ := Fam.stored S2 hUS i (by omega) er j hj x
  have EQ := mv_upd (i := i) (j := j) (by omega) (by omega) (x : Int) T h0
  rw [ht0, hti, hy] at EQ
  rw [EQ] at S3
  have d0 := tab_cell FU (by omega) et j hj
  have e1 : updT T 0 j (t0 - x) i 0 = ti := by unfold updT; rw [if_neg (by omega), hti]
  have e2 : updT (updT T 0 j (t0 - x)) i 0 (ti - y) i j = 0 := by unfold updT; rw [if_neg (by omega), if_neg (by omega), h0]
  rw [ht0] at d0
  rw [e1] at d1
  rw [e2] at d2
  exact ⟨bu, cu, gt, qt, gr, qr, rfl, c0, ci, d0, d1, d2, S3, (((hb2.setCell l1 _).drew).setCell l2 _).setCell l3 _⟩

theorem fill_call {w1 w2 : World} {n m i j x : Nat} {U O1 : Value} {US OS1 : Nat → Value} {T : Tab} {t0 ti y : Int} {bu cu gt qt gr qr B2 : Nat} {qs : List (Nat × Nat)} {L M : List (List Int)} (ih : FillAll n m i (j + 1) qs) (CP : Copied w1 w2 U US n m i j x T t0 ti y bu cu gt qt gr qr)
    (h1 : 1 ≤ i) (h2 : 1 ≤ j) (hT : ∀ a b, 0 ≤ T a b ∧ T a b ≤ 1000000) (h0 : ∀ p ∈ (i, j) :: qs, T p.1 p.2 = 0) (hge : ∀ p ∈ qs, i < p.1 ∨ (p.1 = i ∧ j + 1 ≤ p.2)) (hxX : x ≤ mx (i, j) T)
    (hK : FamL w1 B2 O1 OS1 M ∧ Sep M.length OS1) (hA : Asc M) (hB2 : B2 ≤ w1.heap.size) (hlen : L.length + (resTo (resS n m) (i, j) qs T (mx (i, j) T + 1)).length ≤ 100000000000) (hN : M.length ≤ L.length + (resTo (resS n m) (i, j) qs T x).length) :
    Calls Try.prog 165 #[.slice (some ⟨bu, 0, none⟩) (n + 1) cu, .int .i64 i, .int .i64 ((j : Int) + 1), O1] (put3 w2 gt gr j (t0 - x) (ti - y) x) (FillPost B2 (put3 w2 gt gr j (t0 - x) (ti - y) x) M (resF (resS n m) qs (mv i j (x : Int) T))) := by
  have F4 := CP.fam
  have B4 := CP.bel
  obtain rfl := CP.u
  clear CP
  generalize put3 w2 gt gr j (t0 - x) (ti - y) x = W4 at *
  have hij := h0 (i, j) List.mem_cons_self
  have hz : ∀ p ∈ qs, mv i j (x : Int) T p.1 p.2 = 0 := fun p hp => by
    have k1 := hge p hp
    unfold mv
    rw [if_neg (by omega), if_neg (by omega), if_neg (by omega)]
    exact h0 p (List.mem_cons_of_mem _ hp)
  have k1 := resTo_len (resS n m) (i, j) qs T (x + 1) (mx (i, j) T + 1) (by omega)
  rw [resTo_succ, List.length_append] at k1
  have k4 : M.length + (resF (resS n m) qs (mv i j (x : Int) T)).length ≤ 100000000000 := by
    have : (resF (resS n m) qs (mv (i, j).1 (i, j).2 (x : Int) T)).length = (resF (resS n m) qs (mv i j (x : Int) T)).length := rfl
    omega
  have k5 := B4.size
  exact ih _ US (mv i j (x : Int) T) O1 OS1 M w1.heap.size B2 W4 h1 (Nat.le_add_left 1 j) F4 (mv_bound h1 h2 hT hij x hxX) hz (Fam.below hK.1 B4) hK.2 hA (Nat.le_trans hB2 k5) k4

theorem fill_round {res : Tab → Option (List Int)} {i j x : Nat} {qs : List (Nat × Nat)} {T : Tab} {L M M' : List (List Int)} (hC : ∀ z, M.count z % 2 = (L.count z + (resTo res (i, j) qs T x).count z) % 2) (hN : M.length ≤ L.length + (resTo res (i, j) qs T x).length)
    (k5 : ∀ z, M'.count z % 2 = (M.count z + (resF res qs (mv i j (x : Int) T)).count z) % 2) (k6 : M'.length ≤ M.length + (resF res qs (mv i j (x : Int) T)).length) :
    (∀ z, M'.count z % 2 = (L.count z + (resTo res (i, j) qs T (x + 1)).count z) % 2) ∧ M'.length ≤ L.length + (resTo res (i, j) qs T (x + 1)).length := by
  have e : resTo res (i, j) qs T (x + 1) = resTo res (i, j) qs T x ++ resF res qs (mv i j (x : Int) T) := resTo_succ res (i, j) qs T x
  rw [e]
  refine ⟨fun z => ?_, ?_⟩
  · have h1 := k5 z
    have h2 := hC z
    rw [List.count_append]
    omega
  · rw [List.length_append]
    omega

theorem five (j : Nat) (h1 : 1 ≤ j) (h5 : j ≤ 5) : (j = 1 ∧ (j : Int) + 1 = 2) ∨ (j = 2 ∧ (j : Int) + 1 = 3) ∨ (j = 3 ∧ (j : Int) + 1 = 4) ∨ (j = 4 ∧ (j : Int) + 1 = 5) ∨ (j = 5 ∧ (j : Int) + 1 = 6) := by omega

set_option maxHeartbeats 800000 in
theorem fill_place (n m i j : Nat) (qs : List (Nat × Nat)) (hn : n ≤ 5) (hm : m ≤ 5) (hi : i ≤ n) (hj : j ≤ m) (hge : ∀ p ∈ qs, i < p.1 ∨ (p.1 = i ∧ j + 1 ≤ p.2)) (ih : FillAll n m i (j + 1) qs) : FillAll n m i j ((i, j) :: qs) := by
  intro V VS T O OS L B B2 w h1 h2 hF hT h0 hL hS hA hB hlen
  have RF : Hid (resF (resS n m) ((i, j) :: qs) T = resTo (resS n m) (i, j) qs T (mx (i, j) T + 1)) := Lib.hid rfl
  rw [RF.out] at hlen ⊢
  have HLEN := Lib.hid hlen
  have H := Lib.hid hF
  have HT := Lib.hid hT
  have H0 := Lib.hid h0
  have HA := Lib.hid hA
  have HB := Lib.hid hB
  have HG := Lib.hid hge
  have IH := Lib.hid ih
  have MX := Lib.hid (fun x => mx_iff (i := i) (j := j) hT x)
  have HX : mx (i, j) T ≤ 1000000 := by have := ((mx_iff hT (mx (i, j) T)).1 (Nat.le_refl _)).2; have := (hT 0 j).2; omega
  obtain ⟨g0, q0, e0, _⟩ := row_at hF 0 (by omega)
  obtain ⟨a, cap, rfl, hm0, hc⟩ := hF.head
  obtain ⟨b, rfl, hc2⟩ := hc.resolve_left (by omega)
  have c0 := hc2 0 (by omega)
  rw [e0] at c0
  have K0 : Hid (FamL w B2 O OS L ∧ Sep L.length OS) := Lib.hid ⟨hL, hS⟩
  have hne : ((i : Int) == (n : Int) + 1) = false := by rw [beq_eq_false_iff_ne]; omega
  have hne2 : ((j : Int) == (m : Int) + 1) = false := by rw [beq_eq_false_iff_ne]; omega
  clear hF hT h0 hL hS hA hc hc2 hm0 e0 hlen hge ih hB
  go_enter Try.func165, Try.ntmps165
  go_wp2_with fail
  clear hne hne2 c0
  go_loopw [3, 11, 12, 13, 14] (fun O c _ _ _ wr => ∃ (x : Nat) (OS : Nat → Value) (M : List (List Int)), x ≤ mx (i, j) T + 1 ∧ c = .int .i64 x ∧ Hid (FamL wr B2 O OS M ∧ Sep M.length OS) ∧ Hid (Asc M) ∧ Hid (Below w.heap.size w wr) ∧ Hid (∀ z, M.count z % 2 = (L.count z + (resTo (resS n m) (i, j) qs T x).count z) % 2) ∧ Hid (M.length ≤ L.length + (resTo (resS n m) (i, j) qs T x).length)) (fun _ c _ _ _ _ => mx (i, j) T + 2 - (intOf c).toNat)
  case atStart => exact ⟨0, OS, L, by omega, rfl, K0, HA, Lib.hid (Below.refl _ _), Lib.hid (fun z => by rw [resTo_zero]; simp), Lib.hid (by rw [resTo_zero]; simp)⟩
  case round =>
    clear K0 HA
    obtain ⟨x, OS1, M, hx, rfl, hK, hA, hB1, hC, hN⟩ := hrel
    rename World => w1
    have FW := H.out.below hB1.out
    obtain ⟨g0, q0, e0, z0⟩ := row_at FW 0 (by omega)
    obtain ⟨gi, qi, ei, zi⟩ := row_at FW i (by omega)
    have c0 := table_at FW 0 (by omega)
    have ci := table_at FW i (by omega)
    rw [e0] at c0
    rw [ei] at ci
    have d0 := z0 j hj
    have di := zi 0 (by omega)
    obtain ⟨y, hy⟩ : ∃ y : Nat, x * 2 ^ j = y := ⟨_, rfl⟩
    obtain ⟨hsh, hy5⟩ := shl_ok x j y (by omega) (by omega) hy
    have hM := MX.out x
    rw [hy] at hM
    have hjm : (j : Int) < (m : Int) + 1 := by omega
    have hin : (i : Int) < (n : Int) + 1 := by omega
    have b0 := HT.out 0 j
    have b1 := HT.out i 0
    clear z0 zi e0 ei FW
    obtain ⟨t0, ht0⟩ : ∃ t0, T 0 j = t0 := ⟨_, rfl⟩
    obtain ⟨ti, hti⟩ : ∃ ti, T i 0 = ti := ⟨_, rfl⟩
    rw [ht0] at d0 hM b0
    rw [hti] at di hM b1
    by_cases hxX : x ≤ mx (i, j) T
    · obtain ⟨m1, m2⟩ := hM.1 hxX
      have OW := Lib.hid (l01Own2_any _ (n + 1) B VS (tabX T m) w1 (H.out.below hB1.out) (by omega) (fun k hk => by rw [tabX_len]; omega))
      clear hM
      go_wp2_with fail
      refine OW.out.mono ?_
      rintro e w2 ⟨U, US, rfl, hU, hUS, hb2⟩
      rw [rowsL_len] at hUS
      obtain ⟨bu, cu, gt, qt, gr, qr, CP⟩ := fill_copy (x := x) (y := y) (Fam.ofRows hU) hUS hb2 h1 h2 hi hj ht0 hti (H0.out (i, j) List.mem_cons_self) (by rw [← hy]; simp)
      have NX := resTo_succ (resS n m) (i, j) qs T x
      have w0 : wrap64 (t0 - (x : Int)) = t0 - x := by unfold wrap64; omega
      have wi : wrap64 (ti - (y : Int)) = ti - y := by unfold wrap64; omega
      have wj : wrap64 ((j : Int) + 1) = (j : Int) + 1 := by unfold wrap64; omega
      have CALL := Lib.hid (fill_call (L := L) IH.out CP h1 h2 HT.out H0.out HG.out hxX hK.out hA.out (Nat.le_trans HB.out hB1.out.size) HLEN.out hN.out)
      obtain rfl := CP.u
      have HNX := Lib.hid NX
      have HBB := Lib.hid CP.bel
      have c0 := CP.c0
      have ci := CP.ci
      obtain ⟨d0, f0⟩ := CP.d0
      obtain ⟨d1, f1⟩ := CP.d1
      obtain ⟨d2, f2⟩ := CP.d2
      clear CP NX hUS hU hb2 OW
      have E3 : put3 w2 gt gr j (t0 - x) (ti - y) x = (put2 w2 gt gr j (t0 - x) (ti - y)).setCell ⟨gr, j, none⟩ (.int .i64 (x : Int)) := rfl
      rw [E3] at CALL HBB
      clear E3
      have E2 : (put1 w2 gt j (t0 - x)).setCell ⟨gr, 0, none⟩ (.int .i64 (ti - y)) = put2 w2 gt gr j (t0 - x) (ti - y) := rfl
      have E1 : (w2.setCell ⟨gt, j, none⟩ (.int .i64 (t0 - x))).drew = put1 w2 gt j (t0 - x) := rfl
      generalize put2 w2 gt gr j (t0 - x) (ti - y) = W2 at *
      generalize put1 w2 gt j (t0 - x) = W1 at *
      go_wp2_with fail
      go_region
      go_upto_region 14 with fail
      have wx : wrap64 (ti - (x : Int) * 2 ^ j) = ti - y := by
        rw [show (x : Int) * 2 ^ j = (y : Int) by rw [← hy]; simp]; exact wi
      clear E1 c0 ci d0 f0 hsh hy hy5 m1 m2 b0 b1 w0 wi
      have HXX := Lib.hid hxX
      clear hxX
      have hj5 := five j h2 (Nat.le_trans hj hm)
      rcases hj5 with ⟨hj5, wj2⟩ | ⟨hj5, wj2⟩ | ⟨hj5, wj2⟩ | ⟨hj5, wj2⟩ | ⟨hj5, wj2⟩ <;> rw [wj2] at CALL <;> clear wj2 wj <;> subst hj5 <;> simp only [Int.reducePow] at wx
      all_goals
        go_upto_region 15 with fail
        clear wx E2 d1 f1
        go_wp2_with fail
        refine CALL.out.mono ?_
        rintro e w5 ⟨O', OS', M', rfl, k1, k2, k3, k4, k5, k6⟩
        have K1 : Hid (FamL w5 B2 O' OS' M' ∧ Sep M'.length OS') := Lib.hid ⟨k1, k2⟩
        have K3 := Lib.hid k3
        have K4 : Hid (Below w.heap.size w w5) := Lib.hid (hB1.out.step1 (HBB.out.step1 k4))
        have K5 := Lib.hid (fill_round hC.out hN.out k5 k6)
        clear k1 k2 k3 k4 k5 k6 CALL
        go_wp2_with fail
        go_roundw
        case rel => exact ⟨O', .int .i64 ((x : Int) + 1), _, _, _, _, _, _, _, _, _, _, _, _, _, _, _, _, _, _, _, _, _, _, _, _, _, _, _, _, _, _, _, _, _, _, _, _, _, _, _, _, _, _, _, _, _, _, _, _, _, _, _, _, _, _, _, _, _, _, _, _, _, _, _, _, ⟨x + 1, OS', M', by have := HXX.out; omega, by go_num, K1, K3, K4, Lib.hid K5.out.1, Lib.hid K5.out.2⟩, rfl⟩
        case measure => simp [intOf]; omega
    · by_cases m2 : (x : Int) ≤ t0
      · have m1 : ¬ (y : Int) ≤ ti := fun h => hxX (hM.2 ⟨h, m2⟩)
        clear hM
        go_wp2_with fail
        go_ret
        obtain rfl : x = mx (i, j) T + 1 := by omega
        exact ⟨_, OS1, M, rfl, hK.out.1, hK.out.2, hA.out, hB1.out, hC.out, hN.out⟩
      · have m2 : decide ((x : Int) ≤ t0) = false := decide_eq_false m2
        clear hM
        go_wp2_with fail
        go_ret
        obtain rfl : x = mx (i, j) T + 1 := by omega
        exact ⟨_, OS1, M, rfl, hK.out.1, hK.out.2, hA.out, hB1.out, hC.out, hN.out⟩

theorem l04Fill_any {n m : Nat} (hn : n ≤ 5) (hm : m ≤ 5) {i j : Nat} {qs : List (Nat × Nat)} (h : Pl n m i j qs) : FillAll n m i j qs := by
  induction h with
  | done => exact fill_done n m hn hm
  | next i qs hi h ih => exact fill_next n m i qs hn hm hi ih
  | place i j qs hi hj h ih => exact fill_place n m i j qs hn hm hi hj h.ge ih
end Go.Proofs.Ytnmilkehggjpfaa
end
