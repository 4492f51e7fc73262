/-
  Joined: YMons, YPlain, KOwn.
-/
import Derived.Test.YtggebkcmokpcmaaZBHit16
import Derived.Lib.Hide
import Derived.Test.YtggebkcmokpcmaaZBHit14
import Derived.Test.YtggebkcmokpcmaaZBHit05
import Derived.Laws.AppendOwnNone
section
namespace Go.Proofs.Ytggebkcmokpcmaa
open Go.RowKit Go.Maps
set_option linter.unusedVariables false
set_option maxRecDepth 100000

def mono4 (d a b c : Nat) : List Int := [(a : Int), (b : Int), (c : Int), (d : Int) - a - b - c]
def rowC (N : List Nat) (d a b n : Nat) : List (List Int) := ((List.range n).filter fun c => oddN N (ixM a b c)).map fun c => mono4 d a b c
def rowB (N : List Nat) (d a n : Nat) : List (List Int) := (List.range n).flatMap fun b => rowC N d a b (d - a - b + 1)
def rowA (N : List Nat) (d n : Nat) : List (List Int) := (List.range n).flatMap fun a => rowB N d a (d - a + 1)
/-- What the sum tells. -/
def monL (N : List Nat) (d : Nat) : List (List Int) := rowA N d (d + 1)
theorem rowC_succ (N : List Nat) (d a b n : Nat) : rowC N d a b (n + 1) = rowC N d a b n ++ (if oddN N (ixM a b n) then [mono4 d a b n] else []) := by
  unfold rowC
  rw [List.range_succ, List.filter_append, List.map_append]
  congr 1
  cases h : oddN N (ixM a b n) <;> simp [h]
theorem rowB_succ (N : List Nat) (d a n : Nat) : rowB N d a (n + 1) = rowB N d a n ++ rowC N d a n (d - a - n + 1) := by
  unfold rowB
  rw [List.range_succ, List.flatMap_append]
  simp
theorem rowA_succ (N : List Nat) (d n : Nat) : rowA N d (n + 1) = rowA N d n ++ rowB N d n (d - n + 1) := by
  unfold rowA
  rw [List.range_succ, List.flatMap_append]
  simp
theorem rowC_len (N : List Nat) (d a b n : Nat) : (rowC N d a b n).length ≤ n := by
  unfold rowC
  rw [List.length_map]
  exact Nat.le_trans (List.length_filter_le _ _) (by rw [List.length_range]; exact Nat.le_refl _)
theorem rowB_len (N : List Nat) (d a n : Nat) (hd : d ≤ 40) : (rowB N d a n).length ≤ n * 41 := by
  induction n with
  | zero => simp [rowB]
  | succ n ih =>
    rw [rowB_succ, List.length_append, Nat.succ_mul]
    have := rowC_len N d a n (d - a - n + 1)
    omega
theorem rowA_len (N : List Nat) (d n : Nat) (hd : d ≤ 40) : (rowA N d n).length ≤ n * 1681 := by
  induction n with
  | zero => simp [rowA]
  | succ n ih =>
    rw [rowA_succ, List.length_append, Nat.succ_mul]
    have := rowB_len N d n (d - n + 1) hd
    have h2 : (d - n + 1) * 41 ≤ 41 * 41 := Nat.mul_le_mul_right _ (by omega)
    omega

/-- What the loops keep. -/
structure MnJ (w0 : World) (S : Value) (L : List (List Int)) (w : World) : Prop where
  bel : Below w0.heap.size w0 w
  row : OwnY w w0.heap.size S (L.map pwK)

theorem ownY_snoc {w : World} {B : Nat} {v : Value} {zs : List (List Int)} {z : List Int} (h : w.ownsRow B 71 4 v (zs.length + 1) ((zs.map pwK).flatMap Array.toList ++ (pwK z).toList)) : OwnY w B v ((zs ++ [z]).map pwK) := by
  unfold OwnY
  rw [List.map_append, List.length_append, List.map_cons, List.map_nil, List.length_singleton, List.flatMap_append]
  simpa using h
theorem MnJ.push {w0 w w5 : World} {S S' : Value} {zs : List (List Int)} {z : List Int} {o : Obj} (h : MnJ w0 S zs w)
    (hown : w5.ownsRow w0.heap.size 71 4 S' (zs.length + 1) ((zs.map pwK).flatMap Array.toList ++ (pwK z).toList)) (hg : (w.alloc o).grownBy w5 S.ownBlock) : MnJ w0 S' (zs ++ [z]) w5 :=
  ⟨(h.bel.alloc h.bel.size o).grown hg (Nat.le_trans h.bel.size (by simp)) (fun q hq => (h.row.lt q hq).1), ownY_snoc hown⟩

/-- What monomials answers. -/
def MonsRes (L : List (List Int)) (w : World) (e : Ending) (w' : World) : Prop := ∃ u, e = .returned u ∧ OwnY w' w.heap.size u (L.map pwK) ∧ Below w.heap.size w w'

set_option maxHeartbeats 4000000 in
theorem monomialsY_any (g d : Nat) (N : List Nat) (w : World) (h : SumAt w g (d : Int) N) (hd : d ≤ 40) :
    Calls Try.prog 100 #[.pointer (some ⟨g, 0, none⟩)] w (MonsRes (monL N d) w) := by
  obtain ⟨i0, hi, hz0, hz1, hz2⟩ := info_parts infoEY
  have HS : Hid (∀ wx, Below w.heap.size w wx → SumAt wx g (d : Int) N) := Lib.hid (fun wx hb => h.up hb)
  have J0 : Hid (MnJ w (.slice none 0 0) (rowA N d 0) w) := Lib.hid ⟨Below.refl _ _, World.ownsRow_nil _ _ _ _⟩
  have e0 := h.c0
  clear h
  go_enter Try.func100, Try.ntmps100
  go_wp2_with fail
  clear e0
  go_loopw [3, 4, 5, 6, 12] (fun S _ _ _ x wr => ∃ a : Nat, a ≤ d + 1 ∧ x = .int .i64 a ∧ Hid (MnJ w S (rowA N d a) wr)) (fun _ _ _ _ x _ => d + 1 - (intOf x).toNat)
  case atStart => exact ⟨0, by omega, rfl, J0⟩
  case round =>
    clear J0
    obtain ⟨a, ha, rfl, hJ⟩ := hrel
    by_cases hlt : a ≤ d
    · have hlt' : (a : Int) < (d : Int) + 1 := by omega
      have e0 := (HS.out wr hJ.out.bel).c0
      have LA := rowA_len N d a hd
      have LA1 : a * 1681 ≤ 40 * 1681 := Nat.mul_le_mul_right _ (by omega)
      obtain ⟨A, hA⟩ : ∃ A, A = rowA N d a := ⟨_, rfl⟩
      have NA : Hid (A ++ rowB N d a (d - a + 1) = rowA N d (a + 1)) := Lib.hid (by rw [hA, ← rowA_succ])
      have LA2 : Hid (A.length ≤ 67240) := Lib.hid (by rw [hA]; omega)
      rw [← hA] at hJ
      clear hA LA LA1
      go_wp2_with fail
      clear e0
      have J1 : Hid (MnJ w u3 (A ++ rowB N d a 0) wr) := Lib.hid (by rw [show rowB N d a 0 = [] from rfl, List.append_nil]; exact hJ.out)
      clear hJ
      obtain ⟨wo, hwo⟩ : ∃ wo, wo = wr := ⟨_, rfl⟩
      subst hwo
      go_loopw [3, 5, 6, 22] (fun S _ _ x wi => ∃ b : Nat, b ≤ d - a + 1 ∧ x = .int .i64 b ∧ Hid (MnJ w S (A ++ rowB N d a b) wi)) (fun _ _ _ x _ => d + 1 - (intOf x).toNat)
      case atStart => exact ⟨0, by omega, rfl, J1⟩
      case round =>
        clear J1
        obtain ⟨b, hb, rfl, hJ⟩ := hrel
        by_cases hlb : b ≤ d - a
        · have hlb' : (b : Int) < (d : Int) - (a : Int) + 1 := by omega
          have e0 := (HS.out wr hJ.out.bel).c0
          have LB := rowB_len N d a b hd
          have LB1 : b * 41 ≤ 40 * 41 := Nat.mul_le_mul_right _ (by omega)
          obtain ⟨B, hB⟩ : ∃ B, B = A ++ rowB N d a b := ⟨_, rfl⟩
          have NB : Hid (B ++ rowC N d a b (d - a - b + 1) = A ++ rowB N d a (b + 1)) := Lib.hid (by rw [hB, rowB_succ, List.append_assoc])
          have LB2 : Hid (B.length ≤ 68880) := Lib.hid (by rw [hB, List.length_append]; have := LA2.out; omega)
          rw [← hB] at hJ
          clear hB LB LB1
          go_wp2_with fail
          clear e0
          have J2 : Hid (MnJ w u3 (B ++ rowC N d a b 0) wr) := Lib.hid (by rw [show rowC N d a b 0 = [] from rfl, List.append_nil]; exact hJ.out)
          clear hJ
          obtain ⟨wo2, hwo2⟩ : ∃ wo2, wo2 = wr := ⟨_, rfl⟩
          subst hwo2
          go_loopw [3, 6, 34] (fun S _ x wi => ∃ c : Nat, c ≤ d - a - b + 1 ∧ x = .int .i64 c ∧ Hid (MnJ w S (B ++ rowC N d a b c) wi)) (fun _ _ x _ => d + 1 - (intOf x).toNat)
          case atStart => exact ⟨0, by omega, rfl, J2⟩
          case round =>
            clear J2
            obtain ⟨c, hc, rfl, hJ⟩ := hrel
            by_cases hlc : c ≤ d - a - b
            · have hlc' : (c : Int) < (d : Int) - (a : Int) - (b : Int) + 1 := by omega
              have SW := HS.out wr hJ.out.bel
              have e0 := SW.c0
              have hix : ixM a b c < 68921 := by unfold ixM; omega
              have e1 := SW.ci (ixM a b c) hix
              have ho : 1 + ixM a b c = 1 + a * 1681 + b * 41 + c := by unfold ixM; omega
              rw [ho] at e1
              have LC := rowC_len N d a b c
              have RC := rowC_succ N d a b c
              obtain ⟨C, hC⟩ : ∃ C, C = B ++ rowC N d a b c := ⟨_, rfl⟩
              have LC2 : Hid (C.length ≤ 68921) := Lib.hid (by rw [hC, List.length_append]; have := LB2.out; omega)
              have a41 : (a : Int) < 41 := by omega
              have b41 : (b : Int) < 41 := by omega
              have c41 : (c : Int) < 41 := by omega
              cases hx : oddN N (ixM a b c) with
              | false =>
                rw [hx] at RC e1
                have NC : Hid (C = B ++ rowC N d a b (c + 1)) := Lib.hid (by rw [hC, RC]; simp)
                rw [← hC] at hJ
                clear hC LC RC SW ho hx hix
                go_wp2_with fail
                go_roundw
                case rel => exact ⟨c + 1, by omega, by go_num, by rw [← NC.out]; exact hJ⟩
                case measure => simp [intOf]; omega
              | true =>
                rw [hx] at RC e1
                have NC : Hid (C ++ [mono4 d a b c] = B ++ rowC N d a b (c + 1)) := Lib.hid (by rw [hC, RC]; simp)
                rw [← hC] at hJ
                clear hC LC RC SW ho hx hix
                have OA := Lib.hid (World.ownsRow.alloc hJ.out.row (.cells #[Value.int .i64 (a : Int), Value.int .i64 (b : Int), Value.int .i64 (c : Int), Value.int .i64 ((d : Int) - a - b - c)] 71))
                rw [List.length_map] at OA
                have CN : Hid (∀ j u, [Value.int .i64 (a : Int), Value.int .i64 (b : Int), Value.int .i64 (c : Int), Value.int .i64 ((d : Int) - a - b - c)][j]? = some u → (wr.alloc (.cells #[Value.int .i64 (a : Int), Value.int .i64 (b : Int), Value.int .i64 (c : Int), Value.int .i64 ((d : Int) - a - b - c)] 71)).cell? ((⟨wr.heap.size, 0, none⟩ : Addr).add j) = some u) := Lib.hid (fun j u hu => by
                  rw [Addr.add_mid, Nat.zero_add, cell_of_row _ wr.heap.size j _ _ (0, 0) (heap_alloc_new wr _)]
                  simpa using hu)
                have O1 : Hid (∀ u ∈ [Value.int .i64 (a : Int), Value.int .i64 (b : Int), Value.int .i64 (c : Int), Value.int .i64 ((d : Int) - a - b - c)], u.oneCell' = true) := Lib.hid (fun u hu => by simp at hu; rcases hu with rfl | rfl | rfl | rfl <;> rfl)
                have BS := bsRunY4 wr (a : Int) (b : Int) (c : Int) ((d : Int) - a - b - c)
                have SZ : Hid (w.heap.size ≤ (wr.alloc (.cells #[Value.int .i64 (a : Int), Value.int .i64 (b : Int), Value.int .i64 (c : Int), Value.int .i64 ((d : Int) - a - b - c)] 71)).heap.size) := Lib.hid (by have := hJ.out.bel.size; simp; omega)
                go_wp2_with (at_builtin; refine wpList_append_own _ rfl _ _ 53 rfl w.heap.size 71 i0 (.agg #[Value.int .i64 0, Value.int .i64 0, Value.int .i64 0, Value.int .i64 0]) 4 32 Try.underlying53 hi hz0 hz1 hz2 rfl (by decide) _ _ _ rfl OA.out ⟨wr.heap.size, 0, none⟩ 1 1 [Value.int .i64 (a : Int), Value.int .i64 (b : Int), Value.int .i64 (c : Int), Value.int .i64 ((d : Int) - a - b - c)] rfl rfl CN.out O1.out (by have := LC2.out; unfold maxLen; omega) (by have := LC2.out; omega) SZ.out ?_; intro S5 w5 hown5 hgrow5 _; have J5 : Hid (MnJ w S5 (C ++ [mono4 d a b c]) w5) := Lib.hid (MnJ.push hJ.out hown5 hgrow5); clear hown5 hgrow5)
                rw [NC.out] at J5
                go_roundw
                case rel => exact ⟨c + 1, by omega, by go_num, J5⟩
                case measure => simp [intOf]; omega
            · obtain rfl : c = d - a - b + 1 := by omega
              have hlc' : ¬ ((d - a - b + 1 : Nat) : Int) < (d : Int) - (a : Int) - (b : Int) + 1 := by omega
              rw [NB.out] at hJ
              go_wp2_with fail
              go_roundw
              case rel => exact ⟨b + 1, by omega, by go_num, hJ⟩
              case measure => simp [intOf]; omega
        · obtain rfl : b = d - a + 1 := by omega
          have hlb' : ¬ ((d - a + 1 : Nat) : Int) < (d : Int) - (a : Int) + 1 := by omega
          rw [NA.out] at hJ
          go_wp2_with fail
          go_roundw
          case rel => exact ⟨a + 1, by omega, by go_num, hJ⟩
          case measure => simp [intOf]; omega
    · obtain rfl : a = d + 1 := by omega
      have hlt' : ¬ ((d + 1 : Nat) : Int) < (d : Int) + 1 := by omega
      go_wp2_with fail
      go_ret
      exact ⟨_, rfl, hJ.out.row, hJ.out.bel⟩
end Go.Proofs.Ytggebkcmokpcmaa
end
section
namespace Go.Proofs.Ytggebkcmokpcmaa
open Go.RowKit
set_option linter.unusedVariables false
set_option maxRecDepth 100000

/-- What occurs an odd number of times, in order. -/
def oddY : List (List Int) → List (List Int)
  | [] => []
  | x :: l => mrg [x] (oddY l)
theorem oddY_spec : ∀ l : List (List Int), Asc (oddY l) ∧ ∀ z, z ∈ oddY l ↔ par l z
  | [] => ⟨List.Pairwise.nil, fun z => by simp [oddY, par]⟩
  | x :: l => by
    obtain ⟨h1, h2⟩ := oddY_spec l
    obtain ⟨k1, k2⟩ := mrg_spec [x] (oddY l) (List.pairwise_singleton _ _) h1
    refine ⟨k1, fun z => ?_⟩
    rw [oddY, k2, h2]
    show _ ↔ (x = z ∧ ¬ par l z) ∨ (x ≠ z ∧ par l z)
    by_cases e : x = z
    · subst e; simp
    · have : z ∉ [x] := by simp; exact fun h => e h.symm
      simp [this, e]
theorem oddY_eq {l : List (List Int)} {zs : List (List Int)} (ha : Asc zs) (h : ∀ z, z ∈ zs ↔ par l z) : zs = oddY l :=
  asc_ext _ _ ha (oddY_spec l).1 fun z => by rw [h, (oddY_spec l).2]
theorem oddY_mem {l : List (List Int)} {z : List Int} (h : z ∈ oddY l) : z ∈ l := par_mem _ _ (((oddY_spec l).2 z).1 h)
theorem oddY_par {l l' : List (List Int)} (h : ∀ z, par l z ↔ par l' z) : oddY l = oddY l' := oddY_eq (oddY_spec l).1 fun z => by rw [(oddY_spec l).2, h]
theorem oddY_asc {l : List (List Int)} (h : Asc l) : oddY l = l := (oddY_eq h fun z => by rw [par_nodup l h.nodup]).symm
theorem par_oddY (l : List (List Int)) (z : List Int) : par (oddY l) z ↔ par l z := by rw [par_nodup _ (oddY_spec l).1.nodup, (oddY_spec l).2]

/-- Four exponents with the sum d. -/
def Mono4 (d : Nat) (x : List Int) : Prop := ∃ a b c f : Nat, x = [(a : Int), (b : Int), (c : Int), (f : Int)] ∧ a + b + c + f = d
theorem Mono4.len {d : Nat} {x : List Int} (h : Mono4 d x) : x.length = 4 := by obtain ⟨a, b, c, f, rfl, _⟩ := h; rfl
theorem mono4_is (d a b c : Nat) (h : a + b + c ≤ d) : Mono4 d (mono4 d a b c) := ⟨a, b, c, d - a - b - c, by unfold mono4; rw [show ((d : Int) - a - b - c) = ((d - a - b - c : Nat) : Int) by omega], by omega⟩
/-- The place of four exponents. -/
def ix4 : List Int → Nat
  | [a, b, c, _] => ixM a.toNat b.toNat c.toNat
  | _ => 0
theorem ix4_mono (d a b c : Nat) : ix4 (mono4 d a b c) = ixM a b c := rfl
theorem Mono4.eq {d : Nat} {x : List Int} (h : Mono4 d x) : ∃ a b c : Nat, a + b + c ≤ d ∧ x = mono4 d a b c ∧ ix4 x = ixM a b c := by
  obtain ⟨a, b, c, f, rfl, e⟩ := h
  exact ⟨a, b, c, by omega, by unfold mono4; rw [show ((d : Int) - a - b - c) = (f : Int) by omega], rfl⟩
theorem ix4_inj {d : Nat} (hd : d ≤ 40) (x y : List Int) (hx : Mono4 d x) (hy : Mono4 d y) (e : ix4 x = ix4 y) : x = y := by
  obtain ⟨a, b, c, h1, rfl, e1⟩ := hx.eq
  obtain ⟨a', b', c', h2, rfl, e2⟩ := hy.eq
  rw [e1, e2] at e
  unfold ixM at e
  have ha : a = a' := by omega
  subst ha
  have hb : b = b' := by omega
  subst hb
  have hc : c = c' := by omega
  subst hc
  rfl
theorem par_oddN (i : Nat) : ∀ l : List Nat, oddN l i = true ↔ par l i
  | [] => by simp [par, oddN]
  | x :: l => by
    have ih := par_oddN i l
    show _ ↔ (x = i ∧ ¬ par l i) ∨ (x ≠ i ∧ par l i)
    rw [← ih]
    unfold oddN
    rw [List.count_cons]
    by_cases e : x = i
    · subst e
      simp
      omega
    · have : (x == i) = false := by rw [beq_eq_false_iff_ne]; exact e
      simp [e, this]

theorem mem_monL (N : List Nat) (d : Nat) (x : List Int) : x ∈ monL N d ↔ ∃ a b c, a + b + c ≤ d ∧ oddN N (ixM a b c) = true ∧ x = mono4 d a b c := by
  unfold monL rowA rowB rowC
  simp only [List.mem_flatMap, List.mem_range, List.mem_map, List.mem_filter]
  constructor
  · rintro ⟨a, ha, b, hb, c, ⟨hc, ho⟩, rfl⟩
    exact ⟨a, b, c, by omega, ho, rfl⟩
  · rintro ⟨a, b, c, h, ho, rfl⟩
    exact ⟨a, by omega, b, by omega, c, ⟨by omega, ho⟩, rfl⟩
theorem lexLt_cons_ne {a b : Int} {l l' : List Int} (h : a < b) : lexLt (a :: l) (b :: l') = true := by
  rw [lexLt, if_neg (by omega)]
  exact decide_eq_true h
theorem lexLt_cons_eq (a : Int) (l l' : List Int) : lexLt (a :: l) (a :: l') = lexLt l l' := by rw [lexLt, if_pos rfl]
theorem range_lt (n : Nat) : (List.range n).Pairwise (· < ·) := List.pairwise_lt_range
theorem asc_monL (N : List Nat) (d : Nat) : Asc (monL N d) := by
  unfold monL rowA Asc
  rw [List.pairwise_flatMap]
  refine ⟨fun a _ => ?_, (range_lt _).imp ?_⟩
  · unfold rowB
    rw [List.pairwise_flatMap]
    refine ⟨fun b _ => ?_, (range_lt _).imp ?_⟩
    · unfold rowC
      rw [List.pairwise_map]
      refine ((range_lt _).filter _).imp ?_
      intro c c' h
      unfold mono4
      rw [lexLt_cons_eq, lexLt_cons_eq]
      exact lexLt_cons_ne (by omega)
    · intro b b' h x hx y hy
      obtain ⟨c, _, rfl⟩ := List.mem_map.1 hx
      obtain ⟨c', _, rfl⟩ := List.mem_map.1 hy
      unfold mono4
      rw [lexLt_cons_eq]
      exact lexLt_cons_ne (by omega)
  · intro a a' h x hx y hy
    obtain ⟨b, _, hx⟩ := List.mem_flatMap.1 hx
    obtain ⟨b', _, hy⟩ := List.mem_flatMap.1 hy
    obtain ⟨c, _, rfl⟩ := List.mem_map.1 hx
    obtain ⟨c', _, rfl⟩ := List.mem_map.1 hy
    exact lexLt_cons_ne (by omega)
/-- The table of a sum tells what occurs an odd number of times. -/
theorem monL_odd (T : List (List Int)) (d : Nat) (hd : d ≤ 40) (h : ∀ t ∈ T, Mono4 d t) : monL (T.map ix4) d = oddY T := by
  refine oddY_eq (asc_monL _ _) fun z => ?_
  rw [mem_monL]
  constructor
  · rintro ⟨a, b, c, hs, ho, rfl⟩
    have h1 := (par_oddN _ _).1 ho
    rw [← ix4_mono d a b c] at h1
    exact (par_map ix4 (Mono4 d) (ix4_inj hd) _ (mono4_is d a b c hs) T h).1 h1
  · intro hp
    have hz := h z (par_mem _ _ hp)
    obtain ⟨a, b, c, hs, e, e2⟩ := hz.eq
    refine ⟨a, b, c, hs, ?_, e⟩
    rw [par_oddN, ← e2]
    exact (par_map ix4 (Mono4 d) (ix4_inj hd) _ hz T h).2 hp
theorem monL_nil (d : Nat) : monL [] d = [] := by
  refine List.eq_nil_iff_forall_not_mem.2 fun x hx => ?_
  obtain ⟨a, b, c, _, ho, _⟩ := (mem_monL [] d x).1 hx
  exact absurd ho (by simp [oddN])
end Go.Proofs.Ytggebkcmokpcmaa
end
section
namespace Go.Proofs.Ytggebkcmokpcmaa
open Go.RowKit
set_option linter.unusedVariables false
set_option maxRecDepth 100000

theorem ownNil (w : World) :
    Calls Try.prog 80 #[.slice none 0 0] w fun e w' => ∃ u, e = .returned u ∧ w'.ownsRow w.heap.size 2 1 u 0 [] ∧ Below w.heap.size w w' := by
  obtain ⟨i0, hi, hz0, hz1, hz2⟩ := info_parts Try.info2
  go_enter Try.func80, Try.ntmps80
  go_wp2_with (at_builtin; refine wpList_append_own_none rfl _ _ 42 rfl w.heap.size 2 i0 1 Try.underlying42 hi _ 0 [] rfl (World.ownsRow_made w #[] 0 (Nat.le_refl _) (Nat.zero_le _) (by simp)) rfl ?_)
  go_ret
  exact ⟨_, rfl, World.ownsRow_made w #[] 0 (Nat.le_refl _) (Nat.zero_le _) (by simp), (Below.refl _ w).alloc (Nat.le_refl _) _⟩

theorem ownAny (v : Value) (zs : List Int) (B : Nat) (w : World) (hn : zs.length ≤ 1000000) (h : w.ownsRow B 2 1 v zs.length (zs.map (Value.int .i64))) :
    Calls Try.prog 80 #[v] w fun e w' => ∃ u, e = .returned u ∧ w'.ownsRow w.heap.size 2 1 u zs.length (zs.map (Value.int .i64)) ∧ Below w.heap.size w w' := by
  rcases h.2 with ⟨rfl, h0⟩ | ⟨g, cap, cur, rfl, _⟩
  · have hz : zs = [] := List.eq_nil_of_length_eq_zero h0
    subst hz
    exact ownNil w
  · exact (l01Own_any g zs.length cap zs B w hn h).mono fun e w' ⟨u, a, b, _, c⟩ => ⟨u, a, b, c⟩

end Go.Proofs.Ytggebkcmokpcmaa
end
