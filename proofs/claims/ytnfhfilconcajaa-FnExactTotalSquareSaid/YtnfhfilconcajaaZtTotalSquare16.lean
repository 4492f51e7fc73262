/-
  Joined: YAdd, YMons.
-/
import Derived.Test.YtnfhfilconcajaaZtTotalSquare15
import Derived.Lib.Hide
section
namespace Go.Proofs.Ytnfhfilconcajaa
open Go.RowKit Go.Maps
set_option linter.unusedVariables false
set_option maxRecDepth 100000

/-- What adding leaves. -/
def AddRes (g : Nat) (d : Int) (N : List Nat) (w : World) (e : Ending) (w' : World) : Prop := e = .returned (.tuple #[]) ∧ SumAt w' g d N ∧ w.grownBy w' (some g)

theorem gb_set {w w' : World} {g : Nat} (h : w.grownBy w' (some g)) (hg : g < w.heap.size) (i : Nat) (v : Value) : w.grownBy (w'.setCell ⟨g, i, none⟩ v) (some g) := by
  refine h.trans ⟨rfl, rfl, rfl, by simp, fun k hk hne => heap_setCell_other _ _ _ _ (by simpa using fun e => hne (by rw [e]))⟩
theorem gb_alloc (w : World) (o : Obj) (q : Option Nat) : w.grownBy (w.alloc o) q := ⟨rfl, rfl, rfl, by simp, fun k hk _ => heap_alloc_old w o hk⟩
theorem gb_drew {w w' : World} {q : Option Nat} (h : w.grownBy w' q) (n : Nat) : w.grownBy (w'.drewN n) q := ⟨h.os, h.tape, h.output, h.size, h.block⟩

set_option maxHeartbeats 1000000 in
theorem add_any (g : Nat) (a b c f : Nat) (dg : Int) (N : List Nat) (w : World) (h : SumAt w g dg N) (hs : a + b + c + f ≤ 40) :
    Calls Try.prog 85 #[.pointer (some ⟨g, 0, none⟩), .agg (pwK [(a : Int), (b : Int), (c : Int), (f : Int)])] w (AddRes g ((a + b + c + f : Nat) : Int) (N ++ [ixM a b c]) w) := by
  obtain ⟨w1, hw1⟩ : ∃ w1, w1 = (w.alloc (.cells (pwK [(a : Int), (b : Int), (c : Int), (f : Int)]) 98)) := ⟨_, rfl⟩
  have M1 : Hid (PwAt w1 w.heap.size [(a : Int), (b : Int), (c : Int), (f : Int)]) := Lib.hid (by rw [hw1]; exact PwAt.new w _)
  have S1 : Hid (SumAt w1 g dg N) := Lib.hid (by rw [hw1]; exact h.alloc _)
  have HL := Lib.hid h.lt
  have hne : w.heap.size ≠ g := by have := h.lt; omega
  have G1 : Hid (w.grownBy w1 (some g)) := Lib.hid (by rw [hw1]; exact gb_alloc _ _ _)
  have D1 : DegIs w1 (.slice (some ⟨w.heap.size, 0, none⟩) 4 4) ((a + b + c + f : Nat) : Int) := by
    refine ⟨4, gOf [(a : Int), (b : Int), (c : Int), (f : Int)], ⟨_, 4, rfl, by unfold maxLen; omega, .inr ⟨w.heap.size, 0, rfl, fun i hi => by rw [Nat.zero_add]; exact M1.out.cell i hi⟩⟩, fun i hi => ?_, ?_⟩
    · match i, hi with
      | 0, _ => simp [dsum]
      | 1, _ => simp [dsum, gOf]; omega
      | 2, _ => simp [dsum, gOf]; omega
      | 3, _ => simp [dsum, gOf]; omega
      | 4, _ => simp [dsum, gOf]; omega
    · simp [dsum, gOf]
  have HD := Lib.hid D1
  clear h D1
  go_enter Try.func85, Try.ntmps85
  go_wp2_with fail
  rw [← hw1]
  clear hw1
  refine (degreeOfWord_is HD.out).mono ?_
  rintro e w2 ⟨rfl, rfl⟩
  have f0 := S1.out.fr 0
  have e0 := S1.out.c0
  obtain ⟨s, hsx⟩ : ∃ s : Int, s = ((a + b + c + f : Nat) : Int) := ⟨_, rfl⟩
  rw [← hsx]
  have S2 := Lib.hid (S1.out.set0 s)
  have M2 := Lib.hid (M1.out.other ⟨g, 0, none⟩ (.int .i64 s) hne)
  have G2 := Lib.hid (gb_set G1.out HL.out 0 (.int .i64 s))
  have HS := Lib.hid hsx
  clear S1 M1 G1 HD hsx
  go_upto_region 2 with fail
  generalize (w1.setCell ⟨g, 0, none⟩ (.int .i64 s)) = w2 at *
  clear f0 e0
  have c0 := M2.out.cell 0 (by simp)
  have c1 := M2.out.cell 1 (by simp)
  have c2 := M2.out.cell 2 (by simp)
  simp only [List.getElem?_cons_zero, List.getElem?_cons_succ, Option.getD_some] at c0 c1 c2
  have a41 : (a : Int) < 41 := by omega
  have b41 : (b : Int) < 41 := by omega
  have c41 : (c : Int) < 41 := by omega
  have a0 : (0 : Int) ≤ (a : Int) := by omega
  have b0 : (0 : Int) ≤ (b : Int) := by omega
  have cc0 : (0 : Int) ≤ (c : Int) := by omega
  go_quiet (fail)
  go_upto_region 3 with fail
  have hix : ixM a b c < 68921 := by unfold ixM; omega
  have ho : 1 + a * 1681 + b * 41 + c = 1 + ixM a b c := by unfold ixM; omega
  have d1 := (S2.out.drewN nq).ci (ixM a b c) hix
  have f1 := (S2.out.drewN nq).fr (1 + ixM a b c)
  have S3 := Lib.hid ((S2.out.drewN nq).seti (ixM a b c) hix)
  have G3 := Lib.hid (gb_set (gb_drew G2.out nq) HL.out (1 + ixM a b c) (.bool (!oddN N (ixM a b c))))
  rw [ho]
  clear S2 M2 G2 c0 c1 c2 ho
  generalize 1 + ixM a b c = o at *
  generalize oddN N (ixM a b c) = x at *
  go_wp2_with fail
  go_end0
  exact ⟨rfl, by rw [← HS.out]; exact S3.out, G3.out⟩
end Go.Proofs.Ytnfhfilconcajaa
end
section
namespace Go.Proofs.Ytnfhfilconcajaa
open Go.RowKit Go.Maps
set_option linter.unusedVariables false
set_option maxRecDepth 100000

def mono4 (d a b c : Nat) : List Int := [(a : Int), (b : Int), (c : Int), (d : Int) - a - b - c]
def rowC (N : List Nat) (d a b n : Nat) : List (List Int) := ((List.range n).filter fun c => oddN N (ixM a b c)).map fun c => mono4 d a b c
def rowB (N : List Nat) (d a n : Nat) : List (List Int) := (List.range n).flatMap fun b => rowC N d a b (d - a - b + 1)
def rowA (N : List Nat) (d n : Nat) : List (List Int) := (List.range n).flatMap fun a => rowB N d a (d - a + 1)
/-- What the sum tells. -/
def monL (N : List Nat) (d : Nat) : List (List Int) := rowA N d (d + 1)
theorem rowC_succ (N : List Nat) (d a b n : Nat) : rowC N d a b (n + 1) = rowC N d a b n ++ (if oddN N (ixM a b n) then [mono4 d a b n] else []) := by
  unfold rowC
  rw [List.range_succ, List.filter_append, List.map_append]
  congr 1
  cases h : oddN N (ixM a b n) <;> simp [h]
theorem rowB_succ (N : List Nat) (d a n : Nat) : rowB N d a (n + 1) = rowB N d a n ++ rowC N d a n (d - a - n + 1) := by
  unfold rowB
  rw [List.range_succ, List.flatMap_append]
  simp
theorem rowA_succ (N : List Nat) (d n : Nat) : rowA N d (n + 1) = rowA N d n ++ rowB N d n (d - n + 1) := by
  unfold rowA
  rw [List.range_succ, List.flatMap_append]
  simp
theorem rowC_len (N : List Nat) (d a b n : Nat) : (rowC N d a b n).length ≤ n := by
  unfold rowC
  rw [List.length_map]
  exact Nat.le_trans (List.length_filter_le _ _) (by rw [List.length_range]; exact Nat.le_refl _)
theorem rowB_len (N : List Nat) (d a n : Nat) (hd : d ≤ 40) : (rowB N d a n).length ≤ n * 41 := by
  induction n with
  | zero => simp [rowB]
  | succ n ih =>
    rw [rowB_succ, List.length_append, Nat.succ_mul]
    have := rowC_len N d a n (d - a - n + 1)
    omega
theorem rowA_len (N : List Nat) (d n : Nat) (hd : d ≤ 40) : (rowA N d n).length ≤ n * 1681 := by
  induction n with
  | zero => simp [rowA]
  | succ n ih =>
    rw [rowA_succ, List.length_append, Nat.succ_mul]
    have := rowB_len N d n (d - n + 1) hd
    have h2 : (d - n + 1) * 41 ≤ 41 * 41 := Nat.mul_le_mul_right _ (by omega)
    omega

/-- What the loops keep. -/
structure MnJ (w0 : World) (S : Value) (L : List (List Int)) (w : World) : Prop where
  bel : Below w0.heap.size w0 w
  row : OwnY w w0.heap.size S (L.map pwK)

theorem ownY_snoc {w : World} {B : Nat} {v : Value} {zs : List (List Int)} {z : List Int} (h : w.ownsRow B 98 4 v (zs.length + 1) ((zs.map pwK).flatMap Array.toList ++ (pwK z).toList)) : OwnY w B v ((zs ++ [z]).map pwK) := by
  unfold OwnY
  rw [List.map_append, List.length_append, List.map_cons, List.map_nil, List.length_singleton, List.flatMap_append]
  simpa using h
theorem MnJ.push {w0 w w5 : World} {S S' : Value} {zs : List (List Int)} {z : List Int} {o : Obj} (h : MnJ w0 S zs w)
    (hown : w5.ownsRow w0.heap.size 98 4 S' (zs.length + 1) ((zs.map pwK).flatMap Array.toList ++ (pwK z).toList)) (hg : (w.alloc o).grownBy w5 S.ownBlock) : MnJ w0 S' (zs ++ [z]) w5 :=
  ⟨(h.bel.alloc h.bel.size o).grown hg (Nat.le_trans h.bel.size (by simp)) (fun q hq => (h.row.lt q hq).1), ownY_snoc hown⟩

/-- What monomials answers. -/
def MonsRes (L : List (List Int)) (w : World) (e : Ending) (w' : World) : Prop := ∃ u, e = .returned u ∧ OwnY w' w.heap.size u (L.map pwK) ∧ Below w.heap.size w w'

set_option maxHeartbeats 4000000 in
theorem monomialsY_any (g d : Nat) (N : List Nat) (w : World) (h : SumAt w g (d : Int) N) (hd : d ≤ 40) :
    Calls Try.prog 86 #[.pointer (some ⟨g, 0, none⟩)] w (MonsRes (monL N d) w) := by
  obtain ⟨i0, hi, hz0, hz1, hz2⟩ := info_parts infoEY
  have HS : Hid (∀ wx, Below w.heap.size w wx → SumAt wx g (d : Int) N) := Lib.hid (fun wx hb => h.up hb)
  have J0 : Hid (MnJ w (.slice none 0 0) (rowA N d 0) w) := Lib.hid ⟨Below.refl _ _, World.ownsRow_nil _ _ _ _⟩
  have e0 := h.c0
  clear h
  go_enter Try.func86, Try.ntmps86
  go_wp2_with fail
  clear e0
  go_loopw [3, 4, 5, 6, 12] (fun S _ _ _ x wr => ∃ a : Nat, a ≤ d + 1 ∧ x = .int .i64 a ∧ Hid (MnJ w S (rowA N d a) wr)) (fun _ _ _ _ x _ => d + 1 - (intOf x).toNat)
  case atStart => exact ⟨0, by omega, rfl, J0⟩
  case round =>
    clear J0
    obtain ⟨a, ha, rfl, hJ⟩ := hrel
    by_cases hlt : a ≤ d
    · have hlt' : (a : Int) < (d : Int) + 1 := by omega
      have e0 := (HS.out wr hJ.out.bel).c0
      have LA := rowA_len N d a hd
      have LA1 : a * 1681 ≤ 40 * 1681 := Nat.mul_le_mul_right _ (by omega)
      obtain ⟨A, hA⟩ : ∃ A, A = rowA N d a := ⟨_, rfl⟩
      have NA : Hid (A ++ rowB N d a (d - a + 1) = rowA N d (a + 1)) := Lib.hid (by rw [hA, ← rowA_succ])
      have LA2 : Hid (A.length ≤ 67240) := Lib.hid (by rw [hA]; omega)
      rw [← hA] at hJ
      clear hA LA LA1
      go_wp2_with fail
      clear e0
      have J1 : Hid (MnJ w u3 (A ++ rowB N d a 0) wr) := Lib.hid (by rw [show rowB N d a 0 = [] from rfl, List.append_nil]; exact hJ.out)
      clear hJ
      obtain ⟨wo, hwo⟩ : ∃ wo, wo = wr := ⟨_, rfl⟩
      subst hwo
      go_loopw [3, 5, 6, 22] (fun S _ _ x wi => ∃ b : Nat, b ≤ d - a + 1 ∧ x = .int .i64 b ∧ Hid (MnJ w S (A ++ rowB N d a b) wi)) (fun _ _ _ x _ => d + 1 - (intOf x).toNat)
      case atStart => exact ⟨0, by omega, rfl, J1⟩
      case round =>
        clear J1
        obtain ⟨b, hb, rfl, hJ⟩ := hrel
        by_cases hlb : b ≤ d - a
        · have hlb' : (b : Int) < (d : Int) - (a : Int) + 1 := by omega
          have e0 := (HS.out wr hJ.out.bel).c0
          have LB := rowB_len N d a b hd
          have LB1 : b * 41 ≤ 40 * 41 := Nat.mul_le_mul_right _ (by omega)
          obtain ⟨B, hB⟩ : ∃ B, B = A ++ rowB N d a b := ⟨_, rfl⟩
          have NB : Hid (B ++ rowC N d a b (d - a - b + 1) = A ++ rowB N d a (b + 1)) := Lib.hid (by rw [hB, rowB_succ, List.append_assoc])
          have LB2 : Hid (B.length ≤ 68880) := Lib.hid (by rw [hB, List.length_append]; have := LA2.out; omega)
          rw [← hB] at hJ
          clear hB LB LB1
          go_wp2_with fail
          clear e0
          have J2 : Hid (MnJ w u3 (B ++ rowC N d a b 0) wr) := Lib.hid (by rw [show rowC N d a b 0 = [] from rfl, List.append_nil]; exact hJ.out)
          clear hJ
          obtain ⟨wo2, hwo2⟩ : ∃ wo2, wo2 = wr := ⟨_, rfl⟩
          subst hwo2
          go_loopw [3, 6, 34] (fun S _ x wi => ∃ c : Nat, c ≤ d - a - b + 1 ∧ x = .int .i64 c ∧ Hid (MnJ w S (B ++ rowC N d a b c) wi)) (fun _ _ x _ => d + 1 - (intOf x).toNat)
          case atStart => exact ⟨0, by omega, rfl, J2⟩
          case round =>
            clear J2
            obtain ⟨c, hc, rfl, hJ⟩ := hrel
            by_cases hlc : c ≤ d - a - b
            · have hlc' : (c : Int) < (d : Int) - (a : Int) - (b : Int) + 1 := by omega
              have SW := HS.out wr hJ.out.bel
              have e0 := SW.c0
              have hix : ixM a b c < 68921 := by unfold ixM; omega
              have e1 := SW.ci (ixM a b c) hix
              have ho : 1 + ixM a b c = 1 + a * 1681 + b * 41 + c := by unfold ixM; omega
              rw [ho] at e1
              have LC := rowC_len N d a b c
              have RC := rowC_succ N d a b c
              obtain ⟨C, hC⟩ : ∃ C, C = B ++ rowC N d a b c := ⟨_, rfl⟩
              have LC2 : Hid (C.length ≤ 68921) := Lib.hid (by rw [hC, List.length_append]; have := LB2.out; omega)
              have a41 : (a : Int) < 41 := by omega
              have b41 : (b : Int) < 41 := by omega
              have c41 : (c : Int) < 41 := by omega
              cases hx : oddN N (ixM a b c) with
              | false =>
                rw [hx] at RC e1
                have NC : Hid (C = B ++ rowC N d a b (c + 1)) := Lib.hid (by rw [hC, RC]; simp)
                rw [← hC] at hJ
                clear hC LC RC SW ho hx hix
                go_wp2_with fail
                go_roundw
                case rel => exact ⟨c + 1, by omega, by go_num, by rw [← NC.out]; exact hJ⟩
                case measure => simp [intOf]; omega
              | true =>
                rw [hx] at RC e1
                have NC : Hid (C ++ [mono4 d a b c] = B ++ rowC N d a b (c + 1)) := Lib.hid (by rw [hC, RC]; simp)
                rw [← hC] at hJ
                clear hC LC RC SW ho hx hix
                have OA := Lib.hid (World.ownsRow.alloc hJ.out.row (.cells #[Value.int .i64 (a : Int), Value.int .i64 (b : Int), Value.int .i64 (c : Int), Value.int .i64 ((d : Int) - a - b - c)] 98))
                rw [List.length_map] at OA
                have CN : Hid (∀ j u, [Value.int .i64 (a : Int), Value.int .i64 (b : Int), Value.int .i64 (c : Int), Value.int .i64 ((d : Int) - a - b - c)][j]? = some u → (wr.alloc (.cells #[Value.int .i64 (a : Int), Value.int .i64 (b : Int), Value.int .i64 (c : Int), Value.int .i64 ((d : Int) - a - b - c)] 98)).cell? ((⟨wr.heap.size, 0, none⟩ : Addr).add j) = some u) := Lib.hid (fun j u hu => by
                  rw [Addr.add_mid, Nat.zero_add, cell_of_row _ wr.heap.size j _ _ (0, 0) (heap_alloc_new wr _)]
                  simpa using hu)
                have O1 : Hid (∀ u ∈ [Value.int .i64 (a : Int), Value.int .i64 (b : Int), Value.int .i64 (c : Int), Value.int .i64 ((d : Int) - a - b - c)], u.oneCell' = true) := Lib.hid (fun u hu => by simp at hu; rcases hu with rfl | rfl | rfl | rfl <;> rfl)
                have BS := bsRunY4 wr (a : Int) (b : Int) (c : Int) ((d : Int) - a - b - c)
                have SZ : Hid (w.heap.size ≤ (wr.alloc (.cells #[Value.int .i64 (a : Int), Value.int .i64 (b : Int), Value.int .i64 (c : Int), Value.int .i64 ((d : Int) - a - b - c)] 98)).heap.size) := Lib.hid (by have := hJ.out.bel.size; simp; omega)
                go_wp2_with (at_builtin; refine wpList_append_own _ rfl _ _ 75 rfl w.heap.size 98 i0 (.agg #[Value.int .i64 0, Value.int .i64 0, Value.int .i64 0, Value.int .i64 0]) 4 32 Try.underlying75 hi hz0 hz1 hz2 rfl (by decide) _ _ _ rfl OA.out ⟨wr.heap.size, 0, none⟩ 1 1 [Value.int .i64 (a : Int), Value.int .i64 (b : Int), Value.int .i64 (c : Int), Value.int .i64 ((d : Int) - a - b - c)] rfl rfl CN.out O1.out (by have := LC2.out; unfold maxLen; omega) (by have := LC2.out; omega) SZ.out ?_; intro S5 w5 hown5 hgrow5 _; have J5 : Hid (MnJ w S5 (C ++ [mono4 d a b c]) w5) := Lib.hid (MnJ.push hJ.out hown5 hgrow5); clear hown5 hgrow5)
                rw [NC.out] at J5
                go_roundw
                case rel => exact ⟨c + 1, by omega, by go_num, J5⟩
                case measure => simp [intOf]; omega
            · obtain rfl : c = d - a - b + 1 := by omega
              have hlc' : ¬ ((d - a - b + 1 : Nat) : Int) < (d : Int) - (a : Int) - (b : Int) + 1 := by omega
              rw [NB.out] at hJ
              go_wp2_with fail
              go_roundw
              case rel => exact ⟨b + 1, by omega, by go_num, hJ⟩
              case measure => simp [intOf]; omega
        · obtain rfl : b = d - a + 1 := by omega
          have hlb' : ¬ ((d - a + 1 : Nat) : Int) < (d : Int) - (a : Int) + 1 := by omega
          rw [NA.out] at hJ
          go_wp2_with fail
          go_roundw
          case rel => exact ⟨a + 1, by omega, by go_num, hJ⟩
          case measure => simp [intOf]; omega
    · obtain rfl : a = d + 1 := by omega
      have hlt' : ¬ ((d + 1 : Nat) : Int) < (d : Int) + 1 := by omega
      go_wp2_with fail
      go_ret
      exact ⟨_, rfl, hJ.out.row, hJ.out.bel⟩
end Go.Proofs.Ytnfhfilconcajaa
end
