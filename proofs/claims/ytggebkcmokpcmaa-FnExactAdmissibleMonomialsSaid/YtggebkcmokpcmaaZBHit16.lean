/-
  Joined: YSum, YAdd.
-/
import Derived.Test.YtggebkcmokpcmaaZBHit15
import Derived.Test.YtggebkcmokpcmaaZBHit10
import Derived.Deep.QuietTactic
import Derived.BigQuiet
section
namespace Go.Proofs.Ytggebkcmokpcmaa
open Go.RowKit Go.Maps
set_option linter.unusedVariables false
set_option maxRecDepth 100000

/-- Whether i occurs an odd number of times. -/
def oddN (N : List Nat) (i : Nat) : Bool := N.count i % 2 == 1
theorem oddN_snoc_same (N : List Nat) (i : Nat) : oddN (N ++ [i]) i = !oddN N i := by
  unfold oddN
  rw [List.count_append, List.count_singleton_self]
  rcases Nat.mod_two_eq_zero_or_one (N.count i) with h | h
  · rw [h, show (N.count i + 1) % 2 = 1 by omega]; rfl
  · rw [h, show (N.count i + 1) % 2 = 0 by omega]; rfl
theorem oddN_snoc_ne (N : List Nat) (i j : Nat) (h : i ≠ j) : oddN (N ++ [i]) j = oddN N j := by
  unfold oddN
  rw [List.count_append, List.count_singleton]
  simp [h]
/-- The cells of a sum. -/
def bitsL (N : List Nat) : List Value := (List.range 68921).map fun i => .bool (oddN N i)
def sumV (d : Int) (N : List Nat) : Array Value := (Value.int .i64 d :: bitsL N).toArray
theorem bitsL_len (N : List Nat) : (bitsL N).length = 68921 := by unfold bitsL; rw [List.length_map, List.length_range]
theorem bitsL_at (N : List Nat) (i : Nat) (h : i < 68921) : (bitsL N)[i]? = some (.bool (oddN N i)) := by
  unfold bitsL
  rw [List.getElem?_map, List.getElem?_range h]
  rfl
theorem bitsL_set (N : List Nat) (i : Nat) (h : i < 68921) : (bitsL N).set i (.bool (!oddN N i)) = bitsL (N ++ [i]) := by
  refine List.ext_getElem? fun j => ?_
  rw [List.getElem?_set, bitsL_len]
  by_cases hj : j < 68921
  · rw [bitsL_at _ _ hj, bitsL_at _ _ hj]
    by_cases e : i = j
    · subst e; rw [if_pos rfl, if_pos h, oddN_snoc_same]
    · rw [if_neg e, oddN_snoc_ne _ _ _ e]
  · rw [List.getElem?_eq_none (by rw [bitsL_len]; omega), List.getElem?_eq_none (by rw [bitsL_len]; omega), if_neg (by omega)]
def isF : Value → Bool
  | .bool b => !b
  | _ => false
theorem isF_eq {v : Value} (h : isF v = true) : v = .bool false := by
  cases v <;> simp [isF] at h
  rw [h]
theorem zall : (Try.zeroCells99.toList.tail).all isF = true := by kernel_rfl
theorem zhead : Try.zeroCells99.toList.head? = some (.int .i64 0) := by kernel_rfl
theorem zero_sum : Try.zeroCells99 = sumV 0 [] := by
  have hs := Try.zeroCells99_size
  have ha := zall
  have hh := zhead
  generalize Try.zeroCells99 = Z at *
  obtain ⟨L⟩ := Z
  cases L with
  | nil => cases hh
  | cons z L =>
    simp only [List.head?_cons, Option.some.injEq] at hh
    subst hh
    unfold sumV
    congr 1
    congr 1
    simp only [List.size_toArray, List.length_cons] at hs
    simp only [List.tail_cons] at ha
    refine List.ext_getElem? fun j => ?_
    by_cases hj : j < 68921
    · rw [bitsL_at _ _ hj, List.getElem?_eq_getElem (by omega), isF_eq (List.all_eq_true.1 ha _ (List.getElem_mem (by omega)))]
      rfl
    · rw [List.getElem?_eq_none (by omega), List.getElem?_eq_none (by rw [bitsL_len]; omega)]

/-- A sum lies in block g. -/
def SumAt (w : World) (g : Nat) (d : Int) (N : List Nat) : Prop := w.heap[g]? = some (.cells (sumV d N) 99 (0, 0))
section
variable {w w' : World} {g : Nat} {d : Int} {N : List Nat}
theorem SumAt.lt (h : SumAt w g d N) : g < w.heap.size := (Array.getElem?_eq_some_iff.1 h).1
theorem SumAt.c0 (h : SumAt w g d N) : w.cell? ⟨g, 0, none⟩ = some (.int .i64 d) := cell_of_row w g 0 _ _ (0, 0) h
theorem SumAt.ci (h : SumAt w g d N) (i : Nat) (hi : i < 68921) : w.cell? ⟨g, 1 + i, none⟩ = some (.bool (oddN N i)) := by
  rw [cell_of_row w g (1 + i) _ _ (0, 0) h]
  unfold sumV
  rw [List.getElem?_toArray, Nat.add_comm, List.getElem?_cons_succ]
  exact bitsL_at N i hi
theorem SumAt.fr (h : SumAt w g d N) (i : Nat) : w.frozen? ⟨g, i, none⟩ = false := by unfold SumAt at h; simp [World.frozen?, h]
theorem SumAt.set0 (h : SumAt w g d N) (d' : Int) : SumAt (w.setCell ⟨g, 0, none⟩ (.int .i64 d')) g d' N := heap_setCell_same w g 0 _ _ (.int .i64 d') h
theorem SumAt.seti (h : SumAt w g d N) (i : Nat) (hi : i < 68921) : SumAt (w.setCell ⟨g, 1 + i, none⟩ (.bool (!oddN N i))) g d (N ++ [i]) := by
  have := heap_setCell_same w g (1 + i) _ _ (.bool (!oddN N i)) h
  have e : (sumV d N).setIfInBounds (1 + i) (.bool (!oddN N i)) = sumV d (N ++ [i]) := by
    unfold sumV
    rw [List.setIfInBounds_toArray, Nat.add_comm, List.set_cons_succ, bitsL_set N i hi]
  rw [e] at this
  exact this
theorem SumAt.up (h : SumAt w g d N) (k : Below w.heap.size w w') : SumAt w' g d N := (k.block _ h.lt).trans h
theorem SumAt.drewN (h : SumAt w g d N) (q : Nat) : SumAt (w.drewN q) g d N := h
theorem SumAt.alloc (h : SumAt w g d N) (o : Obj) : SumAt (w.alloc o) g d N := (heap_alloc_old w o h.lt).trans h
theorem SumAt.new (w : World) : SumAt (w.alloc (.cells Try.zeroCells99 99)) w.heap.size 0 [] := by
  unfold SumAt
  rw [← zero_sum]
  exact heap_alloc_new w _
end

/-- The place of a monomial. -/
def ixM (a b c : Nat) : Nat := a * 1681 + b * 41 + c

end Go.Proofs.Ytggebkcmokpcmaa
end
section
namespace Go.Proofs.Ytggebkcmokpcmaa
open Go.RowKit Go.Maps
set_option linter.unusedVariables false
set_option maxRecDepth 100000

/-- What adding leaves. -/
def AddRes (g : Nat) (d : Int) (N : List Nat) (w : World) (e : Ending) (w' : World) : Prop := e = .returned (.tuple #[]) ∧ SumAt w' g d N ∧ w.grownBy w' (some g)

theorem gb_set {w w' : World} {g : Nat} (h : w.grownBy w' (some g)) (hg : g < w.heap.size) (i : Nat) (v : Value) : w.grownBy (w'.setCell ⟨g, i, none⟩ v) (some g) := by
  refine h.trans ⟨rfl, rfl, rfl, by simp, fun k hk hne => heap_setCell_other _ _ _ _ (by simpa using fun e => hne (by rw [e]))⟩
theorem gb_alloc (w : World) (o : Obj) (q : Option Nat) : w.grownBy (w.alloc o) q := ⟨rfl, rfl, rfl, by simp, fun k hk _ => heap_alloc_old w o hk⟩
theorem gb_drew {w w' : World} {q : Option Nat} (h : w.grownBy w' q) (n : Nat) : w.grownBy (w'.drewN n) q := ⟨h.os, h.tape, h.output, h.size, h.block⟩

set_option maxHeartbeats 1000000 in
theorem add_any (g : Nat) (a b c f : Nat) (dg : Int) (N : List Nat) (w : World) (h : SumAt w g dg N) (hs : a + b + c + f ≤ 40) :
    Calls Try.prog 109 #[.pointer (some ⟨g, 0, none⟩), .agg (pwK [(a : Int), (b : Int), (c : Int), (f : Int)])] w (AddRes g ((a + b + c + f : Nat) : Int) (N ++ [ixM a b c]) w) := by
  obtain ⟨w1, hw1⟩ : ∃ w1, w1 = (w.alloc (.cells (pwK [(a : Int), (b : Int), (c : Int), (f : Int)]) 71)) := ⟨_, rfl⟩
  have M1 : Hid (PwAt w1 w.heap.size [(a : Int), (b : Int), (c : Int), (f : Int)]) := Lib.hid (by rw [hw1]; exact PwAt.new w _)
  have S1 : Hid (SumAt w1 g dg N) := Lib.hid (by rw [hw1]; exact h.alloc _)
  have HL := Lib.hid h.lt
  have hne : w.heap.size ≠ g := by have := h.lt; omega
  have G1 : Hid (w.grownBy w1 (some g)) := Lib.hid (by rw [hw1]; exact gb_alloc _ _ _)
  have D1 : DegIs w1 (.slice (some ⟨w.heap.size, 0, none⟩) 4 4) ((a + b + c + f : Nat) : Int) := by
    refine ⟨4, gOf [(a : Int), (b : Int), (c : Int), (f : Int)], ⟨_, 4, rfl, by unfold maxLen; omega, .inr ⟨w.heap.size, 0, rfl, fun i hi => by rw [Nat.zero_add]; exact M1.out.cell i hi⟩⟩, fun i hi => ?_, ?_⟩
    · match i, hi with
      | 0, _ => simp [dsum]
      | 1, _ => simp [dsum, gOf]; omega
      | 2, _ => simp [dsum, gOf]; omega
      | 3, _ => simp [dsum, gOf]; omega
      | 4, _ => simp [dsum, gOf]; omega
    · simp [dsum, gOf]
  have HD := Lib.hid D1
  clear h D1
  go_enter Try.func109, Try.ntmps109
  go_wp2_with fail
  rw [← hw1]
  clear hw1
  refine (degreeOfWord_is HD.out).mono ?_
  rintro e w2 ⟨rfl, rfl⟩
  have f0 := S1.out.fr 0
  have e0 := S1.out.c0
  obtain ⟨s, hsx⟩ : ∃ s : Int, s = ((a + b + c + f : Nat) : Int) := ⟨_, rfl⟩
  rw [← hsx]
  have S2 := Lib.hid (S1.out.set0 s)
  have M2 := Lib.hid (M1.out.other ⟨g, 0, none⟩ (.int .i64 s) hne)
  have G2 := Lib.hid (gb_set G1.out HL.out 0 (.int .i64 s))
  have HS := Lib.hid hsx
  clear S1 M1 G1 HD hsx
  go_upto_region 2 with fail
  generalize (w1.setCell ⟨g, 0, none⟩ (.int .i64 s)) = w2 at *
  clear f0 e0
  have c0 := M2.out.cell 0 (by simp)
  have c1 := M2.out.cell 1 (by simp)
  have c2 := M2.out.cell 2 (by simp)
  simp only [List.getElem?_cons_zero, List.getElem?_cons_succ, Option.getD_some] at c0 c1 c2
  have a41 : (a : Int) < 41 := by omega
  have b41 : (b : Int) < 41 := by omega
  have c41 : (c : Int) < 41 := by omega
  have a0 : (0 : Int) ≤ (a : Int) := by omega
  have b0 : (0 : Int) ≤ (b : Int) := by omega
  have cc0 : (0 : Int) ≤ (c : Int) := by omega
  go_quiet (fail)
  go_upto_region 3 with fail
  have hix : ixM a b c < 68921 := by unfold ixM; omega
  have ho : 1 + a * 1681 + b * 41 + c = 1 + ixM a b c := by unfold ixM; omega
  have d1 := (S2.out.drewN nq).ci (ixM a b c) hix
  have f1 := (S2.out.drewN nq).fr (1 + ixM a b c)
  have S3 := Lib.hid ((S2.out.drewN nq).seti (ixM a b c) hix)
  have G3 := Lib.hid (gb_set (gb_drew G2.out nq) HL.out (1 + ixM a b c) (.bool (!oddN N (ixM a b c))))
  rw [ho]
  clear S2 M2 G2 c0 c1 c2 ho
  generalize 1 + ixM a b c = o at *
  generalize oddN N (ixM a b c) = x at *
  go_wp2_with fail
  go_end0
  exact ⟨rfl, by rw [← HS.out]; exact S3.out, G3.out⟩
end Go.Proofs.Ytggebkcmokpcmaa
end
