/-
  Joined: YSqI.
-/
import Derived.Test.YtggebkcmokpcmaaZBHit22
import Derived.Test.YtggebkcmokpcmaaZBHit25
section
namespace Go.Proofs.Ytggebkcmokpcmaa
open Go.RowKit Go.Maps
set_option linter.unusedVariables false
set_option maxRecDepth 100000

/-- What adding monomials leaves. -/
def AddsT (g D : Nat) (T : List (List Int)) (w : World) (e : Ending) (w' : World) : Prop := e = .returned (.tuple #[]) ∧ SumT w' g D T ∧ w.grownBy w' (some g)
/-- What the calls for a shorter rest leave. -/
def SqIH (g D : Nat) (r : List Int) : Prop := ∀ (pre : List Int) (i d : Nat) (T : List (List Int)) (w : World), Mono4 d (pre ++ r) → d + i = D → SumT w g D T →
  Calls Try.prog 99 #[.pointer (some ⟨g, 0, none⟩), .agg (pwK (pre ++ r)), .int .i64 (pre.length : Int), .int .i64 (i : Int)] w (AddsT g D (T ++ (sqL r i).map (pre ++ ·)) w)

theorem mono4_put {d : Nat} (N j : Nat) : ∀ (pre r : List Int), Mono4 d (pre ++ (N : Int) :: r) → Mono4 (d + j) ((pre ++ [(N : Int) + (j : Int)]) ++ r)
  | [], r, ⟨a, b, c, f, e, s⟩ => by
    simp only [List.nil_append, List.cons.injEq] at e
    obtain ⟨e1, rfl⟩ := e
    exact ⟨a + j, b, c, f, by simp; omega, by omega⟩
  | [x], r, ⟨a, b, c, f, e, s⟩ => by
    simp only [List.cons_append, List.nil_append, List.cons.injEq] at e
    obtain ⟨rfl, e1, rfl⟩ := e
    exact ⟨a, b + j, c, f, by simp; omega, by omega⟩
  | [x, y], r, ⟨a, b, c, f, e, s⟩ => by
    simp only [List.cons_append, List.nil_append, List.cons.injEq] at e
    obtain ⟨rfl, rfl, e1, rfl⟩ := e
    exact ⟨a, b, c + j, f, by simp; omega, by omega⟩
  | [x, y, z], r, ⟨a, b, c, f, e, s⟩ => by
    simp only [List.cons_append, List.nil_append, List.cons.injEq] at e
    obtain ⟨rfl, rfl, rfl, e1, rfl⟩ := e
    exact ⟨a, b, c, f + j, by simp; omega, by omega⟩
  | x :: y :: z :: t :: u, r, ⟨a, b, c, f, e, s⟩ => by
    have := congrArg List.length e
    simp at this
theorem mono4_at {d N : Nat} {pre r : List Int} (h : Mono4 d (pre ++ (N : Int) :: r)) : N ≤ d ∧ pre.length < 4 := by
  have h1 := h.len
  rw [List.length_append, List.length_cons] at h1
  refine ⟨?_, by omega⟩
  have h2 : (N : Int) ∈ pre ++ (N : Int) :: r := by simp
  obtain ⟨a, b, c, f, e, s⟩ := h
  rw [e] at h2
  simp at h2
  rcases h2 with h2 | h2 | h2 | h2 <;> omega

set_option maxHeartbeats 1000000 in
theorem addSq_end (g D d i : Nat) (pre : List Int) (T : List (List Int)) (w : World) (hm : Mono4 d pre) (hd : d + i = D) (hD : D ≤ 40) (h : SumT w g D T) :
    Calls Try.prog 99 #[.pointer (some ⟨g, 0, none⟩), .agg (pwK pre), .int .i64 (pre.length : Int), .int .i64 (i : Int)] w (AddsT g D (T ++ (sqL [] i).map (pre ++ ·)) w) := by
  rw [hm.len]
  obtain ⟨w1, hw1⟩ : ∃ w1, w1 = w.alloc (.cells (pwK pre) 71) := ⟨_, rfl⟩
  have R1 : Hid (w1.rangeAt w.heap.size 0 (pwK pre).toList) := Lib.hid (by rw [hw1]; exact (PwAt.new w pre).range)
  have SZ : Hid ((pwK pre).size = 4) := Lib.hid (by rw [pwK_size, hm.len])
  have S1 : Hid (SumT w1 g D T) := Lib.hid (by rw [hw1]; exact h.alloc _)
  have G1 : Hid (w.grownBy w1 (some g)) := Lib.hid (by rw [hw1]; exact gb_alloc _ _ _)
  by_cases h0 : i = 0
  · subst h0
    have e1 : (sqL [] 0).map (pre ++ ·) = [pre] := by simp [sqL]
    rw [e1]
    have AD := Lib.hid (addT_any g D T pre w1 S1.out (by rw [← hd]; exact hm) hD)
    clear h hm hd
    go_enter Try.func99, Try.ntmps99
    go_upto_region 1 with fail
    rw [← hw1]
    clear hw1
    go_wp2_with (refine ldKY rfl _ rfl w.heap.size 0 rfl (pwK pre) R1.out SZ.out ?_)
    refine AD.out.mono ?_
    rintro e w4 ⟨rfl, hs, hg⟩
    have HS := Lib.hid hs
    have HG := Lib.hid (G1.out.trans hg)
    clear hs hg
    go_wp2_with fail
    go_end0
    exact ⟨rfl, HS.out, HG.out⟩
  · have e1 : (sqL [] i).map (pre ++ ·) = [] := by rw [sqL, if_neg h0]; rfl
    rw [e1, List.append_nil]
    have hz : ((i : Int) == 0) = false := by rw [beq_eq_false_iff_ne]; omega
    clear h hm hd
    go_enter Try.func99, Try.ntmps99
    go_upto_region 1 with fail
    rw [← hw1]
    clear hw1
    go_wp2_with fail
    go_end0
    exact ⟨rfl, S1.out, G1.out⟩

/-- What the loop of addSquare keeps. -/
structure SqJ (w0 : World) (g D : Nat) (pre r : List Int) (T : List (List Int)) (w : World) : Prop where
  gb : w0.grownBy w (some g)
  sum : SumT w g D T
  mon : ∃ x : Int, PwAt w w0.heap.size ((pre ++ [x]) ++ r)
  ne : w0.heap.size ≠ g
theorem gb_newset {w w' : World} {q : Option Nat} (h : w.grownBy w' q) {b : Nat} (hb : w.heap.size ≤ b) (j : Nat) (v : Value) : w.grownBy (w'.setCell ⟨b, j, none⟩ v) q :=
  ⟨h.os, h.tape, h.output, by have := h.size; simp; exact this, fun k hk hne => (heap_setCell_other w' ⟨b, j, none⟩ k v (by show k ≠ b; omega)).trans (h.block k hk hne)⟩
theorem SumT.other {w : World} {g D : Nat} {T : List (List Int)} (h : SumT w g D T) {b : Nat} (hb : b ≠ g) (j : Nat) (v : Value) : SumT (w.setCell ⟨b, j, none⟩ v) g D T :=
  ⟨h.ok, (heap_setCell_other w ⟨b, j, none⟩ g v (by show g ≠ b; exact fun e => hb e.symm)).trans h.at_⟩
theorem SqJ.step {w0 w w4 : World} {g D : Nat} {pre r : List Int} {T T' : List (List Int)} (k : SqJ w0 g D pre r T w) (x : Int) (hs : SumT w4 g D T') (hg : (w.setCell ⟨w0.heap.size, pre.length, none⟩ (.int .i64 x)).grownBy w4 (some g)) : SqJ w0 g D pre r T' w4 := by
  obtain ⟨y, hy⟩ := k.mon
  have h1 := hy.set pre.length x
  have e : ((pre ++ [y]) ++ r).set pre.length x = (pre ++ [x]) ++ r := by simp
  rw [e] at h1
  exact ⟨(gb_newset k.gb (Nat.le_refl _) _ _).trans hg, hs, ⟨x, (hg.block _ h1.lt (by simpa using k.ne)).trans h1⟩, k.ne⟩

set_option maxHeartbeats 4000000 in
theorem addSq_step (g D N : Nat) (r pre : List Int) (i d : Nat) (T : List (List Int)) (w : World) (hm : Mono4 d (pre ++ (N : Int) :: r)) (hd : d + i = D) (hD : D ≤ 40) (h : SumT w g D T) (ih : SqIH g D r) :
    Calls Try.prog 99 #[.pointer (some ⟨g, 0, none⟩), .agg (pwK (pre ++ (N : Int) :: r)), .int .i64 (pre.length : Int), .int .i64 (i : Int)] w (AddsT g D (T ++ (sqL ((N : Int) :: r) i).map (pre ++ ·)) w) := by
  have IH := Lib.hid ih
  have MP := Lib.hid (fun j => mono4_put N j pre r hm)
  obtain ⟨hNd, hp4⟩ := mono4_at hm
  have hml := hm.len
  have eN : pre ++ (N : Int) :: r = (pre ++ [(N : Int)]) ++ r := by simp
  have NX : Hid (∀ j, T ++ (sqTo (N : Int) r i (j + 1)).map (pre ++ ·) = (T ++ (sqTo (N : Int) r i j).map (pre ++ ·)) ++ (if bpar N j = 1 then (sqL r (i - j)).map ((pre ++ [(N : Int) + (j : Int)]) ++ ·) else [])) := Lib.hid (fun j => by
    rw [sqTo_succ, List.map_append, List.append_assoc]
    congr 2
    rw [show ((N : Int)).toNat = N from rfl]
    split
    · simp
    · rfl)
  have END : Hid (sqL ((N : Int) :: r) i = sqTo (N : Int) r i (min N i + 1)) := Lib.hid (by rw [sqL_cons]; rfl)
  rw [END.out]
  obtain ⟨K, hK⟩ : ∃ K, min N i = K := ⟨_, rfl⟩
  rw [hK]
  have hK1 : K ≤ N := by omega
  have hK2 : K ≤ i := by omega
  have wf1 : wrap64 ((i : Int) + 1) = (i : Int) + 1 := wrap_sm (by omega) (by omega)
  have wf2 : wrap64 ((N : Int) + 1) = (N : Int) + 1 := wrap_sm (by omega) (by omega)
  obtain ⟨w1, hw1⟩ : ∃ w1, w1 = w.alloc (.cells (pwK (pre ++ (N : Int) :: r)) 71) := ⟨_, rfl⟩
  have I1 : Hid (SqJ w g D pre r (T ++ (sqTo (N : Int) r i 0).map (pre ++ ·)) w1) := Lib.hid (by
    rw [hw1]
    refine ⟨gb_alloc _ _ _, ?_, ⟨(N : Int), ?_⟩, by have := h.lt; omega⟩
    · have e0 : (sqTo (N : Int) r i 0).map (pre ++ ·) = [] := rfl
      rw [e0, List.append_nil]
      exact h.alloc _
    · rw [← eN]; exact PwAt.new w _)
  have c0 : w1.cell? ⟨w.heap.size, pre.length, none⟩ = some (.int .i64 N) := by
    rw [hw1]
    have := (PwAt.new w (pre ++ (N : Int) :: r)).cell pre.length (by rw [hml]; omega)
    rw [this]
    simp
  obtain ⟨Z, hZ⟩ : ∃ Z : Nat → List (List Int), ∀ j, T ++ (sqTo (N : Int) r i j).map (pre ++ ·) = Z j := ⟨fun j => _, fun j => rfl⟩
  simp only [hZ] at *
  have PP : Hid (∀ x : Int, ((pre ++ [x]).length : Int) = (pre.length : Int) + 1) := Lib.hid (fun x => by simp)
  have ST : Hid (∀ (w wr w4 : World) (x : Int) (Z Z' : List (List Int)), SqJ w g D pre r Z wr → SumT w4 g D Z' → (wr.setCell ⟨w.heap.size, pre.length, none⟩ (.int .i64 x)).grownBy w4 (some g) → SqJ w g D pre r Z' w4) := Lib.hid (fun w wr w4 x Z Z' k a b => k.step x a b)
  have MO : Hid (∀ (w wr : World) (Z : List (List Int)) (x : Int), SqJ w g D pre r Z wr → PwAt (wr.setCell ⟨w.heap.size, pre.length, none⟩ (.int .i64 x)) w.heap.size ((pre ++ [x]) ++ r)) := Lib.hid (fun w wr Z x k => by
    obtain ⟨y, hy⟩ := k.mon
    have h1 := hy.set pre.length x
    rwa [show ((pre ++ [y]) ++ r).set pre.length x = (pre ++ [x]) ++ r by simp] at h1)
  have LL : Hid (∀ x : Int, (pwK ((pre ++ [x]) ++ r)).size = 4) := Lib.hid (fun x => by rw [pwK_size, ← hml, eN]; simp)
  have hne4 : ((pre.length : Int) == 4) = false := by rw [beq_eq_false_iff_ne]; omega
  have hp4' : (pre.length : Int) < 4 := by omega
  have hp0' : (0 : Int) ≤ (pre.length : Int) := by omega
  have FR : Hid (∀ (w wr : World) (Z : List (List Int)), SqJ w g D pre r Z wr → ∃ y, wr.cell? ⟨w.heap.size, pre.length, none⟩ = some (.int .i64 y) ∧ wr.frozen? ⟨w.heap.size, pre.length, none⟩ = false) := Lib.hid (fun w wr Z k => by
    obtain ⟨y, hy⟩ := k.mon
    have := hy.cell pre.length (by simp)
    exact ⟨_, this, hy.fr _⟩)
  generalize pre.length = p at *
  clear hm h ih hZ eN hml
  have HC : i < N ∨ ¬ i < N := by omega
  rcases HC with hc | hc
  all_goals
    go_enter Try.func99, Try.ntmps99
    go_upto_region 1 with fail
    rw [← hw1]
    clear hw1
    go_wp2_with fail
    first
      | rw [show (i : Int) + 1 = (K : Int) + 1 by omega]
      | rw [show (N : Int) + 1 = (K : Int) + 1 by omega]
    clear hc wf1 wf2 hK c0
    go_loopw [9, 10, 11, 26] (fun _ _ _ c wr => ∃ j : Nat, j ≤ K + 1 ∧ c = .int .i64 j ∧ Hid (SqJ w g D pre r (Z j) wr)) (fun _ _ _ c _ => 60 - (intOf c).toNat)
    case atStart => exact ⟨0, by omega, rfl, I1⟩
    case round =>
      clear I1
      obtain ⟨j, hj, rfl, hI⟩ := hrel
      by_cases hgo : j < K + 1
      · have hgo' : (j : Int) < (K : Int) + 1 := by omega
        have PA := Lib.hid (fun wx => implBinomial_in N j wx (by omega) (by omega))
        have NXJ := Lib.hid (NX.out j)
        have wj : wrap64 ((j : Int) + 1) = (j : Int) + 1 := wrap_sm (by omega) (by omega)
        rcases bpar_two N j with h2 | h2
        · rw [h2, if_neg (by decide), List.append_nil] at NXJ
          rw [h2] at PA
          have I9 : Hid (SqJ w g D pre r (Z (j + 1)) wr) := Lib.hid (by rw [NXJ.out]; exact hI.out)
          clear hI h2
          go_wp2_with fail
          refine (PA.out _).mono ?_
          rintro e w2 ⟨rfl, rfl⟩
          go_wp2_with fail
          go_roundw
          case rel => exact ⟨j + 1, by omega, by go_num, I9⟩
          case measure => simp [intOf]; omega
        · rw [h2, if_pos rfl] at NXJ
          rw [h2] at PA
          obtain ⟨y, cy, fy⟩ := FR.out w wr _ hI.out
          obtain ⟨x, hx⟩ : ∃ x : Int, (N : Int) + (j : Int) = x := ⟨_, rfl⟩
          obtain ⟨q, hq⟩ : ∃ q : Nat, i - j = q := ⟨_, rfl⟩
          obtain ⟨p1, hp1⟩ : ∃ p1 : Int, (p : Int) + 1 = p1 := ⟨_, rfl⟩
          have MPj := Lib.hid (MP.out j)
          rw [hx] at MPj
          rw [hx, hq] at NXJ
          have PPx := Lib.hid (PP.out x)
          rw [hp1] at PPx
          have MJ := Lib.hid (MO.out w wr _ x hI.out)
          have RJ := Lib.hid MJ.out.range
          have SJ := Lib.hid (LL.out x)
          have CA := Lib.hid (IH.out (pre ++ [x]) q (d + j) _ (wr.setCell ⟨w.heap.size, p, none⟩ (.int .i64 x)) MPj.out (by omega) (hI.out.sum.other hI.out.ne _ _))
          rw [PPx.out, ← NXJ.out] at CA
          obtain ⟨m2, hm2⟩ : ∃ m2, (pre ++ [x]) ++ r = m2 := ⟨_, rfl⟩
          rw [hm2] at CA SJ RJ
          have HX := Lib.hid hx
          have HQ : Hid ((i : Int) - (j : Int) = (q : Int)) := Lib.hid (by omega)
          have HP := Lib.hid hp1
          clear h2 hx hq hp1 hm2
          go_wp2_with fail
          refine (PA.out _).mono ?_
          rintro e w2 ⟨rfl, rfl⟩
          go_upto_region 11 with fail
          rw [HX.out]
          go_wp2_with (refine ldKY rfl _ rfl w.heap.size 0 rfl (pwK m2) RJ.out SJ.out ?_)
          rw [HQ.out, HP.out]
          refine CA.out.mono ?_
          rintro e w4 ⟨rfl, hs, hg⟩
          have I9 := Lib.hid (ST.out w wr w4 _ _ _ hI.out hs hg)
          clear hs hg hI cy fy
          go_wp2_with fail
          go_roundw
          case rel => exact ⟨j + 1, by omega, by go_num, I9⟩
          case measure => simp [intOf]; omega
      · have hgo' : ¬ (j : Int) < (K : Int) + 1 := by omega
        have JK : j = K + 1 := by omega
        have I9 : Hid (SqJ w g D pre r (Z (K + 1)) wr) := Lib.hid (by rw [← JK]; exact hI.out)
        clear JK hI
        go_wp2_with fail
        go_end0
        exact ⟨rfl, I9.out.sum, I9.out.gb⟩

theorem addSquare_any (g D : Nat) (hD : D ≤ 40) : ∀ (r : List Int), (∀ z ∈ r, 0 ≤ z) → SqIH g D r
  | [], _ => fun pre i d T w hm hd h => by
    rw [List.append_nil] at hm ⊢
    exact addSq_end g D d i pre T w hm hd hD h
  | n :: r, hr => fun pre i d T w hm hd h => by
    have h1 := hr n List.mem_cons_self
    obtain ⟨N, rfl⟩ : ∃ N : Nat, n = N := ⟨n.toNat, by omega⟩
    exact addSq_step g D N r pre i d T w hm hd hD h (addSquare_any g D hD r fun z hz => hr z (List.mem_cons_of_mem _ hz))
end Go.Proofs.Ytggebkcmokpcmaa
end
