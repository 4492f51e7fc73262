/-
  Joined: SFront, YSpecT, YSpecU, YDeg, YPair, YSqX, YSpMul.
-/
import Derived.Test.YtggebkcmokpcmaaZBHit18
import Derived.Test.YtggebkcmokpcmaaZBHit17
import Derived.Test.YtggebkcmokpcmaaZBHit19
import Derived.Test.YtggebkcmokpcmaaZBHit06
import Derived.Deep.RegionLaw
import Derived.Test.YtggebkcmokpcmaaZBHit14
import Derived.Test.YtggebkcmokpcmaaZBHit12
import Derived.Test.YtggebkcmokpcmaaZBHit13
import Derived.Test.YtggebkcmokpcmaaZBHit07
section
namespace Go.Proofs.Ytggebkcmokpcmaa
open Go.RowKit
set_option linter.unusedVariables false
set_option maxRecDepth 100000

/-- v reads as the list xs; where it has no address it is nil. -/
def RdN (w : World) (v : Value) (xs : List Int) : Prop := ∃ a cap, v = .slice a xs.length cap ∧ xs.length ≤ cap ∧ xs.length ≤ maxLen ∧ ((a = none ∧ cap = 0) ∨ ∃ b off, a = some ⟨b, off, none⟩ ∧ ∀ i, i < xs.length → w.cell? ⟨b, off + i, none⟩ = some (.int .i64 (xs[i]?.getD 0)))
theorem RdN.rd {w : World} {v : Value} {xs : List Int} (h : RdN w v xs) : RdL w v xs := by
  obtain ⟨a, cap, e, hc, hm, h⟩ := h
  refine ⟨a, cap, e, hm, ?_⟩
  rcases h with ⟨h1, h2⟩ | ⟨b, off, h1, h2⟩
  · exact .inl (by omega)
  · exact .inr ⟨b, off, h1, h2⟩
theorem RdN.below {w w' : World} {v : Value} {xs : List Int} (h : RdN w v xs) (k : Below w.heap.size w w') : RdN w' v xs := by
  obtain ⟨a, cap, e, hc, hm, h⟩ := h
  refine ⟨a, cap, e, hc, hm, ?_⟩
  rcases h with h1 | ⟨b, off, h1, h2⟩
  · exact .inl h1
  · exact .inr ⟨b, off, h1, fun i hi => (k.cell (p := ⟨b, off + i, none⟩) (World.block_lt_of_cell? w _ (h2 i hi))).trans (h2 i hi)⟩
theorem RdN.of_own {w : World} {B : Nat} {v : Value} {xs : List Int} (h : w.ownsRow B 2 1 v xs.length (xs.map (Value.int .i64))) : RdN w v xs := by
  rcases h.2 with ⟨rfl, h0⟩ | ⟨g, cap, cur, rfl, _, _, h1, h2, _⟩
  · exact ⟨none, 0, by rw [h0], by omega, by rw [h0]; exact Nat.zero_le _, .inl ⟨rfl, rfl⟩⟩
  · refine ⟨_, cap, rfl, h1, Nat.le_trans h1 h2, .inr ⟨g, 0, rfl, fun i hi => ?_⟩⟩
    rw [Nat.zero_add, h.cellAt i (by omega)]
    simp [hi]

theorem ints_src {w wx : World} {b off : Nat} {xs : List Int} (h : ∀ i, i < xs.length → w.cell? ⟨b, off + i, none⟩ = some (.int .i64 (xs[i]?.getD 0))) (k : Below w.heap.size w wx) : ∀ j u, (xs.map (Value.int .i64))[j]? = some u → wx.cell? ((⟨b, off, none⟩ : Addr).add j) = some u := by
  intro j u hu
  rw [Addr.add_mid]
  rw [List.getElem?_map] at hu
  cases hx : xs[j]? with
  | none => rw [hx] at hu; cases hu
  | some x =>
    rw [hx] at hu
    have hj : j < xs.length := (List.getElem?_eq_some_iff.1 hx).1
    have h1 := h j hj
    simp only [hx, Option.getD_some] at h1
    rw [← Option.some.inj hu]
    exact (k.cell (p := ⟨b, off + j, none⟩) (World.block_lt_of_cell? w _ h1)).trans h1

/-- append of rows of numbers, whatever the source -/
theorem wpList_ints {ops : Array Oper} {rest : List Oper} {o : Oper} {a : Act} {Q : Exit → Act → World → Prop} (w : World) (hgd : o.guard = none) (s x : Operand) (ho : o.op = .call { callee := .builtin .append, args := #[s, x], argTypes := #[42, 42] })
    (B n : Nat) (v : Value) (xs : List Value) (hs : a.eval s = v) (hown : w.ownsRow B 2 1 v n xs) (ap : Option Addr) (m c : Nat) (news : List Value) (hx : a.eval x = .slice ap m c)
    (hsrc : (ap = none ∧ m = 0 ∧ c = 0) ∨ ∃ ad, ap = some ad ∧ ∀ j u, news[j]? = some u → w.cell? (ad.add j) = some u) (hl : news.length = m) (h1 : ∀ u ∈ news, u.oneCell' = true) (hn : n + m ≤ 400000000000) (hB : B ≤ w.heap.size)
    (h : ∀ v' w', w'.ownsRow B 2 1 v' (n + m) (xs ++ news) → w.grownBy w' v.ownBlock → wpList Try.prog ops Q rest (a.put o.dst v') w') : wpList Try.prog ops Q (o :: rest) a w := by
  obtain ⟨i0, hi, hz0, hz1, hz2⟩ := info_parts Try.info2
  rcases hsrc with ⟨rfl, rfl, rfl⟩ | ⟨ad, rfl, hc⟩
  · have hnews : news = [] := List.eq_nil_of_length_eq_zero hl
    subst hnews
    exact wpList_append_own_none hgd s x 42 ho B 2 i0 1 Try.underlying42 hi v n xs hs hown hx (h v w (by simpa using hown) (World.grownBy.refl w _))
  · exact wpList_append_own w hgd s x 42 ho B 2 i0 (.int .i64 0) 1 8 Try.underlying42 hi hz0 hz1 hz2 rfl (by decide) v n xs hs hown ad m c news hx (by omega) hc h1 (by unfold maxLen; omega) (by omega) hB
      (fun v' w' h2 h3 _ => h v' w' h2 h3)

theorem RdN.src {w wx : World} {a : Option Addr} {cap : Nat} {xs : List Int} (h : RdN w (.slice a xs.length cap) xs) (k : Below w.heap.size w wx) :
    (a = none ∧ xs.length = 0 ∧ cap = 0) ∨ ∃ ad, a = some ad ∧ ∀ j u, (xs.map (Value.int .i64))[j]? = some u → wx.cell? (ad.add j) = some u := by
  obtain ⟨a', cap', e, hc, hm, h⟩ := h
  cases e
  rcases h with ⟨h1, h2⟩ | ⟨b, off, h1, h2⟩
  · exact .inl ⟨h1, by omega, h2⟩
  · exact .inr ⟨_, h1, ints_src h2 k⟩

theorem own_rdn (v : Value) (xs : List Int) (w : World) (h : RdN w v xs) (hl : xs.length ≤ 1000000) :
    Calls Try.prog 80 #[v] w fun e w' => ∃ u, e = .returned u ∧ w'.ownsRow w.heap.size 2 1 u xs.length (xs.map (Value.int .i64)) ∧ Below w.heap.size w w' := by
  obtain ⟨a, cap, rfl⟩ : ∃ a cap, v = .slice a xs.length cap := by obtain ⟨a, cap, e, _⟩ := h; exact ⟨a, cap, e⟩
  have B0 := Lib.hid ((Below.refl _ w).alloc (Nat.le_refl _) (.cells #[] 2))
  have SR := Lib.hid (h.src B0.out)
  have O0 : Hid ((w.alloc (.cells #[] 2)).ownsRow w.heap.size 2 1 (.slice (some ⟨w.heap.size, 0, none⟩) 0 0) 0 []) := Lib.hid (World.ownsRow_made w #[] 0 (Nat.le_refl _) (Nat.zero_le _) (by simp))
  clear h
  go_enter Try.func80, Try.ntmps80
  go_wp2_with (at_builtin; refine wpList_ints _ rfl _ _ rfl w.heap.size 0 (.slice (some ⟨w.heap.size, 0, none⟩) 0 0) [] rfl O0.out a xs.length cap (xs.map (Value.int .i64)) rfl SR.out (by simp) (ints_one xs) (by omega) B0.out.size ?_; intro v' w' ho hg; have HO := Lib.hid ho; have HB := Lib.hid (B0.out.grown hg B0.out.size (fun q hq => by cases hq; exact Nat.le_refl _)); clear ho hg)
  go_ret
  exact ⟨_, rfl, by simpa using HO.out, HB.out⟩

/-- A word with a square in front. -/
def front (i : Int) (xs : List Int) : List Int := if i = 0 then xs else i :: xs
end Go.Proofs.Ytggebkcmokpcmaa
end
section
namespace Go.Proofs.Ytggebkcmokpcmaa
open Go.RowKit
set_option linter.unusedVariables false
set_option maxRecDepth 100000

/-- What a call answers that makes a family: the lists L. -/
def LPostY (L : List (List Int)) (w : World) (e : Ending) (w' : World) : Prop := ∃ V VS, e = .returned V ∧ FamL w' w.heap.size V VS L ∧ Sep L.length VS ∧ Below w.heap.size w w'
/-- What a call answers that makes a row. -/
def RowResY (xs : List Int) (w : World) (e : Ending) (w' : World) : Prop := ∃ u, e = .returned u ∧ w'.ownsRow w.heap.size 2 1 u xs.length (xs.map (Value.int .i64)) ∧ Below w.heap.size w w'

theorem step_intsY {ops : Array Oper} {o : Oper} {a : Act} {w : World} {K : Act → World → Prop} {Q : Exit → Act → World → Prop} {E : Prop} (hgd : o.guard = none) (s x : Operand) (ho : o.op = .call { callee := .builtin .append, args := #[s, x], argTypes := #[42, 42] })
    (B n : Nat) (v : Value) (xs : List Value) (hs : a.eval s = v) (hown : w.ownsRow B 2 1 v n xs) (ad : Addr) (c : Nat) (x0 : Value) (hx : a.eval x = .slice (some ad) 1 c)
    (hc : ∀ j u, [x0][j]? = some u → w.cell? (ad.add j) = some u) (h1 : x0.oneCell' = true) (hn : n ≤ 400000000000) (hB : B ≤ w.heap.size)
    (h : ∀ v' w', w'.ownsRow B 2 1 v' (n + 1) (xs ++ [x0]) → w.grownBy w' v.ownBlock → K (a.put o.dst v') w') :
    if Region.wanted o (yielded ops a.tmps) = true then Oper.wp Try.prog o a w K Q else E := by
  have hw : Region.wanted o (yielded ops a.tmps) = true := by simp [Region.wanted, hgd]
  rw [if_pos hw]
  obtain ⟨i0, hi, hz0, hz1, hz2⟩ := info_parts Try.info2
  exact wp_append_own w s x 42 ho B 2 i0 (.int .i64 0) 1 8 Try.underlying42 hi hz0 hz1 hz2 rfl (by decide) v n xs hs hown ad 1 c [x0] hx (by simp) hc (fun u hu => by rw [List.mem_singleton.1 hu]; exact h1) (by unfold maxLen; omega) (by omega) hB
      (fun v' w' h2 h3 _ => h v' w' h2 h3)

/-- The first k of the sums. -/
def plusTo (r s : List Int) (k : Nat) : List Int := (List.range k).map fun i => r[i]?.getD 0 + s[i]?.getD 0
theorem plusTo_len (r s : List Int) (k : Nat) : (plusTo r s k).length = k := by simp [plusTo]
theorem plusTo_succ (r s : List Int) (k : Nat) : plusTo r s (k + 1) = plusTo r s k ++ [r[k]?.getD 0 + s[k]?.getD 0] := by simp [plusTo, List.range_succ]
def plusL (r s : List Int) : List Int := plusTo r s r.length

/-- Small numbers. -/
def SmL (l : List Int) : Prop := l.length ≤ 4 ∧ ∀ j : Nat, 0 ≤ l[j]?.getD 0 ∧ l[j]?.getD 0 ≤ 1000000

end Go.Proofs.Ytggebkcmokpcmaa
end
section
namespace Go.Proofs.Ytggebkcmokpcmaa
open Go.RowKit
set_option linter.unusedVariables false
set_option maxRecDepth 100000

theorem oddY_put (Z : List (List Int)) (x : List Int) : putL (oddY Z) x = oddY (Z ++ [x]) := by
  obtain ⟨h1, h2⟩ := putL_spec (oddY Z) x (oddY_spec Z).1
  refine oddY_eq h1 fun z => ?_
  rw [h2, par_snoc, (oddY_spec Z).2]
  constructor
  · rintro (⟨a, b⟩ | ⟨a, b⟩)
    · exact .inr ⟨fun e => b e.symm, a⟩
    · exact .inl ⟨b.symm, a⟩
  · rintro (⟨a, b⟩ | ⟨a, b⟩)
    · exact .inr ⟨b, a.symm⟩
    · exact .inl ⟨b, fun e => a e.symm⟩
theorem nodup_lenY {α : Type} [BEq α] [LawfulBEq α] : ∀ (xs ys : List α), xs.Nodup → (∀ x ∈ xs, x ∈ ys) → xs.length ≤ ys.length
  | [], _, _, _ => Nat.zero_le _
  | x :: xs, ys, hn, h => by
    obtain ⟨h1, h2⟩ := List.nodup_cons.1 hn
    have hx := h x List.mem_cons_self
    have := nodup_lenY xs (ys.erase x) h2 fun z hz => (List.mem_erase_of_ne (fun e => h1 (by rw [← e]; exact hz))).2 (h z (List.mem_cons_of_mem _ hz))
    rw [List.length_erase_of_mem hx] at this
    have hp := List.length_pos_of_mem hx
    rw [List.length_cons]
    omega
theorem oddY_le (Z : List (List Int)) : (oddY Z).length ≤ Z.length := nodup_lenY _ _ (oddY_spec Z).1.nodup fun x hx => oddY_mem hx

/-- All sums of one of A and one of B. -/
def sumsY (A B : List (List Int)) : List (List Int) := A.flatMap fun r => B.map (plusL r)
theorem sumsY_snoc (A B : List (List Int)) (r : List Int) : sumsY (A ++ [r]) B = sumsY A B ++ B.map (plusL r) := by simp [sumsY]
theorem sumsY_len (A B : List (List Int)) : (sumsY A B).length = A.length * B.length := by
  induction A with
  | nil => simp [sumsY]
  | cons x xs ih =>
    have e : sumsY (x :: xs) B = B.map (plusL x) ++ sumsY xs B := by simp [sumsY]
    rw [e, List.length_append, ih, List.length_map, List.length_cons, Nat.succ_mul]
    omega

structure TiY (w : World) (S : Value) (VS : Nat → Value) (Z : List (List Int)) (wr : World) : Prop where
  bel : Below w.heap.size w wr
  fam : FamL wr w.heap.size S VS (oddY Z)
  sep : Sep (oddY Z).length VS

end Go.Proofs.Ytggebkcmokpcmaa
end
section
namespace Go.Proofs.Ytggebkcmokpcmaa.Pl
open Go.RowKit
set_option linter.unusedVariables false
set_option maxRecDepth 100000

/-- A call that answers two numbers and leaves what there was. -/
def SaysN (x c : Int) (w : World) (e : Ending) (w' : World) : Prop := e = .returned (.tuple #[.int .i64 x, .int .i64 c]) ∧ Below w.heap.size w w'

/-- The first term of an element other than 0. -/
theorem headP {k : Int} {va : Value} {w : World} {m : Nat} {X : Nat → List Int} (hok : okPl k X m) (hm : 0 < m) (h : RdSS w va m X) :
    ∃ b o v cap, va = .slice (some ⟨b, o, none⟩) m cap ∧ w.cell? ⟨b, o, none⟩ = some v ∧ DegIs w v (sumL (X 0)) := by
  obtain ⟨_, _, VS, hc, hr⟩ := h
  obtain ⟨b, o, ⟨cap, e⟩, hc⟩ := hc.resolve_left (by omega)
  have := hc 0 hm
  rw [Nat.add_zero] at this
  exact ⟨b, o, VS 0, cap, e, this, degIs_exp (hr 0 hm) (by have := (hok.2.2 0 hm).1; have := hok.1.2; omega) (isX_iff.1 (hok.2.2 0 hm).2.1).1⟩

/-- The degree of terms, or 0. -/
theorem l08Degree_none (a : Option Addr) (cap : Nat) (w : World) :
    Calls Try.prog 69 #[.slice a 0 cap] w fun e w' => e = .returned (.int .i64 0) ∧ w' = w := by
  go_enter Try.func69, Try.ntmps69
  go_wp2
  go_ret
  exact ⟨rfl, rfl⟩
theorem l08Degree_some (b o m cap : Nat) (v : Value) (x : Int) (w : World) (hm : 0 < m) (hc : w.cell? ⟨b, o, none⟩ = some v) (D : Hid (DegIs w v x)) :
    Calls Try.prog 69 #[.slice (some ⟨b, o, none⟩) m cap] w fun e w' => e = .returned (.int .i64 x) ∧ ∃ q, w' = w.drewN q := by
  have hz : ((m : Int) == 0) = false := by rw [beq_eq_false_iff_ne]; omega
  have hp : (0 : Int) < (m : Int) := by omega
  clear hm
  go_enter Try.func69, Try.ntmps69
  go_wp2_with fail
  refine (l03Degree_is D 0).mono ?_
  rintro e w3 ⟨rfl, q, rfl⟩
  go_wp2_with fail
  go_ret
  exact ⟨rfl, q, rfl⟩

end Go.Proofs.Ytggebkcmokpcmaa.Pl
end
section
namespace Go.Proofs.Ytggebkcmokpcmaa.Pl
open Go.RowKit
set_option linter.unusedVariables false
set_option maxRecDepth 100000

/-- The code of two polynomials. -/
def bothC (r0 r1 : Bool) (k0 k1 : Int) : Int := if r0 && r1 then (if k0 = k1 then 0 else 2) else 1
/-- A polynomial, or the code of too many terms. -/
def fitL (L : List (List Int)) : List (List Int) := if L.length ≤ 2000 then L else []
def fitC (k : Int) (L : List (List Int)) : Int := if L.length ≤ 2000 then k else 0
def fitD (L : List (List Int)) : Int := if L.length ≤ 2000 then 0 else 3
/-- What fitting answers. -/
def FitRes (B : Nat) (k : Int) (L : List (List Int)) (w : World) (e : Ending) (w' : World) : Prop :=
  ∃ V' VS', e = .returned (.tuple #[.agg #[.int .i64 (fitC k L), V'], .int .i64 (fitD L)]) ∧ FamL w' B V' VS' (fitL L) ∧ Sep (fitL L).length VS' ∧ Below w.heap.size w w'
end Go.Proofs.Ytggebkcmokpcmaa.Pl
end
section
namespace Go.Proofs.Ytggebkcmokpcmaa.Pl
open Go.RowKit
set_option linter.unusedVariables false
set_option maxRecDepth 100000

/-- The two boxes of the call. -/
structure Bx2Q (w0 : World) (k0 : Int) (V0 : Value) (w : World) : Prop where
  bel : Below w0.heap.size w0 w
  boxA : Box w w0.heap.size 31 (.int .i64 k0) V0
  boxR : Box w (w0.heap.size + 1) 31 (.int .i64 0) (.slice none 0 0)
theorem Bx2Q.start (w : World) (k0 : Int) (V0 : Value) : Bx2Q w k0 V0 ((w.alloc (.cells #[.int .i64 k0, V0] 31)).alloc (.cells #[.int .i64 0, .slice none 0 0] 31)) := by
  refine ⟨((Below.refl w.heap.size w).alloc (Nat.le_refl _) _).alloc (by simp) _, (Box.new w _ _ _).alloc _, ?_⟩
  have := Box.new (w.alloc (.cells #[.int .i64 k0, V0] 31)) 31 (.int .i64 0) (.slice none 0 0)
  rw [World.size_alloc] at this; exact this
theorem Bx2Q.up {w0 w w' : World} {k0 : Int} {V0 : Value} (h : Bx2Q w0 k0 V0 w) (k : Below w.heap.size w w') : Bx2Q w0 k0 V0 w' := ⟨h.bel.step1 k, h.boxA.up k, h.boxR.up k⟩

/-- What ok asks of the degree. -/
def DegCaseQ (w : World) (a0 : Option Addr) (m : Nat) (i : Int) : Prop :=
  m = 0 ∨ (0 < m ∧ ∃ (b0 o0 : Nat) (v0 : Value) (x : Int), a0 = some ⟨b0, o0, none⟩ ∧ w.cell? ⟨b0, o0, none⟩ = some v0 ∧ DegIs w v0 x ∧ (0 ≤ x ∧ x ≤ 40) ∧ x + i ≤ 40)
/-- What is kept of the result that the region makes. -/
def MadeSq (w0 wS : World) (k : Int) (L : List (List Int)) (s7 s8 : Value) (wx : World) : Prop :=
  ∃ (g : Nat) (va : Option Addr) (vc : Nat) (VS : Nat → Value), s7 = .pointer (some ⟨g, 0, none⟩) ∧ s8 = .int .i64 (fitD L) ∧ Hid (OwnF w0 g (fitC k L) (.slice va (fitL L).length vc) (fitL L).length VS (rowsOf (fitL L)) wx) ∧ Hid (Below wS.heap.size wS wx)

end Go.Proofs.Ytggebkcmokpcmaa.Pl
end
section
namespace Go.Proofs.Ytggebkcmokpcmaa.Pl
open Go.RowKit
set_option linter.unusedVariables false
set_option maxRecDepth 100000

/-- The three boxes of the call. -/
structure Bx3M (w0 : World) (k0 : Int) (V0 : Value) (k1 : Int) (V1 : Value) (w : World) : Prop where
  bel : Below w0.heap.size w0 w
  boxA : Box w w0.heap.size 31 (.int .i64 k0) V0
  boxB : Box w (w0.heap.size + 1) 31 (.int .i64 k1) V1
  boxR : Box w (w0.heap.size + 1 + 1) 31 (.int .i64 0) (.slice none 0 0)
theorem Bx3M.start (w : World) (k0 : Int) (V0 : Value) (k1 : Int) (V1 : Value) : Bx3M w k0 V0 k1 V1 (((w.alloc (.cells #[.int .i64 k0, V0] 31)).alloc (.cells #[.int .i64 k1, V1] 31)).alloc (.cells #[.int .i64 0, .slice none 0 0] 31)) := by
  refine ⟨(((Below.refl w.heap.size w).alloc (Nat.le_refl _) _).alloc (by simp) _).alloc (by simp; omega) _, ((Box.new w _ _ _).alloc _).alloc _, ?_, ?_⟩
  · have := (Box.new (w.alloc (.cells #[.int .i64 k0, V0] 31)) 31 (.int .i64 k1) V1).alloc (.cells #[.int .i64 0, .slice none 0 0] 31)
    rw [World.size_alloc] at this; exact this
  · have := Box.new ((w.alloc (.cells #[.int .i64 k0, V0] 31)).alloc (.cells #[.int .i64 k1, V1] 31)) 31 (.int .i64 0) (.slice none 0 0)
    rw [World.size_alloc, World.size_alloc] at this; exact this
theorem Bx3M.up {w0 w w' : World} {k0 k1 : Int} {V0 V1 : Value} (h : Bx3M w0 k0 V0 k1 V1 w) (k : Below w.heap.size w w') : Bx3M w0 k0 V0 k1 V1 w' := ⟨h.bel.step1 k, h.boxA.up k, h.boxB.up k, h.boxR.up k⟩

/-- What ends the call without a polynomial. -/
theorem endMultiplyPolys {w w3 : World} {k0 k1 : Int} {V0 V1 : Value} (h : Bx3M w k0 V0 k1 V1 w3) (c : Int) : ResY 0 [] c w (.returned (.tuple #[.agg #[.int .i64 0, .slice none 0 0], .int .i64 c])) w3 :=
  ⟨_, fun _ => undef, rfl, famNil _ _, sepNil, h.bel⟩

/-- What ok asks of the degrees, told so that the walk can take it. -/
def DegCaseM (w : World) (a0 a1 : Option Addr) (m n : Nat) : Prop :=
  m = 0 ∨ (0 < m ∧ n = 0) ∨ (0 < m ∧ 0 < n ∧ ∃ (b0 o0 b1 o1 : Nat) (v0 v1 : Value) (x y : Int), a0 = some ⟨b0, o0, none⟩ ∧ a1 = some ⟨b1, o1, none⟩ ∧ w.cell? ⟨b0, o0, none⟩ = some v0 ∧ w.cell? ⟨b1, o1, none⟩ = some v1 ∧ DegIs w v0 x ∧ DegIs w v1 y ∧ (0 ≤ x ∧ x ≤ 40) ∧ (0 ≤ y ∧ y ≤ 40) ∧ x + y ≤ 40)

/-- What is kept of the result that the region makes. -/
def MadeMul (w0 wS : World) (k : Int) (L : List (List Int)) (s7 s8 : Value) (wx : World) : Prop :=
  ∃ (g : Nat) (va : Option Addr) (vc : Nat) (VS : Nat → Value), s7 = .pointer (some ⟨g, 0, none⟩) ∧ s8 = .int .i64 (fitD L) ∧ Hid (OwnF w0 g (fitC k L) (.slice va (fitL L).length vc) (fitL L).length VS (rowsOf (fitL L)) wx) ∧ Hid (Below wS.heap.size wS wx)

end Go.Proofs.Ytggebkcmokpcmaa.Pl
end
