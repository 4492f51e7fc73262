/-
  Joined: YPair.
-/
import Derived.Test.YtnfhfilconcajaaZtTotalSquare20
import Derived.Test.YtnfhfilconcajaaZtTotalSquare23
section
namespace Go.Proofs.Ytnfhfilconcajaa.Pl
open Go.RowKit
set_option linter.unusedVariables false
set_option maxRecDepth 100000

/-- The code of two polynomials. -/
def bothC (r0 r1 : Bool) (k0 k1 : Int) : Int := if r0 && r1 then (if k0 = k1 then 0 else 2) else 1
theorem l08Both_r (r0 r1 : Bool) (k0 k1 : Int) (m n : Nat) (X Y : Nat → List Int) (a0 a1 : Option Addr) (q0 q1 : Nat) (w : World) (ha : RdSS w (.slice a0 m q0) m X) (hb : RdSS w (.slice a1 n q1) n Y)
    (A0 : ∀ V w, RdSS w V m X → Calls Try.prog 49 #[.agg #[.int .i64 k0, V]] w (SaysB r0 w)) (A1 : ∀ V w, RdSS w V n Y → Calls Try.prog 49 #[.agg #[.int .i64 k1, V]] w (SaysB r1 w)) :
    Calls Try.prog 55 #[.agg #[.int .i64 k0, .slice a0 m q0], .agg #[.int .i64 k1, .slice a1 n q1]] w fun e w' => e = .returned (.int .i64 (bothC r0 r1 k0 k1)) ∧ Below w.heap.size w w' := by
  have t2 := Try.underlying27
  obtain ⟨w1, hw1⟩ : ∃ w1, w1 = ((w.alloc (.cells #[.int .i64 k0, .slice a0 m q0] 27)).alloc (.cells #[.int .i64 k1, .slice a1 n q1] 27)) := ⟨_, rfl⟩
  have B1 : Hid (Below w.heap.size w w1) := Lib.hid (by rw [hw1]; exact ((Below.refl _ w).alloc (Nat.le_refl _) _).alloc (by simp) _)
  have XA : Hid (Box w1 w.heap.size 27 (.int .i64 k0) (.slice a0 m q0)) := Lib.hid (by rw [hw1]; exact (Box.new _ _ _ _).alloc _)
  have XB : Hid (Box w1 (w.heap.size + 1) 27 (.int .i64 k1) (.slice a1 n q1)) := Lib.hid (by rw [hw1]; have := Box.new (w.alloc (.cells #[.int .i64 k0, .slice a0 m q0] 27)) 27 (.int .i64 k1) (.slice a1 n q1); rw [World.size_alloc] at this; exact this)
  have S0 := Lib.hid (A0 _ w1 (ha.below B1.out))
  have S1 : Hid (∀ wx, Below w.heap.size w wx → Calls Try.prog 49 #[.agg #[.int .i64 k1, .slice a1 n q1]] wx (SaysB r1 wx)) := Lib.hid (fun wx hx => A1 _ wx (hb.below hx))
  clear ha hb A0 A1
  cases r0 with
  | false =>
    have E : Hid (bothC false r1 k0 k1 = 1) := Lib.hid rfl
    rw [E.out]
    go_enter Try.func55, Try.ntmps55
    go_wp2_with fail
    rw [← hw1]
    clear hw1
    refine S0.out.mono ?_
    rintro e w2 ⟨rfl, b2⟩
    have B2 := Lib.hid (B1.out.step1 b2)
    clear b2
    go_wp2_with fail
    go_ret
    exact ⟨rfl, B2.out⟩
  | true =>
    cases r1 with
    | false =>
      have E : Hid (bothC true false k0 k1 = 1) := Lib.hid rfl
      rw [E.out]
      go_enter Try.func55, Try.ntmps55
      go_wp2_with fail
      rw [← hw1]
      clear hw1
      refine S0.out.mono ?_
      rintro e w2 ⟨rfl, b2⟩
      have B2 := Lib.hid (B1.out.step1 b2)
      have d0 := (XB.out.up b2).c0
      have d1 := (XB.out.up b2).c1
      clear b2
      go_wp2_with fail
      refine (S1.out w2 B2.out).mono ?_
      rintro e w3 ⟨rfl, b3⟩
      have B3 := Lib.hid (B2.out.step1 b3)
      clear b3 d0 d1
      go_wp2_with fail
      go_ret
      exact ⟨rfl, B3.out⟩
    | true =>
      by_cases hk : k0 = k1
      · have E : Hid (bothC true true k0 k1 = 0) := Lib.hid (by unfold bothC; simp [hk])
        have hkb : (k0 != k1) = false := by rw [hk]; exact bne_self_eq_false _
        rw [E.out]
        clear hk
        go_enter Try.func55, Try.ntmps55
        go_wp2_with fail
        rw [← hw1]
        clear hw1
        refine S0.out.mono ?_
        rintro e w2 ⟨rfl, b2⟩
        have B2 := Lib.hid (B1.out.step1 b2)
        have XA2 := Lib.hid (XA.out.up b2)
        have XB2 := Lib.hid (XB.out.up b2)
        have d0 := XB2.out.c0
        have d1 := XB2.out.c1
        clear b2
        go_wp2_with fail
        refine (S1.out w2 B2.out).mono ?_
        rintro e w3 ⟨rfl, b3⟩
        have B3 := Lib.hid (B2.out.step1 b3)
        have d2 := (XB2.out.up b3).c0
        have d3 := (XA2.out.up b3).c0
        clear b3 d0 d1
        go_wp2_with fail
        go_ret
        exact ⟨rfl, B3.out⟩
      · have E : Hid (bothC true true k0 k1 = 2) := Lib.hid (by unfold bothC; simp [hk])
        have hkb : (k0 != k1) = true := by rw [bne_iff_ne]; exact hk
        rw [E.out]
        clear hk
        go_enter Try.func55, Try.ntmps55
        go_wp2_with fail
        rw [← hw1]
        clear hw1
        refine S0.out.mono ?_
        rintro e w2 ⟨rfl, b2⟩
        have B2 := Lib.hid (B1.out.step1 b2)
        have XA2 := Lib.hid (XA.out.up b2)
        have XB2 := Lib.hid (XB.out.up b2)
        have d0 := XB2.out.c0
        have d1 := XB2.out.c1
        clear b2
        go_wp2_with fail
        refine (S1.out w2 B2.out).mono ?_
        rintro e w3 ⟨rfl, b3⟩
        have B3 := Lib.hid (B2.out.step1 b3)
        have d2 := (XB2.out.up b3).c0
        have d3 := (XA2.out.up b3).c0
        clear b3 d0 d1
        go_wp2_with fail
        go_ret
        exact ⟨rfl, B3.out⟩

/-- A polynomial, or the code of too many terms. -/
def fitL (L : List (List Int)) : List (List Int) := if L.length ≤ 2000 then L else []
def fitC (k : Int) (L : List (List Int)) : Int := if L.length ≤ 2000 then k else 0
def fitD (L : List (List Int)) : Int := if L.length ≤ 2000 then 0 else 3
/-- What fitting answers. -/
def FitRes (B : Nat) (k : Int) (L : List (List Int)) (w : World) (e : Ending) (w' : World) : Prop :=
  ∃ V' VS', e = .returned (.tuple #[.agg #[.int .i64 (fitC k L), V'], .int .i64 (fitD L)]) ∧ FamL w' B V' VS' (fitL L) ∧ Sep (fitL L).length VS' ∧ Below w.heap.size w w'
theorem l08Fit_any (k : Int) (V : Value) (VS : Nat → Value) (L : List (List Int)) (B : Nat) (w : World) (h : FamL w B V VS L) (hs : Sep L.length VS) :
    Calls Try.prog 57 #[.int .i64 k, V] w (FitRes B k L w) := by
  have t2 := Try.underlying27
  obtain ⟨a, cap, rfl, _⟩ := Fam.head h
  have X1 : Hid (Box (w.alloc (.cells #[.int .i64 0, .slice none 0 0] 27)) w.heap.size 27 (.int .i64 0) (.slice none 0 0)) := Lib.hid (Box.new _ _ _ _)
  have B1 : Hid (Below w.heap.size w (w.alloc (.cells #[.int .i64 0, .slice none 0 0] 27))) := Lib.hid ((Below.refl _ w).alloc (Nat.le_refl _) _)
  have HF := Lib.hid h
  have HS := Lib.hid hs
  clear h hs
  by_cases hl : L.length ≤ 2000
  · have E1 : fitL L = L := if_pos hl
    have E2 : fitC k L = k := if_pos hl
    have E3 : fitD L = 0 := if_pos hl
    have E : FitRes B k L w = fun e w' => ∃ V' VS', e = .returned (.tuple #[.agg #[.int .i64 k, V'], .int .i64 0]) ∧ FamL w' B V' VS' L ∧ Sep L.length VS' ∧ Below w.heap.size w w' := by funext e w'; unfold FitRes; rw [E1, E2, E3]
    have HE := Lib.hid E
    have hl' : ¬ (2000 : Int) < (L.length : Int) := by omega
    have X2 : Hid (Box (w.alloc (.cells #[.int .i64 k, .slice a L.length cap] 27)) w.heap.size 27 (.int .i64 k) (.slice a L.length cap)) := Lib.hid (Box.new _ _ _ _)
    have B2 : Hid (Below w.heap.size w (w.alloc (.cells #[.int .i64 k, .slice a L.length cap] 27))) := Lib.hid ((Below.refl _ w).alloc (Nat.le_refl _) _)
    clear E1 E2 E3 E
    go_enter Try.func57, Try.ntmps57
    go_wp2_with fail
    refine bodyPost_ret (results_box2_tmp rfl _ _ w.heap.size _ _ _ rfl X2.out t2 (by kernel_rfl)) rfl ?_
    rw [HE.out]
    exact ⟨_, VS, rfl, HF.out.below ((Below.refl _ w).alloc (Nat.le_refl _) _), HS.out, B2.out⟩
  · have E1 : fitL L = [] := if_neg hl
    have E2 : fitC k L = 0 := if_neg hl
    have E3 : fitD L = 3 := if_neg hl
    have E : FitRes B k L w = fun e w' => ∃ V' VS', e = .returned (.tuple #[.agg #[.int .i64 0, V'], .int .i64 3]) ∧ FamL w' B V' VS' [] ∧ Sep ([] : List (List Int)).length VS' ∧ Below w.heap.size w w' := by funext e w'; unfold FitRes; rw [E1, E2, E3]
    have HE := Lib.hid E
    have hl' : (2000 : Int) < (L.length : Int) := by omega
    clear E1 E2 E3 E
    go_enter Try.func57, Try.ntmps57
    go_wp2_with fail
    refine bodyPost_ret (results_box2_tmp rfl _ _ w.heap.size _ _ _ rfl X1.out t2 (by kernel_rfl)) rfl ?_
    rw [HE.out]
    exact ⟨_, fun _ => undef, rfl, famNil _ _, sepNil, B1.out⟩
end Go.Proofs.Ytnfhfilconcajaa.Pl
end
