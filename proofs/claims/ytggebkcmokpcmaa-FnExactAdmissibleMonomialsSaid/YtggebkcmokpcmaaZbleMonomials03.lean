/-
  Joined: HImE.
-/
import Derived.Test.YtggebkcmokpcmaaZbleMonomials02
import Derived.Test.YtggebkcmokpcmaaZBHit19
section
namespace Go.Proofs.Ytggebkcmokpcmaa
open Go.RowKit Go.Maps
set_option linter.unusedVariables false
set_option maxRecDepth 100000

def slenH : Value → Nat
  | .slice _ n _ => n
  | _ => 0
structure PlJ (w : World) (P Q S : Value) (A B Z : List (List Int)) (wr : World) : Prop where
  bel : Below w.heap.size w wr
  a : RdC w P A
  b : RdC w Q B
  row : OwnY wr w.heap.size S (Z.map pwK)
theorem PlJ.up {w wr w' : World} {P Q S : Value} {A B Z : List (List Int)} (h : PlJ w P Q S A B Z wr) (k : Below wr.heap.size wr w') : PlJ w P Q S A B Z w' := ⟨h.bel.step1 k, h.a, h.b, own_below h.row k⟩
theorem range4 {w : World} {b o : Nat} {x0 x1 x2 x3 : Int} (h : w.rangeAt b o (pwK [x0, x1, x2, x3]).toList) : w.cell? ⟨b, o, none⟩ = some (.int .i64 x0) ∧ w.cell? ⟨b, o + 1, none⟩ = some (.int .i64 x1) ∧ w.cell? ⟨b, o + 2, none⟩ = some (.int .i64 x2) ∧ w.cell? ⟨b, o + 3, none⟩ = some (.int .i64 x3) :=
  ⟨h 0 _ rfl, h 1 _ rfl, h 2 _ rfl, h 3 _ rfl⟩
theorem mrg_nilR (xs : List (List Int)) : mrg xs [] = xs := mrg_nil xs

set_option maxHeartbeats 4000000 in
theorem plus_any (v u : Value) (L M : List (List Int)) (w : World) (hv : RdC w v L) (hu : RdC w u M) (h4 : ∀ z ∈ L, z.length = 4) (k4 : ∀ z ∈ M, z.length = 4) (hl : L.length ≤ 1000) (hm : M.length ≤ 1000) :
    Calls Try.prog 84 #[v, u] w (MonsRes (mrg L M) w) := by
  have J0 : Hid (PlJ w v u (.slice none 0 0) L M [] w) := Lib.hid ⟨Below.refl _ _, hv, hu, World.ownsRow_nil _ _ _ _⟩
  have H4 := Lib.hid h4
  have K4 := Lib.hid k4
  have S0 : slenH v = L.length ∧ slenH u = M.length := by
    obtain ⟨_, _, _, rfl, _⟩ := hv
    obtain ⟨_, _, _, rfl, _⟩ := hu
    exact ⟨rfl, rfl⟩
  clear hv hu h4 k4 S0
  go_enter Try.func84, Try.ntmps84
  go_wp2_with fail
  go_loopw [0, 1, 5] (fun P Q S wr => ∃ (A B Z : List (List Int)), Hid (Z ++ mrg A B = mrg L M) ∧ Z.length + A.length + B.length ≤ 2000 ∧ Hid (∀ z ∈ A, z.length = 4) ∧ Hid (∀ z ∈ B, z.length = 4) ∧ Hid (∀ z ∈ Z, z.length = 4) ∧ Hid (PlJ w P Q S A B Z wr)) (fun P Q S _ => slenH P + slenH Q)
  case atStart => exact ⟨L, M, [], Lib.hid rfl, by simp; omega, H4, K4, Lib.hid (fun z hz => by simp at hz), J0⟩
  case round =>
    clear J0 H4 K4
    obtain ⟨A, B, Z, hE, hlen, hA, hB, hZ, hJ⟩ := hrel
    by_cases hex : A = [] ∨ B = []
    · have EF : Hid ([Z, A, B].flatten = mrg L M) := Lib.hid (by
        rw [← hE.out]
        rcases hex with rfl | rfl
        · rw [mrg]; simp
        · rw [mrg_nil]; simp)
      obtain ⟨pa, pc, eP⟩ := (SrcY.shape (Or.inr hJ.out.a))
      obtain ⟨qa, qc, eQ⟩ := (SrcY.shape (Or.inr hJ.out.b))
      subst eP
      subst eQ
      have SZ := SrcY.of_own hJ.out.row hZ.out
      obtain ⟨sa, sc, eS⟩ := SZ.shape
      subst eS
      have BA : Hid (Below wr.heap.size wr (wr.alloc (.cells #[.slice sa Z.length sc, .slice pa A.length pc, .slice qa B.length qc] 53))) := Lib.hid ((Below.refl _ _).alloc (Nat.le_refl _) _)
      have CC : Hid (Calls Try.prog 103 #[.slice (some ⟨wr.heap.size, 0, none⟩) 3 3] (wr.alloc (.cells #[.slice sa Z.length sc, .slice pa A.length pc, .slice qa B.length qc] 53)) (MonsRes (mrg L M) (wr.alloc (.cells #[.slice sa Z.length sc, .slice pa A.length pc, .slice qa B.length qc] 53)))) := Lib.hid (by
        have := concatY_any wr.heap.size [Z, A, B] (fun i => [Value.slice sa Z.length sc, .slice pa A.length pc, .slice qa B.length qc][i]?.getD undef) (wr.alloc (.cells #[.slice sa Z.length sc, .slice pa A.length pc, .slice qa B.length qc] 53)) (by simp) (fun i hi => by
            match i, hi with
            | 0, _ => exact cell_of_row _ _ 0 _ _ (0, 0) (heap_alloc_new wr _)
            | 1, _ => exact cell_of_row _ _ 1 _ _ (0, 0) (heap_alloc_new wr _)
            | 2, _ => exact cell_of_row _ _ 2 _ _ (0, 0) (heap_alloc_new wr _)) (fun i hi => by
            match i, hi with
            | 0, _ => exact SZ.below BA.out
            | 1, _ => exact (SrcY.below (SrcY.below (Or.inr hJ.out.a) hJ.out.bel) BA.out)
            | 2, _ => exact (SrcY.below (SrcY.below (Or.inr hJ.out.b) hJ.out.bel) BA.out)) (fun K hK z hz => by
            simp at hK
            rcases hK with rfl | rfl | rfl
            · exact hZ.out z hz
            · exact hA.out z hz
            · exact hB.out z hz) (fun K hK => by
            simp at hK
            rcases hK with rfl | rfl | rfl <;> omega)
        rw [EF.out] at this
        exact this)
      have B9 := Lib.hid hJ.out.bel
      clear hE EF SZ hJ hA hB hZ
      have hg : ¬ (0 < A.length ∧ 0 < B.length) := by
        rintro ⟨h1, h2⟩
        rcases hex with rfl | rfl
        · simp at h1
        · simp at h2
      by_cases ha0 : 0 < A.length
      · have hd1 : decide (0 < A.length) = true := decide_eq_true ha0
        have hd2 : decide (0 < B.length) = false := decide_eq_false (fun h => hg ⟨ha0, h⟩)
        have hi1 : (0 : Int) < (A.length : Int) := by omega
        have hi2 : ¬ (0 : Int) < (B.length : Int) := by omega
        clear hex hg ha0
        go_wp2_with fail
        refine CC.out.mono ?_
        rintro e w5 ⟨r, rfl, o5, b5⟩
        have O5 := Lib.hid (own_base o5 (Nat.le_trans B9.out.size BA.out.size))
        have B5 := Lib.hid ((B9.out.step1 BA.out).step1 b5)
        clear o5 b5 CC
        go_wp2_with fail
        go_ret
        exact ⟨r, rfl, O5.out, B5.out⟩
      · have hd1 : decide (0 < A.length) = false := decide_eq_false ha0
        have hi1 : ¬ (0 : Int) < (A.length : Int) := by omega
        clear hex hg ha0
        go_wp2_with fail
        refine CC.out.mono ?_
        rintro e w5 ⟨r, rfl, o5, b5⟩
        have O5 := Lib.hid (own_base o5 (Nat.le_trans B9.out.size BA.out.size))
        have B5 := Lib.hid ((B9.out.step1 BA.out).step1 b5)
        clear o5 b5 CC
        go_wp2_with fail
        go_ret
        exact ⟨r, rfl, O5.out, B5.out⟩
    · match A, B, hex with
      | [], _, hex => exact absurd (.inl rfl) hex
      | _ :: _, [], hex => exact absurd (.inr rfl) hex
      | x :: A, y :: B, _ =>
        obtain ⟨pb, po, pc, eP, hpc, hpm, hpb, prg⟩ := (hJ.out.a.below hJ.out.bel).head
        obtain ⟨qb, qo, qc, eQ, hqc, hqm, hqb, qrg⟩ := (hJ.out.b.below hJ.out.bel).head
        have hx4 := hA.out x List.mem_cons_self
        have hy4 := hB.out y List.mem_cons_self
        have PR : Hid (∀ w', Below wr.heap.size wr w' → w'.rangeAt pb po (pwK x).toList) := Lib.hid (fun w' hw q u hq => (hw.cell (p := ⟨pb, po + q, none⟩) hpb).trans (prg q u hq))
        have QR : Hid (∀ w', Below wr.heap.size wr w' → w'.rangeAt qb qo (pwK y).toList) := Lib.hid (fun w' hw q u hq => (hw.cell (p := ⟨qb, qo + q, none⟩) hqb).trans (qrg q u hq))
        subst eP
        subst eQ
        have hA2 := Lib.hid (fun z (hz : z ∈ A) => hA.out z (List.mem_cons_of_mem _ hz))
        have hB2 := Lib.hid (fun z (hz : z ∈ B) => hB.out z (List.mem_cons_of_mem _ hz))
        have hdA : decide (0 < A.length + 1) = true := decide_eq_true (by omega)
        have hdB : decide (0 < B.length + 1) = true := decide_eq_true (by omega)
        have hiA : (0 : Int) < (A.length : Int) + 1 := by omega
        have hiB : (0 : Int) < (B.length : Int) + 1 := by omega
        have hA1 : (1 : Int) ≤ (A.length : Int) + 1 := by omega
        have hB1 : (1 : Int) ≤ (B.length : Int) + 1 := by omega
        have hiA2 : (0 : Int) < ((A.length + 1 : Nat) : Int) := by omega
        have hiB2 : (0 : Int) < ((B.length + 1 : Nat) : Int) := by omega
        rw [List.length_cons, List.length_cons] at hlen
        have PWE := Lib.hid (fun w => pw_eq x y hx4 hy4 w)
        have IL := Lib.hid (fun w => isLess_any x y hx4 hy4 w)
        have ME : Hid (x = y → mrg (x :: A) (y :: B) = mrg A B) := Lib.hid (fun e => by rw [mrg, e, lexLt_irrefl]; rfl)
        have ML : Hid (lexLt x y = true → mrg (x :: A) (y :: B) = x :: mrg A (y :: B)) := Lib.hid (fun e => by rw [mrg, if_pos e])
        have MG : Hid (x ≠ y → lexLt x y = false → mrg (x :: A) (y :: B) = y :: mrg (x :: A) B) := Lib.hid (fun hne e => by
          have h2 : lexLt y x = true := by
            cases h : lexLt y x with
            | true => rfl
            | false => exact absurd (lexLt_total _ _ e h) hne
          rw [mrg, if_neg (by rw [e]; decide), if_pos h2])
        have hx4' := Lib.hid hx4
        have hy4' := Lib.hid hy4
        have HAx := hA
        have HBy := hB
        clear prg qrg hpb hqb hA hB
        match x, hx4, y, hy4 with
        | [x0, x1, x2, x3], _, [y0, y1, y2, y3], _ =>
          obtain ⟨c0, c1, c2, c3⟩ := range4 (PR.out wr (Below.refl _ _))
          obtain ⟨e0, e1, e2, e3⟩ := range4 (QR.out wr (Below.refl _ _))
          have EQ2 : ∀ w, (binOp .eql 71 (.agg #[.int .i64 x0, .int .i64 x1, .int .i64 x2, .int .i64 x3]) (.agg #[.int .i64 y0, .int .i64 y1, .int .i64 y2, .int .i64 y3])).run Try.prog w = .ok (.bool (decide ([x0, x1, x2, x3] = [y0, y1, y2, y3]))) w := PWE.out
          have IL2 : Hid (∀ w, Calls Try.prog 97 #[.agg #[.int .i64 x0, .int .i64 x1, .int .i64 x2, .int .i64 x3], .agg #[.int .i64 y0, .int .i64 y1, .int .i64 y2, .int .i64 y3]] w fun e w' => e = .returned (.bool (lexLt [x0, x1, x2, x3] [y0, y1, y2, y3])) ∧ Below w.heap.size w w') := Lib.hid IL.out
          have hpI : (1 : Int) ≤ (pc : Int) := by omega
          have hqI : (1 : Int) ≤ (qc : Int) := by omega
          obtain ⟨r, hr9⟩ : ∃ r, decide ([x0, x1, x2, x3] = [y0, y1, y2, y3]) = r := ⟨_, rfl⟩
          rw [hr9] at EQ2
          clear PWE IL
          cases r
          · have hne := Lib.hid (of_decide_eq_false hr9)
            clear hr9 ME
            go_upto_region 4 with fail
            go_quiet (fail)
            go_wp2_with fail
            generalize hwq : wr.drewN nq = wq
            have BQ : Hid (Below wr.heap.size wr wq) := Lib.hid (by rw [← hwq]; exact below_drewN (Below.refl _ _) _)
            clear hwq c0 c1 c2 c3 e0 e1 e2 e3
            obtain ⟨c0, c1, c2, c3⟩ := range4 (PR.out wq BQ.out)
            obtain ⟨e0, e1, e2, e3⟩ := range4 (QR.out wq BQ.out)
            go_region_law (go_simp; go_at_call 97; refine (IL2.out _).mono ?_; rintro e w5 ⟨rfl, b5⟩; have B5 : Hid (Below wr.heap.size wr w5) := Lib.hid (BQ.out.step1 (belD1 b5)))
            all_goals
              clear b5 c0 c1 c2 c3 e0 e1 e2 e3
              obtain ⟨c0, c1, c2, c3⟩ := range4 (PR.out w5 B5.out)
              obtain ⟨e0, e1, e2, e3⟩ := range4 (QR.out w5 B5.out)
              cases hlx : lexLt [x0, x1, x2, x3] [y0, y1, y2, y3] with
              | true =>
                by_cases hp1 : pc = 1
                · subst hp1
                  have BA : Hid (Below wr.heap.size wr ((w5.drew).alloc (.cells #[Value.int .i64 x0, Value.int .i64 x1, Value.int .i64 x2, Value.int .i64 x3] 71))) := Lib.hid (B5.out.step1 ((Below.refl _ _).drew.alloc (Nat.le_refl _) _))
                  have OA : Hid (((w5.drew).alloc (.cells #[Value.int .i64 x0, Value.int .i64 x1, Value.int .i64 x2, Value.int .i64 x3] 71)).ownsRow w.heap.size 71 4 u5 Z.length ((Z.map pwK).flatMap Array.toList)) := Lib.hid (by have := own_below hJ.out.row BA.out; rw [List.length_map] at this; exact this)
                  have SA : Hid (w.heap.size ≤ ((w5.drew).alloc (.cells #[Value.int .i64 x0, Value.int .i64 x1, Value.int .i64 x2, Value.int .i64 x3] 71)).heap.size) := Lib.hid (Nat.le_trans hJ.out.bel.size BA.out.size)
                  have CN : Hid (∀ j u, [Value.int .i64 x0, Value.int .i64 x1, Value.int .i64 x2, Value.int .i64 x3][j]? = some u → ((w5.drew).alloc (.cells #[Value.int .i64 x0, Value.int .i64 x1, Value.int .i64 x2, Value.int .i64 x3] 71)).cell? ((⟨w5.heap.size, 0, none⟩ : Addr).add j) = some u) := Lib.hid (fun j u hj => by
                    rw [Addr.add_lit, Nat.zero_add]
                    match j, hj with
                    | 0, hj => simp at hj; subst hj; exact cell_of_row _ _ 0 _ _ (0, 0) (heap_alloc_new (w5.drew) _)
                    | 1, hj => simp at hj; subst hj; exact cell_of_row _ _ 1 _ _ (0, 0) (heap_alloc_new (w5.drew) _)
                    | 2, hj => simp at hj; subst hj; exact cell_of_row _ _ 2 _ _ (0, 0) (heap_alloc_new (w5.drew) _)
                    | 3, hj => simp at hj; subst hj; exact cell_of_row _ _ 3 _ _ (0, 0) (heap_alloc_new (w5.drew) _)
                    )
                  have O1 : Hid (∀ u ∈ [Value.int .i64 x0, Value.int .i64 x1, Value.int .i64 x2, Value.int .i64 x3], u.oneCell' = true) := Lib.hid (fun u hu => by simp at hu; rcases hu with rfl | rfl | rfl | rfl <;> rfl)
                  have JPP : Hid (∀ v7 w7, w7.ownsRow w.heap.size 71 4 v7 (Z.length + 1) ((Z.map pwK).flatMap Array.toList ++ [Value.int .i64 x0, Value.int .i64 x1, Value.int .i64 x2, Value.int .i64 x3]) → ((w5.drew).alloc (.cells #[Value.int .i64 x0, Value.int .i64 x1, Value.int .i64 x2, Value.int .i64 x3] 71)).grownBy w7 u5.ownBlock → PlJ w (.slice (some ⟨pb, po, none⟩) A.length 0) (.slice (some ⟨qb, qo, none⟩) (B.length + 1) qc) v7 A ([y0, y1, y2, y3] :: B) (Z ++ [[x0, x1, x2, x3]]) w7) := Lib.hid (fun v7 w7 ho hg => by
                    have bg : Below w.heap.size w w7 := (hJ.out.bel.step1 BA.out).grown hg SA.out (fun q hq => (OA.out.lt q hq).1)
                    exact ⟨bg, hJ.out.a.cut1 rfl, hJ.out.b, ownY_snoc ho⟩)
                  have BS := fun w => bsRunY4 w x0 x1 x2 x3
                  have hZ2 : Hid (∀ t ∈ Z ++ [[x0, x1, x2, x3]], t.length = 4) := Lib.hid (fun t ht => by rcases List.mem_append.1 ht with h | h; exact hZ.out t h; rw [List.mem_singleton.1 h]; rfl)
                  have NX : Hid ((Z ++ [[x0, x1, x2, x3]]) ++ mrg A ([y0, y1, y2, y3] :: B) = mrg L M) := Lib.hid (by rw [List.append_assoc, List.singleton_append, ← ML.out hlx]; exact hE.out)
                  clear BA hJ hZ IL2 EQ2 ML MG hE hlx PR QR
                  go_wp2_with fail
                  go_region_law (refine step_pow (by rfl) _ _ (by rfl) w.heap.size Z.length _ _ (by rfl) OA.out ⟨w5.heap.size, 0, none⟩ 1 [Value.int .i64 x0, Value.int .i64 x1, Value.int .i64 x2, Value.int .i64 x3] (by rfl) CN.out rfl O1.out (by omega) SA.out ?_; intro v7 w7 ho7 hg7; have J7 := Lib.hid (JPP.out v7 w7 ho7 hg7); clear ho7 hg7)
                  all_goals
                    go_wp2_with fail
                    simp only [List.getElem_toArray, List.getElem_cons_zero, List.getElem_cons_succ, Act.put, List.setIfInBounds_toArray, List.set_cons_zero, List.set_cons_succ]
                    go_roundw
                    case rel => exact ⟨A, [y0, y1, y2, y3] :: B, Z ++ [[x0, x1, x2, x3]], NX, by simp only [List.length_append, List.length_cons, List.length_nil]; omega, hA2, HBy, hZ2, J7⟩
                    case measure => simp [slenH] <;> omega
                · have hp2 : ¬ (pc : Int) = 1 := by omega
                  have BA : Hid (Below wr.heap.size wr ((w5.drew).alloc (.cells #[Value.int .i64 x0, Value.int .i64 x1, Value.int .i64 x2, Value.int .i64 x3] 71))) := Lib.hid (B5.out.step1 ((Below.refl _ _).drew.alloc (Nat.le_refl _) _))
                  have OA : Hid (((w5.drew).alloc (.cells #[Value.int .i64 x0, Value.int .i64 x1, Value.int .i64 x2, Value.int .i64 x3] 71)).ownsRow w.heap.size 71 4 u5 Z.length ((Z.map pwK).flatMap Array.toList)) := Lib.hid (by have := own_below hJ.out.row BA.out; rw [List.length_map] at this; exact this)
                  have SA : Hid (w.heap.size ≤ ((w5.drew).alloc (.cells #[Value.int .i64 x0, Value.int .i64 x1, Value.int .i64 x2, Value.int .i64 x3] 71)).heap.size) := Lib.hid (Nat.le_trans hJ.out.bel.size BA.out.size)
                  have CN : Hid (∀ j u, [Value.int .i64 x0, Value.int .i64 x1, Value.int .i64 x2, Value.int .i64 x3][j]? = some u → ((w5.drew).alloc (.cells #[Value.int .i64 x0, Value.int .i64 x1, Value.int .i64 x2, Value.int .i64 x3] 71)).cell? ((⟨w5.heap.size, 0, none⟩ : Addr).add j) = some u) := Lib.hid (fun j u hj => by
                    rw [Addr.add_lit, Nat.zero_add]
                    match j, hj with
                    | 0, hj => simp at hj; subst hj; exact cell_of_row _ _ 0 _ _ (0, 0) (heap_alloc_new (w5.drew) _)
                    | 1, hj => simp at hj; subst hj; exact cell_of_row _ _ 1 _ _ (0, 0) (heap_alloc_new (w5.drew) _)
                    | 2, hj => simp at hj; subst hj; exact cell_of_row _ _ 2 _ _ (0, 0) (heap_alloc_new (w5.drew) _)
                    | 3, hj => simp at hj; subst hj; exact cell_of_row _ _ 3 _ _ (0, 0) (heap_alloc_new (w5.drew) _)
                    )
                  have O1 : Hid (∀ u ∈ [Value.int .i64 x0, Value.int .i64 x1, Value.int .i64 x2, Value.int .i64 x3], u.oneCell' = true) := Lib.hid (fun u hu => by simp at hu; rcases hu with rfl | rfl | rfl | rfl <;> rfl)
                  have JPP : Hid (∀ v7 w7, w7.ownsRow w.heap.size 71 4 v7 (Z.length + 1) ((Z.map pwK).flatMap Array.toList ++ [Value.int .i64 x0, Value.int .i64 x1, Value.int .i64 x2, Value.int .i64 x3]) → ((w5.drew).alloc (.cells #[Value.int .i64 x0, Value.int .i64 x1, Value.int .i64 x2, Value.int .i64 x3] 71)).grownBy w7 u5.ownBlock → PlJ w (.slice (some ⟨pb, po + 4, none⟩) A.length (pc - 1)) (.slice (some ⟨qb, qo, none⟩) (B.length + 1) qc) v7 A ([y0, y1, y2, y3] :: B) (Z ++ [[x0, x1, x2, x3]]) w7) := Lib.hid (fun v7 w7 ho hg => by
                    have bg : Below w.heap.size w w7 := (hJ.out.bel.step1 BA.out).grown hg SA.out (fun q hq => (OA.out.lt q hq).1)
                    exact ⟨bg, hJ.out.a.cut, hJ.out.b, ownY_snoc ho⟩)
                  have BS := fun w => bsRunY4 w x0 x1 x2 x3
                  have hZ2 : Hid (∀ t ∈ Z ++ [[x0, x1, x2, x3]], t.length = 4) := Lib.hid (fun t ht => by rcases List.mem_append.1 ht with h | h; exact hZ.out t h; rw [List.mem_singleton.1 h]; rfl)
                  have NX : Hid ((Z ++ [[x0, x1, x2, x3]]) ++ mrg A ([y0, y1, y2, y3] :: B) = mrg L M) := Lib.hid (by rw [List.append_assoc, List.singleton_append, ← ML.out hlx]; exact hE.out)
                  clear BA hJ hZ IL2 EQ2 ML MG hE hlx PR QR
                  go_wp2_with fail
                  go_region_law (refine step_pow (by rfl) _ _ (by rfl) w.heap.size Z.length _ _ (by rfl) OA.out ⟨w5.heap.size, 0, none⟩ 1 [Value.int .i64 x0, Value.int .i64 x1, Value.int .i64 x2, Value.int .i64 x3] (by rfl) CN.out rfl O1.out (by omega) SA.out ?_; intro v7 w7 ho7 hg7; have J7 := Lib.hid (JPP.out v7 w7 ho7 hg7); clear ho7 hg7)
                  all_goals
                    go_wp2_with fail
                    simp only [List.getElem_toArray, List.getElem_cons_zero, List.getElem_cons_succ, Act.put, List.setIfInBounds_toArray, List.set_cons_zero, List.set_cons_succ]
                    go_roundw
                    case rel => exact ⟨A, [y0, y1, y2, y3] :: B, Z ++ [[x0, x1, x2, x3]], NX, by simp only [List.length_append, List.length_cons, List.length_nil]; omega, hA2, HBy, hZ2, J7⟩
                    case measure => simp [slenH] <;> omega
              | false =>
                by_cases hq1 : qc = 1
                · subst hq1
                  have BA : Hid (Below wr.heap.size wr ((w5.drew).alloc (.cells #[Value.int .i64 y0, Value.int .i64 y1, Value.int .i64 y2, Value.int .i64 y3] 71))) := Lib.hid (B5.out.step1 ((Below.refl _ _).drew.alloc (Nat.le_refl _) _))
                  have OA : Hid (((w5.drew).alloc (.cells #[Value.int .i64 y0, Value.int .i64 y1, Value.int .i64 y2, Value.int .i64 y3] 71)).ownsRow w.heap.size 71 4 u5 Z.length ((Z.map pwK).flatMap Array.toList)) := Lib.hid (by have := own_below hJ.out.row BA.out; rw [List.length_map] at this; exact this)
                  have SA : Hid (w.heap.size ≤ ((w5.drew).alloc (.cells #[Value.int .i64 y0, Value.int .i64 y1, Value.int .i64 y2, Value.int .i64 y3] 71)).heap.size) := Lib.hid (Nat.le_trans hJ.out.bel.size BA.out.size)
                  have CN : Hid (∀ j u, [Value.int .i64 y0, Value.int .i64 y1, Value.int .i64 y2, Value.int .i64 y3][j]? = some u → ((w5.drew).alloc (.cells #[Value.int .i64 y0, Value.int .i64 y1, Value.int .i64 y2, Value.int .i64 y3] 71)).cell? ((⟨w5.heap.size, 0, none⟩ : Addr).add j) = some u) := Lib.hid (fun j u hj => by
                    rw [Addr.add_lit, Nat.zero_add]
                    match j, hj with
                    | 0, hj => simp at hj; subst hj; exact cell_of_row _ _ 0 _ _ (0, 0) (heap_alloc_new (w5.drew) _)
                    | 1, hj => simp at hj; subst hj; exact cell_of_row _ _ 1 _ _ (0, 0) (heap_alloc_new (w5.drew) _)
                    | 2, hj => simp at hj; subst hj; exact cell_of_row _ _ 2 _ _ (0, 0) (heap_alloc_new (w5.drew) _)
                    | 3, hj => simp at hj; subst hj; exact cell_of_row _ _ 3 _ _ (0, 0) (heap_alloc_new (w5.drew) _)
                    )
                  have O1 : Hid (∀ u ∈ [Value.int .i64 y0, Value.int .i64 y1, Value.int .i64 y2, Value.int .i64 y3], u.oneCell' = true) := Lib.hid (fun u hu => by simp at hu; rcases hu with rfl | rfl | rfl | rfl <;> rfl)
                  have JPP : Hid (∀ v7 w7, w7.ownsRow w.heap.size 71 4 v7 (Z.length + 1) ((Z.map pwK).flatMap Array.toList ++ [Value.int .i64 y0, Value.int .i64 y1, Value.int .i64 y2, Value.int .i64 y3]) → ((w5.drew).alloc (.cells #[Value.int .i64 y0, Value.int .i64 y1, Value.int .i64 y2, Value.int .i64 y3] 71)).grownBy w7 u5.ownBlock → PlJ w (.slice (some ⟨pb, po, none⟩) (A.length + 1) pc) (.slice (some ⟨qb, qo, none⟩) B.length 0) v7 ([x0, x1, x2, x3] :: A) B (Z ++ [[y0, y1, y2, y3]]) w7) := Lib.hid (fun v7 w7 ho hg => by
                    have bg : Below w.heap.size w w7 := (hJ.out.bel.step1 BA.out).grown hg SA.out (fun q hq => (OA.out.lt q hq).1)
                    exact ⟨bg, hJ.out.a, hJ.out.b.cut1 rfl, ownY_snoc ho⟩)
                  have BS := fun w => bsRunY4 w y0 y1 y2 y3
                  have hZ2 : Hid (∀ t ∈ Z ++ [[y0, y1, y2, y3]], t.length = 4) := Lib.hid (fun t ht => by rcases List.mem_append.1 ht with h | h; exact hZ.out t h; rw [List.mem_singleton.1 h]; rfl)
                  have NX : Hid ((Z ++ [[y0, y1, y2, y3]]) ++ mrg ([x0, x1, x2, x3] :: A) B = mrg L M) := Lib.hid (by rw [List.append_assoc, List.singleton_append, ← MG.out hne.out hlx]; exact hE.out)
                  clear BA hJ hZ IL2 EQ2 ML MG hE hlx PR QR
                  go_wp2_with fail
                  go_region_law (refine step_pow (by rfl) _ _ (by rfl) w.heap.size Z.length _ _ (by rfl) OA.out ⟨w5.heap.size, 0, none⟩ 1 [Value.int .i64 y0, Value.int .i64 y1, Value.int .i64 y2, Value.int .i64 y3] (by rfl) CN.out rfl O1.out (by omega) SA.out ?_; intro v7 w7 ho7 hg7; have J7 := Lib.hid (JPP.out v7 w7 ho7 hg7); clear ho7 hg7)
                  all_goals
                    go_wp2_with fail
                    simp only [List.getElem_toArray, List.getElem_cons_zero, List.getElem_cons_succ, Act.put, List.setIfInBounds_toArray, List.set_cons_zero, List.set_cons_succ]
                    go_roundw
                    case rel => exact ⟨[x0, x1, x2, x3] :: A, B, Z ++ [[y0, y1, y2, y3]], NX, by simp only [List.length_append, List.length_cons, List.length_nil]; omega, HAx, hB2, hZ2, J7⟩
                    case measure => simp [slenH] <;> omega
                · have hq2 : ¬ (qc : Int) = 1 := by omega
                  have BA : Hid (Below wr.heap.size wr ((w5.drew).alloc (.cells #[Value.int .i64 y0, Value.int .i64 y1, Value.int .i64 y2, Value.int .i64 y3] 71))) := Lib.hid (B5.out.step1 ((Below.refl _ _).drew.alloc (Nat.le_refl _) _))
                  have OA : Hid (((w5.drew).alloc (.cells #[Value.int .i64 y0, Value.int .i64 y1, Value.int .i64 y2, Value.int .i64 y3] 71)).ownsRow w.heap.size 71 4 u5 Z.length ((Z.map pwK).flatMap Array.toList)) := Lib.hid (by have := own_below hJ.out.row BA.out; rw [List.length_map] at this; exact this)
                  have SA : Hid (w.heap.size ≤ ((w5.drew).alloc (.cells #[Value.int .i64 y0, Value.int .i64 y1, Value.int .i64 y2, Value.int .i64 y3] 71)).heap.size) := Lib.hid (Nat.le_trans hJ.out.bel.size BA.out.size)
                  have CN : Hid (∀ j u, [Value.int .i64 y0, Value.int .i64 y1, Value.int .i64 y2, Value.int .i64 y3][j]? = some u → ((w5.drew).alloc (.cells #[Value.int .i64 y0, Value.int .i64 y1, Value.int .i64 y2, Value.int .i64 y3] 71)).cell? ((⟨w5.heap.size, 0, none⟩ : Addr).add j) = some u) := Lib.hid (fun j u hj => by
                    rw [Addr.add_lit, Nat.zero_add]
                    match j, hj with
                    | 0, hj => simp at hj; subst hj; exact cell_of_row _ _ 0 _ _ (0, 0) (heap_alloc_new (w5.drew) _)
                    | 1, hj => simp at hj; subst hj; exact cell_of_row _ _ 1 _ _ (0, 0) (heap_alloc_new (w5.drew) _)
                    | 2, hj => simp at hj; subst hj; exact cell_of_row _ _ 2 _ _ (0, 0) (heap_alloc_new (w5.drew) _)
                    | 3, hj => simp at hj; subst hj; exact cell_of_row _ _ 3 _ _ (0, 0) (heap_alloc_new (w5.drew) _)
                    )
                  have O1 : Hid (∀ u ∈ [Value.int .i64 y0, Value.int .i64 y1, Value.int .i64 y2, Value.int .i64 y3], u.oneCell' = true) := Lib.hid (fun u hu => by simp at hu; rcases hu with rfl | rfl | rfl | rfl <;> rfl)
                  have JPP : Hid (∀ v7 w7, w7.ownsRow w.heap.size 71 4 v7 (Z.length + 1) ((Z.map pwK).flatMap Array.toList ++ [Value.int .i64 y0, Value.int .i64 y1, Value.int .i64 y2, Value.int .i64 y3]) → ((w5.drew).alloc (.cells #[Value.int .i64 y0, Value.int .i64 y1, Value.int .i64 y2, Value.int .i64 y3] 71)).grownBy w7 u5.ownBlock → PlJ w (.slice (some ⟨pb, po, none⟩) (A.length + 1) pc) (.slice (some ⟨qb, qo + 4, none⟩) B.length (qc - 1)) v7 ([x0, x1, x2, x3] :: A) B (Z ++ [[y0, y1, y2, y3]]) w7) := Lib.hid (fun v7 w7 ho hg => by
                    have bg : Below w.heap.size w w7 := (hJ.out.bel.step1 BA.out).grown hg SA.out (fun q hq => (OA.out.lt q hq).1)
                    exact ⟨bg, hJ.out.a, hJ.out.b.cut, ownY_snoc ho⟩)
                  have BS := fun w => bsRunY4 w y0 y1 y2 y3
                  have hZ2 : Hid (∀ t ∈ Z ++ [[y0, y1, y2, y3]], t.length = 4) := Lib.hid (fun t ht => by rcases List.mem_append.1 ht with h | h; exact hZ.out t h; rw [List.mem_singleton.1 h]; rfl)
                  have NX : Hid ((Z ++ [[y0, y1, y2, y3]]) ++ mrg ([x0, x1, x2, x3] :: A) B = mrg L M) := Lib.hid (by rw [List.append_assoc, List.singleton_append, ← MG.out hne.out hlx]; exact hE.out)
                  clear BA hJ hZ IL2 EQ2 ML MG hE hlx PR QR
                  go_wp2_with fail
                  go_region_law (refine step_pow (by rfl) _ _ (by rfl) w.heap.size Z.length _ _ (by rfl) OA.out ⟨w5.heap.size, 0, none⟩ 1 [Value.int .i64 y0, Value.int .i64 y1, Value.int .i64 y2, Value.int .i64 y3] (by rfl) CN.out rfl O1.out (by omega) SA.out ?_; intro v7 w7 ho7 hg7; have J7 := Lib.hid (JPP.out v7 w7 ho7 hg7); clear ho7 hg7)
                  all_goals
                    go_wp2_with fail
                    simp only [List.getElem_toArray, List.getElem_cons_zero, List.getElem_cons_succ, Act.put, List.setIfInBounds_toArray, List.set_cons_zero, List.set_cons_succ]
                    go_roundw
                    case rel => exact ⟨[x0, x1, x2, x3] :: A, B, Z ++ [[y0, y1, y2, y3]], NX, by simp only [List.length_append, List.length_cons, List.length_nil]; omega, HAx, hB2, hZ2, J7⟩
                    case measure => simp [slenH] <;> omega
          · have NE : Hid (Z ++ mrg A B = mrg L M) := Lib.hid (by rw [← ME.out (of_decide_eq_true hr9)]; exact hE.out)
            clear hr9 ME ML MG hE
            by_cases hp1 : pc = 1
            · subst hp1
              by_cases hq1 : qc = 1
              · subst hq1
                have JQ : Hid (∀ w', Below wr.heap.size wr w' → PlJ w (.slice (some ⟨pb, po, none⟩) A.length 0) (.slice (some ⟨qb, qo, none⟩) B.length 0) u5 A B Z w') := Lib.hid (fun w' hb => (PlJ.mk hJ.out.bel (hJ.out.a.cut1 rfl) (hJ.out.b.cut1 rfl) hJ.out.row).up hb)
                clear hJ PR QR
                go_upto_region 4 with fail
                go_quiet (fail)
                go_wp2_with fail
                go_quiet (fail)
                go_wp2_with fail
                exact ⟨⟨A, B, Z, NE, by omega, hA2, hB2, hZ, Lib.hid (JQ.out _ (below_drewN (below_drewN (Below.refl _ _) _) _))⟩, by simp only [slenH]; omega⟩
              · have hq2 : ¬ (qc : Int) = 1 := by omega
                have JQ : Hid (∀ w', Below wr.heap.size wr w' → PlJ w (.slice (some ⟨pb, po, none⟩) A.length 0) (.slice (some ⟨qb, qo + 4, none⟩) B.length (qc - 1)) u5 A B Z w') := Lib.hid (fun w' hb => (PlJ.mk hJ.out.bel (hJ.out.a.cut1 rfl) (hJ.out.b.cut) hJ.out.row).up hb)
                clear hJ PR QR
                go_upto_region 4 with fail
                go_quiet (fail)
                go_wp2_with fail
                go_quiet (fail)
                go_wp2_with fail
                exact ⟨⟨A, B, Z, NE, by omega, hA2, hB2, hZ, Lib.hid (JQ.out _ (below_drewN (below_drewN (Below.refl _ _) _) _))⟩, by simp only [slenH]; omega⟩
            · have hp2 : ¬ (pc : Int) = 1 := by omega
              by_cases hq1 : qc = 1
              · subst hq1
                have JQ : Hid (∀ w', Below wr.heap.size wr w' → PlJ w (.slice (some ⟨pb, po + 4, none⟩) A.length (pc - 1)) (.slice (some ⟨qb, qo, none⟩) B.length 0) u5 A B Z w') := Lib.hid (fun w' hb => (PlJ.mk hJ.out.bel (hJ.out.a.cut) (hJ.out.b.cut1 rfl) hJ.out.row).up hb)
                clear hJ PR QR
                go_upto_region 4 with fail
                go_quiet (fail)
                go_wp2_with fail
                go_quiet (fail)
                go_wp2_with fail
                exact ⟨⟨A, B, Z, NE, by omega, hA2, hB2, hZ, Lib.hid (JQ.out _ (below_drewN (below_drewN (Below.refl _ _) _) _))⟩, by simp only [slenH]; omega⟩
              · have hq2 : ¬ (qc : Int) = 1 := by omega
                have JQ : Hid (∀ w', Below wr.heap.size wr w' → PlJ w (.slice (some ⟨pb, po + 4, none⟩) A.length (pc - 1)) (.slice (some ⟨qb, qo + 4, none⟩) B.length (qc - 1)) u5 A B Z w') := Lib.hid (fun w' hb => (PlJ.mk hJ.out.bel (hJ.out.a.cut) (hJ.out.b.cut) hJ.out.row).up hb)
                clear hJ PR QR
                go_upto_region 4 with fail
                go_quiet (fail)
                go_wp2_with fail
                go_quiet (fail)
                go_wp2_with fail
                exact ⟨⟨A, B, Z, NE, by omega, hA2, hB2, hZ, Lib.hid (JQ.out _ (below_drewN (below_drewN (Below.refl _ _) _) _))⟩, by simp only [slenH]; omega⟩
end Go.Proofs.Ytggebkcmokpcmaa
end
