/-
  Contracts: spaceOf, (*rowSpace).matrix.
-/
import Derived.Test.YtdojblmffmefgaaDoorDRows
import Derived.Test.YtdojblmffmefgaaDoorDReduce
namespace Go.Proofs.YtdojblmffmefgaaDoor
open Go.RowKit
set_option linter.unusedVariables false
set_option maxRecDepth 100000

theorem addAll_snoc (S : Nat → TR) (xs : List TR) (r : TR) : addAll S (xs ++ [r]) = addS (addAll S xs) r := by
  induction xs generalizing S with
  | nil => rfl
  | cons x xs ih => exact ih (addS S x)
theorem addN_all (S R : Nat → TR) (n : Nat) : addN S R n = addAll S ((List.range n).map R) := by
  induction n with
  | zero => rfl
  | succ n ih => rw [addN, ih, List.range_succ, List.map_append, List.map_singleton, addAll_snoc]
theorem plain_range (L : List Nat) : (List.range L.length).map (fun i => ((L.getD i 0, 0) : TR)) = plain L := by
  apply List.ext_getElem
  · simp [plain]
  · intro i h1 h2
    have h3 : i < L.length := by simpa using h1
    simp [plain, h3]
theorem addN_space (L : List Nat) : addN (fun _ => (0, 0)) (fun i => (L.getD i 0, 0)) L.length = spaceL L := by
  rw [addN_all, plain_range]; rfl

theorem T0.pos {w : World} (h : T0 w) : 0 < w.heap.size := World.block_lt_of_cell? w ⟨0, 0, none⟩ (h 0 (by decide))

/-- A new array of rows. -/
theorem Sp.new (w : World) (cs : Array Value) (h : cs.size = 120) (h0 : ∀ i, i < 120 → cs[i]? = some (.int .i64 0)) : Sp (w.alloc (.cells cs 94)) w.heap.size (fun _ => (0, 0)) :=
  ⟨cs, heap_alloc_new w _, h, fun j hj => ⟨h0 _ (by omega), h0 _ (by omega)⟩⟩

theorem zeros_space : Tryd.zeroCells94 = Array.replicate 120 (Value.int .i64 0) := by kernel_rfl
theorem Sp.zeros (w : World) : Sp (w.alloc (.cells Tryd.zeroCells94 94)) w.heap.size (fun _ => (0, 0)) := by
  refine Sp.new w _ (by rw [zeros_space]; simp) fun i hi => ?_
  rw [zeros_space]
  simp [hi]

theorem spaceOf_any (s : Value) (L : List Nat) (w : World) (h : RdN w s L) (hL : ∀ x ∈ L, x < 2 ^ 60) (hl : L.length ≤ 200) (hT : T0 w) :
    Calls Tryd.prog 87 #[s] w fun e w' => e = .returned (.pointer (some ⟨w.heap.size, 0, none⟩)) ∧ Sp w' w.heap.size (spaceL L) ∧ Below w.heap.size w w' := by
  have H := Lib.hid h
  have HL := Lib.hid hL
  have HT := Lib.hid hT
  have t3 := Tryd.underlying91
  have t4 := Tryd.underlying94
  clear h hL hT
  have B1 : Hid (Below w.heap.size w (w.alloc (.cells Tryd.zeroCells94 94))) := Lib.hid ((Below.refl w.heap.size w).alloc (Nat.le_refl _) _)
  have S1 := Lib.hid (Sp.zeros w)
  have R1 := Lib.hid (H.out.below B1.out)
  have T1 := Lib.hid (HT.out.below B1.out)
  have HP := Lib.hid HT.out.pos
  go_enter Tryd.func87, Tryd.ntmps87
  go_wp2_with fail
  generalize (w.alloc (.cells Tryd.zeroCells94 94)) = w1 at *
  refine (plainRows_any s L w1 R1.out hl).mono ?_
  rintro e w2 ⟨u, rfl, o2, b2⟩
  have S2 := Lib.hid (S1.out.up b2)
  have T2 := Lib.hid (T1.out.below b2)
  have B2 := Lib.hid (B1.out.trans (b2.mono B1.out.size))
  have O2 := Lib.hid (rdt_of_own o2)
  clear o2 b2 S1 T1 B1 R1
  go_wp2_with fail
  refine (reduceAdd_any w.heap.size _ u L.length _ w2 O2.out S2.out piv_zero (fun i hi => ⟨HL.out _ ?_, Nat.two_pow_pos 60⟩) hl T2.out (by have := HP.out; omega)).mono ?_
  · rw [List.getD_eq_getElem?_getD, List.getElem?_eq_getElem hi]; exact List.getElem_mem hi
  rintro e w3 ⟨u3, rfl, o3, s3, k3⟩
  rw [addN_space] at s3
  have S3 := Lib.hid s3
  have B3 := Lib.hid (B2.out.grown k3 B2.out.size (fun k hk => by cases hk; exact Nat.le_refl _))
  clear o3 s3 k3
  go_wp2_with fail
  go_ret
  exact ⟨rfl, S3.out, B3.out⟩

/-- A space's block is no matrix's. -/
theorem Sp.ne_mat {w : World} {b g : Nat} {x y : Value} {S : Nat → TR} (h : Sp w g S) (k : Box w b 26 x y) : b ≠ g := h.ne_box k

theorem rowsK_succ (S : Nat → TR) (k : Nat) : rowsK S (k + 1) = rowsK S k ++ (if (S k).1 ≠ 0 then [(S k).1] else []) := rfl

set_option maxHeartbeats 2000000 in
theorem matrix_any (g : Nat) (S : Nat → TR) (c : Int) (w : World) (hS : Sp w g S) :
    Calls Tryd.prog 88 #[.pointer (some ⟨g, 0, none⟩), .int .i64 c] w fun e w' => ∃ u, e = .returned (.agg #[.int .i64 c, u]) ∧ w'.ownsRow w.heap.size 2 1 u (rowsK S 60).length ((nI (rowsK S 60)).map (Value.int .i64)) ∧ Below w.heap.size w w' := by
  have HS := Lib.hid hS
  have t2 := Tryd.underlying26
  have t3 := Tryd.underlying91
  have t4 := Tryd.underlying94
  clear hS
  have W3 : ∃ w3, w3 = ((w.alloc (.cells #[.int .i64 0, .slice none 0 0] 26)).alloc (.cells #[.int .i64 c, .slice none 0 0] 26)) := ⟨_, rfl⟩
  obtain ⟨w3, hw3⟩ := W3
  have S3 : Hid (Bld w w.heap.size w.heap.size (w.heap.size + 1) (.int .i64 0) (.slice none 0 0) c (.slice none 0 0) (nI (rowsK S 0)) w3) := Lib.hid (by
    rw [hw3]
    refine ⟨((Below.refl w.heap.size w).alloc (Nat.le_refl _) _).alloc (by simp) _, (Box.new w _ _ _).alloc _, (Box.new w _ _ _).alloc _, ?_, World.ownsRow_nil _ _ _ _, by omega, by omega, by omega, by omega, by omega⟩
    have := Box.new (w.alloc (.cells #[.int .i64 0, .slice none 0 0] 26)) 26 (.int .i64 c) (.slice none 0 0)
    simpa using this)
  go_enter Tryd.func88, Tryd.ntmps88
  go_wp2
  rw [← hw3]
  clear hw3
  go_loopw [7, 12] (fun _ q wr => ∃ (j : Nat) (v : Value), j ≤ 60 ∧ q = .int .i64 j ∧ Hid (Bld w w.heap.size w.heap.size (w.heap.size + 1) (.int .i64 0) (.slice none 0 0) c v (nI (rowsK S j)) wr)) (fun _ q _ => 60 - (intOf q).toNat)
  case atStart => exact ⟨0, _, by omega, rfl, S3⟩
  case round =>
    clear S3
    obtain ⟨j, v, hj, rfl, SB⟩ := hrel
    have o0 := SB.out.own
    obtain ⟨va, vc, rfl⟩ := o0.shape
    have O := Lib.hid o0
    have LL : (nI (rowsK S j)).length ≤ 60 := by rw [nI_length]; exact Nat.le_trans (rowsK_len S j) hj
    clear o0
    by_cases hlt : j < 60
    · have hlt' : (j : Int) < 60 := by omega
      have SJ := HS.out.up SB.out.bel
      have c0 := SJ.c0 j hlt
      have c1 := SJ.c1 j hlt
      have E := Lib.hid (rowsK_succ S j)
      have A := Lib.hid (SB.out.alloc (.cells #[.int .i64 (((S j).1 : Nat) : Int), .int .i64 (((S j).2 : Nat) : Int)] 91))
      have cO1 := A.out.bO.c1
      by_cases h0 : (S j).1 = 0
      · have hb : ((((S j).1 : Nat) : Int) != 0) = false := by rw [h0]; rfl
        have EQ : Hid (rowsK S (j + 1) = rowsK S j) := Lib.hid (by rw [E.out, if_neg (fun h => h h0), List.append_nil])
        clear h0 E SJ
        generalize S j = o at *
        go_wp2
        go_roundw
        case rel => exact ⟨j + 1, _, by omega, by go_num, by rw [EQ.out]; exact A.out⟩
        case measure => simp [intOf]; omega
      · have hb : ((((S j).1 : Nat) : Int) != 0) = true := by rw [bne_iff_ne]; omega
        have EQ : Hid (nI (rowsK S (j + 1)) = nI (rowsK S j) ++ [(((S j).1 : Nat) : Int)]) := Lib.hid (by rw [E.out, if_pos h0, nI_app]; rfl)
        clear h0 E SJ
        generalize S j = o at *
        generalize nI (rowsK S j) = L at *
        have A3 := Lib.hid (A.out.alloc (.cells #[.int .i64 ((o.1 : Nat) : Int)] 2))
        have AO := Lib.hid A3.out.own
        have CN : Hid (((wr.alloc (.cells #[.int .i64 ((o.1 : Nat) : Int), .int .i64 ((o.2 : Nat) : Int)] 91)).alloc (.cells #[.int .i64 ((o.1 : Nat) : Int)] 2)).cell? ⟨wr.heap.size + 1, 0, none⟩ = some (.int .i64 ((o.1 : Nat) : Int))) := Lib.hid (by
          simp)
        go_wp2_with (at_builtin; refine wpList_append1 rfl _ _ rfl w.heap.size _ L.length L rfl AO.out _ _ 1 rfl CN.out ?c1 ?c2 ?_)
        case c1 => omega
        case c2 => exact A3.out.bel.size
        intro v' w2 ho hg
        obtain ⟨va', vc', rfl⟩ := ho.shape
        have A2 := Lib.hid (A3.out.app (r := ((o.1 : Nat) : Int)) (by rw [List.map_append]; exact ho) hg)
        have F := Lib.hid (Bld2.store A3.out A2.out)
        have e0 := A2.out.bO.c1
        have e1 := A2.out.bO.fr 1
        clear ho hg
        go_wp2
        go_roundw
        case rel => exact ⟨j + 1, _, by omega, by go_num, Lib.hid (by rw [EQ.out]; exact F.out)⟩
        case measure => simp [intOf]; omega
    · obtain rfl : j = 60 := by omega
      have LN := Lib.hid (nI_length (rowsK S 60))
      have cO0 := SB.out.bO.c0
      have cO1 := SB.out.bO.c1
      have cR0 := SB.out.bR.c0
      have cR1 := SB.out.bR.c1
      have fR0 := SB.out.bR.fr 0
      have fR1 := SB.out.bR.fr 1
      obtain ⟨F1, F2, F3⟩ := SB.out.fin
      have F1 := Lib.hid F1
      have F2 := Lib.hid F2
      have F3 := Lib.hid F3
      go_wp2
      refine bodyPost_ret (results_cell_row rfl _ _ w.heap.size 26 _ (0, 0) _ rfl F1.out t2 rfl (by kernel_rfl)) rfl ?_
      refine ⟨_, rfl, ?_, F3.out⟩
      rw [← LN.out]
      exact F2.out
end Go.Proofs.YtdojblmffmefgaaDoor
