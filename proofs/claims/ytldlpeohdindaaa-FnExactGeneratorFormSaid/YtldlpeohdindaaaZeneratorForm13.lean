/-
  Joined: GConcat, GGen.
-/
import Derived.Test.YtldlpeohdindaaaZeneratorForm12
import Derived.Lib.AppendZeros
section
namespace Go.Proofs.Ytldlpeohdindaaa
open Go.RowKit
set_option linter.unusedVariables false
set_option maxRecDepth 100000

theorem grow_nil (n : Nat) (w : World) (hn : n ≤ 1000) :
    Calls Try.prog 74 #[.slice none 0 0, .int .i64 n] w fun e w' => ∃ u, e = .returned u ∧ w'.ownsRow w.heap.size 2 1 u 0 [] ∧ Below w.heap.size w w' := by
  obtain ⟨i0, hi, hz0, hz1, hz2⟩ := info_parts Try.info2
  by_cases h0 : n = 0
  · subst h0
    go_enter Try.func74, Try.ntmps74
    go_wp2_with fail
    go_ret
    exact ⟨_, rfl, World.ownsRow_nil _ _ _ _, Below.refl _ _⟩
  · have h1 : ¬ (n : Int) < 0 := by omega
    have h2 : (0 : Int) < (n : Int) := by omega
    have hw : IntKind.i64.wrap (n : Int) = (n : Int) := by rw [IntKind.wrap_i64]; omega
    obtain ⟨cp, hcp⟩ : ∃ cp, grownCap w n 0 2 = cp := ⟨_, rfl⟩
    have HR := Lib.run_append_nil_zeros (P := Try.prog) w 46 3 46 2 i0 (.int .i64 0) .i64 .i64 Try.underlying46 Try.underlying3 hi hz0 n (by omega) (by omega) (by omega) (by rw [hz2]; omega)
    have hge := grownCap_ge w n 0 2
    have hle := grownCap_le_maxLen w n 0 2 (by unfold maxLen; omega)
    rw [hcp] at HR hge hle
    obtain ⟨C, hC⟩ : ∃ C, Builtin.zeroCells (Value.int .i64 0).cells n ++ Builtin.zeroCells (Value.int .i64 0).cells (cp - n) = C := ⟨_, rfl⟩
    have hs : C.size = cp * 1 := by rw [← hC, Array.size_append, size_zeroCells, size_zeroCells]; show n * 1 + (cp - n) * 1 = cp * 1; omega
    rw [hC] at HR
    have HR := Lib.hid HR
    have OW := Lib.hid (World.ownsRow_made (base := w.heap.size) (e := 2) (size := 1) w.drew C cp (Nat.le_refl _) hle hs)
    have BW : Hid (Below w.heap.size w (w.drew.alloc (.cells C 2))) := Lib.hid ((Below.refl _ w).drew.alloc (Nat.le_refl _) _)
    clear hC hs hcp hi hz0 hz1 hz2
    have hcp0 : 0 ≤ cp := Nat.zero_le _
    go_enter Try.func74, Try.ntmps74
    go_wp2_with (at_builtin; refine Lib.wpList_append_run _ rfl _ _ _ _ rfl _ _ rfl rfl _ _ HR.out ?_)
    go_ret
    exact ⟨_, rfl, OW.out, BW.out⟩

/-- The two rows. -/
theorem concat_two (g : Nat) (x y : List Int) (vx vy : Value) (w : World) (hx : RdN w vx x) (hy : RdN w vy y) (c0 : w.cell? ⟨g, 0, none⟩ = some vx) (c1 : w.cell? ⟨g, 1, none⟩ = some vy) (lx : x.length ≤ 100) (ly : y.length ≤ 100) :
    Calls Try.prog 58 #[.slice (some ⟨g, 0, none⟩) 2 2] w fun e w' => ∃ u, e = .returned u ∧ w'.ownsRow w.heap.size 2 1 u (x ++ y).length ((x ++ y).map (Value.int .i64)) ∧ Below w.heap.size w w' := by
  have RX := Lib.hid hx
  have RY := Lib.hid hy
  have C0 := Lib.hid c0
  have C1 := Lib.hid c1
  obtain ⟨ax, cx, rfl, _, _⟩ := id hx
  obtain ⟨ay, cy, rfl, _, _⟩ := id hy
  have GR := Lib.hid (grow_nil (x.length + y.length) w (by omega))
  have hw1 : IntKind.i64.wrap (x.length : Int) = (x.length : Int) := by rw [IntKind.wrap_i64]; omega
  have hw2 : IntKind.i64.wrap ((x.length : Int) + (y.length : Int)) = (x.length : Int) + (y.length : Int) := by rw [IntKind.wrap_i64]; omega
  have hn1 : ¬ (x.length : Int) < 0 := by omega
  have hn2 : ¬ (x.length : Int) + (y.length : Int) < 0 := by omega
  clear hx hy
  go_enter Try.func58, Try.ntmps58
  go_wp2_with fail
  refine wp_loop_rounds 3 ?_
  rw [rounds_succ]
  go_wp2_with fail
  rw [rounds_succ]
  go_wp2_with fail
  rw [rounds_succ]
  go_wp2_with fail
  have hcast : (x.length : Int) + (y.length : Int) = ((x.length + y.length : Nat) : Int) := by omega
  rw [hcast]
  refine GR.out.mono ?_
  rintro e w1 ⟨u, rfl, ou, b1⟩
  have OU := Lib.hid ou
  have B1 := Lib.hid b1
  have d0 := (b1.cell (p := ⟨g, 0, none⟩) (World.block_lt_of_cell? w _ C0.out)).trans C0.out
  have SX := Lib.hid (RX.out.src b1)
  clear ou b1 hcast GR c0 c1 hn1 hn2 hw1 hw2
  go_wp2_with fail
  refine wp_loop_rounds 3 ?_
  rw [rounds_succ]
  go_wp2_with (at_builtin; refine wpList_ints w1 rfl _ _ rfl w.heap.size 0 u [] rfl OU.out ax x.length cx (x.map (Value.int .i64)) rfl SX.out (by simp) (one_ints x) (by omega) B1.out.size ?_; intro v2 w2 ho2 hg2; have O2 : Hid (w2.ownsRow w.heap.size 2 1 v2 x.length (x.map (Value.int .i64))) := Lib.hid (by simpa using ho2); have B2 := Lib.hid (B1.out.grown hg2 B1.out.size (fun q hq => (OU.out.lt q hq).1)); clear ho2 hg2)
  have d1 := (B2.out.cell (p := ⟨g, 1, none⟩) (World.block_lt_of_cell? w _ C1.out)).trans C1.out
  have SY := Lib.hid (RY.out.src B2.out)
  clear d0
  rw [rounds_succ]
  go_wp2_with (at_builtin; refine wpList_ints w2 rfl _ _ rfl w.heap.size x.length v2 (x.map (Value.int .i64)) rfl O2.out ay y.length cy (y.map (Value.int .i64)) rfl SY.out (by simp) (one_ints y) (by omega) B2.out.size ?_; intro v3 w3 ho3 hg3; have O3 : Hid (w3.ownsRow w.heap.size 2 1 v3 (x ++ y).length ((x ++ y).map (Value.int .i64))) := Lib.hid (by simpa using ho3); have B3 := Lib.hid (B2.out.grown hg3 B2.out.size (fun q hq => (O2.out.lt q hq).1)); clear ho3 hg3)
  rw [rounds_succ]
  go_wp2_with fail
  go_ret
  exact ⟨v3, rfl, O3.out, B3.out⟩
end Go.Proofs.Ytldlpeohdindaaa
end
section
namespace Go.Proofs.Ytldlpeohdindaaa
open Go.RowKit
set_option linter.unusedVariables false
set_option maxRecDepth 100000

/-- What is summed when the places below j are done. -/
def GT (n b a j : Nat) : List (List Int) := jn (gen a) [[(b : Int)]] ++ ((jsTo (b : Int) (a : Int) j).filter fun j => decide (0 < j)).flatMap fun j => jn (gen (n - j.toNat)) (gen j.toNat)
theorem GT_one (n b a : Nat) : GT n b a 1 = jn (gen a) [[(b : Int)]] := by
  have h : (jsTo (b : Int) (a : Int) 1).filter (fun j => decide (0 < j)) = [] := List.filter_eq_nil_iff.2 fun y hy => by have := jsTo_mem hy; simp; omega
  unfold GT
  rw [h, List.flatMap_nil, List.append_nil]
theorem GT_yes (n b a j : Nat) (hj : 1 ≤ j) (h : bpar ((b : Int).toNat - j - 1) ((a : Int).toNat - 2 * j) = 1) : GT n b a (j + 1) = GT n b a j ++ jn (gen (n - j)) (gen j) := by
  unfold GT
  rw [jsTo_yes _ _ _ h, List.filter_append, List.filter_cons_of_pos (by simp; omega), List.filter_nil, List.flatMap_append, List.flatMap_cons, List.flatMap_nil, List.append_nil, List.append_assoc, Int.toNat_natCast]
theorem GT_no (n b a j : Nat) (h : bpar ((b : Int).toNat - j - 1) ((a : Int).toNat - 2 * j) ≠ 1) : GT n b a (j + 1) = GT n b a j := by
  unfold GT
  rw [jsTo_no _ _ _ h]
theorem GT_all (n : Nat) (h1 : 1 ≤ n) (h2 : n ≤ 20) (hn : n ≠ pw n) : GT n (pw n) (n - pw n) ((n - pw n) / 2 + 1) = gen n := by
  rw [gen_rec n (by omega) h1 hn]
  unfold GT jsp
  have := jsTo_all ((pw n : Nat) : Int) ((n - pw n : Nat) : Int)
  rw [Int.toNat_natCast] at this
  rw [this]
theorem jn_mem {A C : List (List Int)} {y : List Int} (h : y ∈ jn A C) : ∃ x ∈ A, ∃ z ∈ C, y = x ++ z := by
  obtain ⟨x, hx, hy⟩ := List.mem_flatMap.1 h
  obtain ⟨z, hz, rfl⟩ := List.mem_map.1 hy
  exact ⟨x, hx, z, hz, rfl⟩
theorem jn_len (A C : List (List Int)) : (jn A C).length = A.length * C.length := by
  induction A with
  | nil => simp [jn]
  | cons x A ih => show (C.map _ ++ jn A C).length = _; rw [List.length_append, List.length_map, ih, List.length_cons, Nat.succ_mul, Nat.add_comm]
theorem GT_short (n b a j : Nat) (h2 : n ≤ 20) (ha : 1 ≤ a ∧ a < n) (hj : j ≤ a / 2 + 1) : ∀ y ∈ GT n b a j, y.length ≤ 12 := by
  intro y hy
  rcases List.mem_append.1 hy with hy | hy
  · obtain ⟨x, hx, z, hz, rfl⟩ := jn_mem hy
    have := ((gen_facts a (by omega) ha.1).2 x hx).1
    rw [List.mem_singleton.1 hz, List.length_append]
    simp
    omega
  · obtain ⟨k, hk, hy⟩ := List.mem_flatMap.1 hy
    obtain ⟨hk1, hk2⟩ := List.mem_filter.1 hk
    have := jsTo_mem hk1
    have hk0 : 0 < k := by simpa using hk2
    obtain ⟨x, hx, z, hz, rfl⟩ := jn_mem hy
    have e1 := ((gen_facts (n - k.toNat) (by omega) (by omega)).2 x hx).1
    have e2 := ((gen_facts k.toNat (by omega) (by omega)).2 z hz).1
    rw [List.length_append]
    omega
/-- A sum's list that reads as gen m. -/
theorem gen_few {m : Nat} (h1 : 1 ≤ m) (h2 : m ≤ 20) {zs : List (List Int)} (hn : zs.Nodup) (hm : ∀ y, y ∈ zs ↔ par (gen m) y) : zs.length ≤ 5 ∧ ∀ i, (rowsOf zs i).length ≤ 6 := by
  obtain ⟨f1, f2⟩ := gen_facts m (by omega) h1
  have hs : ∀ y ∈ zs, y ∈ gen m := fun y hy => par_mem _ _ ((hm y).1 hy)
  refine ⟨Nat.le_trans (nodup_len _ _ hn hs) f1, fun i => ?_⟩
  unfold rowsOf
  by_cases hi : i < zs.length
  · rw [List.getElem?_eq_getElem hi]; exact (f2 _ (hs _ (List.getElem_mem hi))).1
  · rw [List.getElem?_eq_none (by omega)]; exact Nat.zero_le _
theorem mrg_len {xs ys : List (List Int)} (hx : Asc xs) (hy : Asc ys) : (mrg xs ys).length ≤ xs.length + ys.length := by
  obtain ⟨h1, h2⟩ := mrg_spec xs ys hx hy
  have := nodup_len (mrg xs ys) (xs ++ ys) h1.nodup fun z hz => List.mem_append.2 ((h2 z).1 hz |>.elim (fun h => .inl h.1) fun h => .inr h.2)
  rwa [List.length_append] at this
theorem rows_short {zs T : List (List Int)} {l : Nat} (hm : ∀ y, y ∈ zs ↔ par T y) (hT : ∀ y ∈ T, y.length ≤ l) (i : Nat) : (rowsOf zs i).length ≤ l := by
  unfold rowsOf
  by_cases hi : i < zs.length
  · rw [List.getElem?_eq_getElem hi]; exact hT _ (par_mem _ _ ((hm _).1 (List.getElem_mem hi)))
  · rw [List.getElem?_eq_none (by omega)]; exact Nat.zero_le _

/-- The literal list of one word of one letter. -/
theorem lit_one (w w0 : World) (b : Int) (hw : w0.heap.size ≤ w.heap.size) (hb : Below w0.heap.size w0 w) : LSt 0 0 [[b]] w0 (.slice (some ⟨w.heap.size + 1, 0, none⟩) 1 1) (fun _ => .slice (some ⟨w.heap.size, 0, none⟩) 1 1) [[b]] ((w.alloc (.cells #[.int .i64 b] 2)).alloc (.cells #[.slice (some ⟨w.heap.size, 0, none⟩) 1 1] 46)) := by
  have b1 : Below w0.heap.size w0 (w.alloc (.cells #[.int .i64 b] 2)) := hb.alloc hw _
  refine ⟨⟨?_, fun i hi => ?_⟩, fun i j hi hj hne => absurd (by simp at hi hj; omega) hne, List.pairwise_singleton _ _, fun x => ?_, b1.alloc (by simp; omega) _⟩
  · have := World.ownsRow_lit (base := w0.heap.size) (e := 46) (size := 1) (w.alloc (.cells #[.int .i64 b] 2)) #[.slice (some ⟨w.heap.size, 0, none⟩) 1 1] 1 (by simp; omega) (by unfold maxLen; omega) rfl
    simpa using this
  · have h0 : i = 0 := by simp at hi; omega
    subst h0
    have := World.ownsRow_lit (base := w0.heap.size) (e := 2) (size := 1) w #[.int .i64 b] 1 hw (by unfold maxLen; omega) rfl
    exact World.ownsRow.alloc (by simpa [rowsOf] using this) _
  · rw [par_nodup [[b]] (by simp)]

theorem LSt.rebase {T T' : List (List Int)} {w w2 w3 : World} {U : Value} {US : Nat → Value} {zs : List (List Int)} (h : LSt 0 0 T w2 U US zs w3) (hT : ∀ y, par T y ↔ par T' y) (b : Below w.heap.size w w2) : LSt 0 0 T' w U US zs w3 :=
  ⟨Fam.base h.fam b.size, h.sep, h.asc, fun x => (h.mem x).trans (hT x), b.trans (h.bel.mono b.size)⟩
theorem LSt.par_own {T : List (List Int)} {w w3 : World} {U : Value} {US : Nat → Value} {zs : List (List Int)} (h : LSt 0 0 T w U US zs w3) (y : List Int) : par zs y ↔ par T y := by rw [par_nodup zs h.asc.nodup, h.mem]
def isP (b : Int) : Prop := b = 1 ∨ b = 2 ∨ b = 4 ∨ b = 8 ∨ b = 16
theorem isP_pw {n : Nat} {b : Int} (h : isP b) (h1 : b ≤ n) (h2 : n < 2 * b) (h3 : n ≤ 20) : b = (pw n : Int) := by
  unfold isP at h
  unfold pw
  rcases h with rfl | rfl | rfl | rfl | rfl <;> (repeat' split) <;> omega

set_option maxHeartbeats 2000000 in
theorem gens_any : ∀ n : Nat, 1 ≤ n → n ≤ 20 → ∀ w : World, Calls Try.prog 16 #[.int .i64 n] w (FormPost (gen n) w) := by
  intro n
  induction n using Nat.strongRecOn with
  | _ n ih =>
  intro h1 h20 w
  have IH := Lib.hid ih
  clear ih
  have hn20 : (n : Int) ≤ 20 := by omega
  have hn1 : 1 ≤ (n : Int) := by omega
  go_enter Try.func16, Try.ntmps16
  go_wp2_with fail
  go_loopw [3] (fun c wr => ∃ b : Int, c = .int .i64 b ∧ isP b ∧ b ≤ n ∧ wr = w) (fun c _ => n - (intOf c).toNat)
  case atStart => exact ⟨1, rfl, .inl rfl, hn1, rfl⟩
  case round =>
    obtain ⟨b0, rfl, hb0, hbn, rfl⟩ := hrel
    have hb16 : 1 ≤ b0 ∧ b0 ≤ 16 := by unfold isP at hb0; omega
    have hw2 : IntKind.i64.wrap (2 * b0) = 2 * b0 := by rw [IntKind.wrap_i64]; omega
    by_cases hle : 2 * b0 ≤ (n : Int)
    · go_wp2_with fail
      go_roundw
      case rel => exact ⟨2 * b0, rfl, by unfold isP at hb0 ⊢; omega, hle, trivial⟩
      case measure => simp [intOf]; omega
    · obtain rfl := isP_pw hb0 hbn (by omega) h20
      clear hb0 hbn hb16
      rename World => w
      obtain ⟨p1, p2, p3⟩ := pw_lt h1 h20
      have p4 := pw_16 n
      have G1 := fun h => gen_one n (by omega) h1 h
      have GA := GT_all n h1 h20
      have HGA := Lib.hid GA
      have HG1 := Lib.hid G1
      clear GA G1
      generalize pw n = b at *
      have hwa : IntKind.i64.wrap ((n : Int) - (b : Int)) = (n : Int) - (b : Int) := by rw [IntKind.wrap_i64]; omega
      by_cases h0 : n = b
      · have LT := Lib.hid (lit_one w w (n : Int) (Nat.le_refl _) (Below.refl _ _))
        have e0 : (n : Int) - (b : Int) = 0 := by omega
        have HG : Hid (gen n = [[(n : Int)]]) := Lib.hid (HG1.out h0)
        rw [e0] at hwa
        clear h0 p1 p2 p3 HG1 HGA
        go_wp2_with fail
        go_ret
        exact ⟨_, _, _, rfl, by rw [HG.out]; exact LT.out⟩
      · obtain ⟨a, ha⟩ : ∃ a, n - b = a := ⟨_, rfl⟩
        have e1 : (n : Int) - (b : Int) = (a : Int) := by omega
        have hne : ¬ (a : Int) = 0 := by omega
        have ha1 : 1 ≤ a ∧ a < n := by omega
        have HALL : Hid (GT n b a (a / 2 + 1) = gen n) := Lib.hid (by have := HGA.out h0; rw [ha] at this; exact this)
        have IA := Lib.hid (IH.out a ha1.2 ha1.1 (by omega) w)
        have hab : a < b := by omega
        rw [e1] at hwa
        clear ha h0 HGA HG1 p2 p3
        go_wp2_with fail
        refine IA.out.mono ?_
        rintro e w1 ⟨U1, US1, zs1, rfl, L1⟩
        have LT := Lib.hid (lit_one w1 w1 (b : Int) (Nat.le_refl _) (Below.refl _ _))
        obtain ⟨q1, q2⟩ := gen_few ha1.1 (by omega) L1.asc.nodup L1.mem
        have JN := Lib.hid (l03Join_any U1 _ zs1 [[(b : Int)]] _ (Fam.rdr (L1.fam.below LT.out.bel)) (Fam.rdr LT.out.fam) (by omega) (by simp) (fun i => by have := q2 i; omega) (fun i => by
          rcases i with _ | i
          · simp [rowsOf]
          · simp [rowsOf]))
        have HL1 := Lib.hid L1
        have B2 := Lib.hid (L1.bel.trans (LT.out.bel.mono L1.bel.size))
        clear IA L1 LT q2
        go_wp2_with fail
        refine JN.out.mono ?_
        rintro e w3 ⟨U3, US3, zs3, rfl, L3⟩
        have S3 : Hid (LSt 0 0 (GT n b a 1) w U3 US3 zs3 w3) := Lib.hid (by rw [GT_one]; exact L3.rebase (fun y => par_jn HL1.out.par_own (fun z => Iff.rfl) y) B2.out)
        have Z3 : zs3.length ≤ 25 := by
          have := nodup_len zs3 (jn zs1 [[(b : Int)]]) L3.asc.nodup fun y hy => par_mem _ _ ((L3.mem y).1 hy)
          rw [jn_len] at this
          simp at this
          omega
        clear JN L3 HL1 B2 q1
        go_wp2_with fail
        go_loopw [5, 6] (fun S c wr => ∃ (j : Nat) (US : Nat → Value) (zs : List (List Int)), 1 ≤ j ∧ j ≤ a / 2 + 1 ∧ c = .int .i64 j ∧ zs.length ≤ 25 * j ∧ Hid (LSt 0 0 (GT n b a j) w S US zs wr)) (fun _ c _ => a + 1 - (intOf c).toNat)
        case atStart => exact ⟨1, US3, zs3, Nat.le_refl _, by omega, rfl, by omega, S3⟩
        case round =>
          clear S3 Z3
          rename World => w4
          obtain ⟨j, US, zs, hj1, hj, rfl, hz, hS⟩ := hrel
          by_cases hj2 : 2 * j ≤ a
          · have hj2' : 2 * (j : Int) ≤ (a : Int) := by omega
            obtain ⟨p, hp⟩ : ∃ p : Nat, (b : Int) - (j : Int) - 1 = (p : Int) := ⟨b - j - 1, by omega⟩
            obtain ⟨q, hq⟩ : ∃ q : Nat, (a : Int) - 2 * (j : Int) = (q : Int) := ⟨a - 2 * j, by omega⟩
            obtain ⟨c, hc⟩ : ∃ c : Nat, (n : Int) - (j : Int) = (c : Int) := ⟨n - j, by omega⟩
            have P := Lib.hid (l01Parity_in p q w4 (by omega) (by omega))
            have k1 : IntKind.i64.wrap (2 * (j : Int)) = 2 * (j : Int) := by rw [IntKind.wrap_i64]; omega
            have k2 : IntKind.i64.wrap ((b : Int) - (j : Int)) = (b : Int) - (j : Int) := by rw [IntKind.wrap_i64]; omega
            have k3 : IntKind.i64.wrap ((b : Int) - (j : Int) - 1) = (p : Int) := by rw [IntKind.wrap_i64]; omega
            have k4 : IntKind.i64.wrap ((a : Int) - 2 * (j : Int)) = (q : Int) := by rw [IntKind.wrap_i64]; omega
            have k5 : IntKind.i64.wrap ((n : Int) - (j : Int)) = (c : Int) := by rw [IntKind.wrap_i64]; omega
            have ep : bpar p q = bpar ((b : Int).toNat - j - 1) ((a : Int).toNat - 2 * j) := by
              rw [show p = (b : Int).toNat - j - 1 by omega, show q = (a : Int).toNat - 2 * j by omega]
            have hcn : c = n - j := by omega
            by_cases hb1 : bpar p q = 1
            · have GY := Lib.hid (GT_yes n b a j hj1 (by rw [← ep]; exact hb1))
              rw [← hcn] at GY
              have IC := Lib.hid (IH.out c (by omega) (by omega) (by omega) w4)
              have IJ := Lib.hid (fun wx => IH.out j (by omega) hj1 (by omega) wx)
              have FC := Lib.hid (show 1 ≤ c ∧ c ≤ 20 from ⟨by omega, by omega⟩)
              rw [hb1] at P
              have GS := Lib.hid (GT_short n b a j h20 ha1 hj)
              have GC : Hid (∀ y ∈ jn (gen c) (gen j), y.length ≤ 12) := Lib.hid fun y hy => by
                obtain ⟨x, hx, z, hz, rfl⟩ := jn_mem hy
                have e1 := ((gen_facts c (by omega) (by omega)).2 x hx).1
                have e2 := ((gen_facts j (by omega) (by omega)).2 z hz).1
                rw [List.length_append]; omega
              have hj20 : j ≤ 20 := by omega
              clear hp hq hc ep hcn hb1
              go_wp2_with fail
              refine P.out.mono ?_
              rintro e w5 ⟨rfl, rfl⟩
              go_wp2_with fail
              refine IC.out.mono ?_
              rintro e w6 ⟨U6, US6, zs6, rfl, L6⟩
              have HL6 := Lib.hid L6
              have S6 := Lib.hid (hS.out.up L6.bel)
              clear L6 IC P
              go_wp2_with fail
              refine (IJ.out w6).mono ?_
              rintro e w7 ⟨U7, US7, zs7, rfl, L7⟩
              have S7 := Lib.hid (S6.out.up L7.bel)
              obtain ⟨r1, r2⟩ := gen_few FC.out.1 FC.out.2 HL6.out.asc.nodup HL6.out.mem
              obtain ⟨r3, r4⟩ := gen_few hj1 hj20 L7.asc.nodup L7.mem
              have JN := Lib.hid (l03Join_any U6 U7 zs6 zs7 w7 (Fam.rdr (HL6.out.fam.below L7.bel)) (Fam.rdr L7.fam) (by omega) (by omega) (fun i => by have := r2 i; omega) (fun i => by have := r4 i; omega))
              have PJ : Hid (∀ y, par (jn zs6 zs7) y ↔ par (jn (gen c) (gen j)) y) := Lib.hid fun y => par_jn HL6.out.par_own L7.par_own y
              have HLN : zs6.length * zs7.length ≤ 25 := Nat.le_trans (Nat.mul_le_mul r1 r3) (by omega)
              clear IJ S6 L7 HL6 r1 r2 r3 r4
              go_wp2_with fail
              refine JN.out.mono ?_
              rintro e w8 ⟨U8, US8, zs8, rfl, L8⟩
              have S8 := Lib.hid (S7.out.up L8.bel)
              have Z8 : zs8.length ≤ 25 := by
                have := nodup_len zs8 (jn zs6 zs7) L8.asc.nodup fun y hy => par_mem _ _ ((L8.mem y).1 hy)
                rw [jn_len] at this
                omega
              have A8 := Lib.hid L8.asc
              have M8 : Hid (∀ y, y ∈ zs8 ↔ par (jn (gen c) (gen j)) y) := Lib.hid fun y => (L8.mem y).trans (PJ.out y)
              have R8 := rows_short S8.out.mem GS.out
              have R9 := rows_short M8.out GC.out
              have SM := Lib.hid (l01Sum_any _ U8 zs.length zs8.length (rowsOf zs) (rowsOf zs8) US US8 w.heap.size w7.heap.size w8 S8.out.fam L8.fam (by omega) (by omega) (fun i _ => by have := R8 i; omega) (fun i _ => by have := R9 i; omega))
              rw [rowsL_of, rowsL_of] at SM
              have ML := mrg_len S8.out.asc L8.asc
              clear JN S7 L8 HLN PJ R8 R9
              go_wp2_with fail
              refine SM.out.mono ?_
              rintro e w9 ⟨V9, VS9, rfl, f9, s9, b9⟩
              have S9 := Lib.hid (S8.out.add A8.out M8.out (Fam.base f9 S8.out.bel.size) s9 (S8.out.bel.trans (b9.mono S8.out.bel.size)))
              clear f9 s9 b9 SM S8
              go_wp2_with fail
              go_roundw
              case rel => exact ⟨j + 1, VS9, mrg zs zs8, by omega, by omega, by go_num, by omega, Lib.hid (by rw [GY.out]; exact S9.out)⟩
              case measure => simp [intOf]; omega
            · have GN := Lib.hid (GT_no n b a j (by rw [← ep]; exact hb1))
              have hb0 : bpar p q = 0 := by unfold bpar at hb1 ⊢; split <;> simp_all
              rw [hb0] at P
              clear hp hq hc ep hcn hb1 hb0
              go_wp2_with fail
              refine P.out.mono ?_
              rintro e w5 ⟨rfl, rfl⟩
              go_wp2_with fail
              go_roundw
              case rel => exact ⟨j + 1, US, zs, by omega, by omega, by go_num, by omega, Lib.hid (by rw [GN.out]; exact hS.out)⟩
              case measure => simp [intOf]; omega
          · obtain rfl : j = a / 2 + 1 := by omega
            rw [HALL.out] at hS
            have hj3 : ¬ 2 * (((a / 2 + 1 : Nat) : Int)) ≤ (a : Int) := by omega
            have k1 : IntKind.i64.wrap (2 * ((a / 2 + 1 : Nat) : Int)) = 2 * ((a / 2 + 1 : Nat) : Int) := by rw [IntKind.wrap_i64]; omega
            generalize a / 2 + 1 = j at *
            go_wp2_with fail
            go_ret
            exact ⟨_, US, zs, rfl, hS.out⟩
end Go.Proofs.Ytldlpeohdindaaa
end
