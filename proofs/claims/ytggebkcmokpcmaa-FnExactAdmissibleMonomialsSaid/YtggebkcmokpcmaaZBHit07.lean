/-
  Joined: YBase, SBase, WIn, WWord.
-/
import Derived.Test.YtggebkcmokpcmaaZBHit06
import Derived.Test.YtggebkcmokpcmaaZBHit05
import Derived.Test.YtggebkcmokpcmaaRows
import Derived.Test.YtggebkcmokpcmaaZBHit01
import Derived.WalkLawsBesides
import Derived.WalkSpells
import Derived.Test.YtggebkcmokpcmaaZBHit02
import Derived.BigRegion
section
namespace Go.Proofs.Ytggebkcmokpcmaa
open Go.RowKit
set_option linter.unusedVariables false
set_option maxRecDepth 100000

theorem toPoly_any (k : Int) (V : Value) (m : Nat) (X : Nat → List Int) (w : World) (hm : m ≤ 1048576) (hX : ∀ i, i < m → (X i).length ≤ 1048576) (h : RdSS w V m X) :
    Calls Try.prog 18 #[.agg #[.int .i64 k, V]] w fun e w' => ∃ U US, e = .returned (.agg #[.int .i64 k, U]) ∧ Fam w' w.heap.size U m US X ∧ Below w.heap.size w w' ∧ Sep m US := by
  have H := Lib.hid h
  have HX := Lib.hid hX
  clear h hX
  have t1 := Try.underlying27
  have t2 := Try.underlying31
  go_enter Try.func18, Try.ntmps18
  go_wp2_with fail
  have W1 : ∃ w1, w1 = (((w.alloc (.cells #[.int .i64 k, V] 27)).alloc (.cells #[.int .i64 0, .slice none 0 0] 31)).alloc (.cells #[.int .i64 k, .slice none 0 0] 31)) := ⟨_, rfl⟩
  obtain ⟨w1, hw1⟩ := W1
  have B0 : Hid (Below w.heap.size w w1) := Lib.hid (by rw [hw1]; exact (((Below.refl w.heap.size w).alloc (Nat.le_refl _) _).alloc (by simp) _).alloc (by simp; omega) _)
  have b1 : Hid (Box w1 (w.heap.size + 1) 31 (.int .i64 0) (.slice none 0 0)) := Lib.hid (by rw [hw1]; have := (Box.new (w.alloc (.cells #[.int .i64 k, V] 27)) 31 (.int .i64 0) (.slice none 0 0)).alloc (.cells #[.int .i64 k, .slice none 0 0] 31); simpa using this)
  have b2 : Hid (Box w1 (w.heap.size + 1 + 1) 31 (.int .i64 k) (.slice none 0 0)) := Lib.hid (by rw [hw1]; have := Box.new ((w.alloc (.cells #[.int .i64 k, V] 27)).alloc (.cells #[.int .i64 0, .slice none 0 0] 31)) 31 (.int .i64 k) (.slice none 0 0); simpa using this)
  have hs : Hid (w1.heap.size = w.heap.size + 3) := Lib.hid (by rw [hw1]; simp)
  have R := Lib.hid (H.out.below B0.out)
  rw [← hw1]
  clear hw1
  refine (toSS_any V m X w1 hm HX.out R.out).mono ?_
  rintro e w2 ⟨U, US, rfl, ho, hb, hsp⟩
  obtain ⟨ua, ucap, rfl, _⟩ := ho.head
  have D1 := Lib.hid (b1.out.up hb)
  have D2 := Lib.hid (b2.out.up hb)
  have c10 := D1.out.c0
  have c11 := D1.out.c1
  have c20 := D2.out.c0
  have c21 := D2.out.c1
  have f10 := D1.out.fr 0
  have f11 := D1.out.fr 1
  have f21 := D2.out.fr 1
  have HO := Lib.hid ho
  have HS := Lib.hid hsp
  have HB := Lib.hid (B0.out.trans (hb.mono B0.out.size))
  clear ho hb hsp
  go_wp2
  have E1 := ((D1.out.other ⟨w.heap.size + 1 + 1, 1, none⟩ (.slice ua m ucap) (by simp)).set0 (.int .i64 k)).set1 (.slice ua m ucap)
  refine bodyPost_ret (results_cell_row rfl _ _ (w.heap.size + 1) 31 _ (0, 0) _ rfl E1 t2 rfl (by kernel_rfl)) rfl ?_
  have hb3 := ((HB.out.setCell (p := ⟨w.heap.size + 1 + 1, 1, none⟩) (by simp; omega) (.slice ua m ucap)).setCell (p := ⟨w.heap.size + 1, 0, none⟩) (by simp) (.int .i64 k)).setCell (p := ⟨w.heap.size + 1, 1, none⟩) (by simp) (.slice ua m ucap)
  refine ⟨_, US, rfl, ?_, hb3, HS.out⟩
  refine (Fam.same HO.out fun g hg hlt => ?_).base (by have := hs.out; omega)
  have := hs.out
  rw [heap_setCell_other _ _ _ _ (by simp; omega), heap_setCell_other _ _ _ _ (by simp; omega), heap_setCell_other _ _ _ _ (by simp; omega)]

theorem szPoly_yes (k : Int) (V : Value) (m : Nat) (X : Nat → List Int) (left : Nat) (w : World) (h : RdSS w V m X) (hl : left ≤ 1048576) (hm : m + tot X m ≤ left) :
    Calls Try.prog 16 #[.agg #[.int .i64 k, V], .int .i64 (left : Int)] w fun e w' => e = .returned (.int .i64 ((left : Int) - ((m + tot X m : Nat) : Int))) ∧ Below w.heap.size w w' := by
  have B0 : Hid (Below w.heap.size w (w.alloc (.cells #[.int .i64 k, V] 27))) := Lib.hid ((Below.refl w.heap.size w).alloc (Nat.le_refl _) _)
  have SZ := Lib.hid (szSS_any V m X left _ (h.below B0.out) hl hm)
  have t1 := Try.underlying27
  have hge : ¬ (left : Int) - ((m + tot X m : Nat) : Int) < 0 := by omega
  generalize (left : Int) - ((m + tot X m : Nat) : Int) = lf at SZ hge
  clear h
  go_enter Try.func16, Try.ntmps16
  go_wp2_with fail
  refine SZ.out.mono ?_
  rintro e w' ⟨rfl, rfl⟩
  go_wp2_with fail
  go_ret
  exact ⟨rfl, B0.out⟩
theorem szPoly_over (k : Int) (V : Value) (m : Nat) (X : Nat → List Int) (left : Nat) (w : World) (h : RdSS w V m X) (hl : left ≤ 1048576) (hm : left < m + tot X m) :
    Calls Try.prog 16 #[.agg #[.int .i64 k, V], .int .i64 (left : Int)] w fun e w' => e = .returned (.int .i64 (-1)) ∧ Below w.heap.size w w' := by
  have B0 : Hid (Below w.heap.size w (w.alloc (.cells #[.int .i64 k, V] 27))) := Lib.hid ((Below.refl w.heap.size w).alloc (Nat.le_refl _) _)
  have SZ := Lib.hid (szSS_over V m X left _ (h.below B0.out) hl hm)
  have t1 := Try.underlying27
  clear h
  go_enter Try.func16, Try.ntmps16
  go_wp2_with fail
  refine SZ.out.mono ?_
  rintro e w' ⟨rfl, rfl⟩
  go_wp2_with fail
  go_ret
  exact ⟨rfl, B0.out⟩

theorem eqPoly_same (k : Int) (U1 U2 : Value) (m : Nat) (B1 B2 : Nat) (VA VB : Nat → Value) (X : Nat → List Int) (w : World) (h1 : Fam w B1 U1 m VA X) (h2 : Fam w B2 U2 m VB X) :
    Calls Try.prog 20 #[.agg #[.int .i64 k, U1], .agg #[.int .i64 k, U2]] w fun e w' => e = .returned (.bool true) ∧ Below w.heap.size w w' := by
  have t2 := Try.underlying31
  obtain ⟨a1, q1, rfl, _⟩ := h1.head
  obtain ⟨a2, q2, rfl, _⟩ := h2.head
  have B0 : Hid (Below w.heap.size w ((w.alloc (.cells #[.int .i64 k, .slice a1 m q1] 31)).alloc (.cells #[.int .i64 k, .slice a2 m q2] 31))) := Lib.hid (((Below.refl w.heap.size w).alloc (Nat.le_refl _) _).alloc (by simp) _)
  have E := Lib.hid (fun q : Nat => eqInt64SS_same _ _ m B1 B2 VA VB X _ (Fam.drewN (h1.below B0.out) q) (Fam.drewN (h2.below B0.out) q))
  clear h1 h2
  go_enter Try.func20, Try.ntmps20
  go_wp2_with fail
  refine (E.out 0).mono ?_
  rintro e w' ⟨rfl, q, rfl⟩
  go_wp2_with fail
  go_ret
  exact ⟨rfl, below_drewN B0.out _⟩

theorem markPoly_from (c : Int) (k0 : Int) (hk0 : 0 ≤ k0) (U : Value) (m : Nat) (B : Nat) (VS : Nat → Value) (Y : Nat → List Int) (w : World) (h : Fam w B U m VS Y) (hs : Sep m VS) (hB : B ≤ w.heap.size)
    (hk : off k0 (fun i => (Y i).length) m ≤ 1152921504606846976) :
    Calls Try.prog 28 #[.agg #[.int .i64 c, U], .int .i64 k0] w fun e w' => e = .returned (.int .i64 (off k0 (fun i => (Y i).length) m)) ∧ Fam w' B U m VS (mkd k0 Y m) ∧ Below B w w' ∧ MRestK m VS w w' := by
  have t2 := Try.underlying31
  have b0 : Below w.heap.size w (w.alloc (.cells #[.int .i64 c, U] 31)) := (Below.refl _ w).alloc (Nat.le_refl _) _
  have M := Lib.hid (markSS_from k0 hk0 U m B VS Y _ (h.below b0) hs hk)
  have B0 : Hid (Below B w (w.alloc (.cells #[.int .i64 c, U] 31))) := Lib.hid (b0.mono hB)
  generalize off k0 (fun i => (Y i).length) m = kk at M ⊢
  clear h hs b0 hk
  go_enter Try.func28, Try.ntmps28
  go_wp2_with fail
  refine M.out.mono ?_
  rintro e w' ⟨rfl, hF, hb, hr⟩
  have HF := Lib.hid hF
  have HB := Lib.hid (B0.out.trans hb)
  have HR := Lib.hid hr.box
  clear hF hb hr
  go_wp2_with fail
  go_ret
  exact ⟨rfl, HF.out, HB.out, HR.out⟩

theorem heldPoly_own (c : Int) (U : Value) (m : Nat) (B : Nat) (VS : Nat → Value) (Y : Nat → List Int) (w : World) (h : Fam w B U m VS (mkd 1 Y m))
    (hk : off 1 (fun i => (Y i).length) m ≤ 1152921504606846976) :
    Calls Try.prog 29 #[.agg #[.int .i64 c, U], .int .i64 1] w fun e w' => e = .returned (.int .i64 (off 1 (fun i => (Y i).length) m)) ∧ Below w.heap.size w w' := by
  have t2 := Try.underlying31
  have b0 : Below w.heap.size w (w.alloc (.cells #[.int .i64 c, U] 31)) := (Below.refl _ w).alloc (Nat.le_refl _) _
  have M := Lib.hid (heldInt64SS_own U m B VS Y _ (h.below b0) hk)
  have B0 := Lib.hid b0
  have hge : ¬ off 1 (fun i => (Y i).length) m < 0 := by rw [off_any]; omega
  generalize off 1 (fun i => (Y i).length) m = kk at M hge ⊢
  clear h b0 hk
  go_enter Try.func29, Try.ntmps29
  go_wp2_with fail
  refine M.out.mono ?_
  rintro e w' ⟨rfl, rfl⟩
  go_wp2_with fail
  go_ret
  exact ⟨rfl, B0.out⟩

/-- A struct Poly and a number as results, the struct in a cell of two. -/
theorem results_box2_tmp {fn : Func} {p u : Tmp} {t : TypeId} (h : fn.results = #[.cell p t, .tmp u]) (tmps : Array Value) (w : World) (g : Nat) (x y : Value) (fs : Array Field)
    (hp : tmps.getD p undef = .pointer (some ⟨g, 0, none⟩)) (hg : Box w g t x y)
    (hu : Try.prog.underlying t = some (.struct fs)) (hi : (Try.prog.info? t).map (·.size) = some 2) :
    (results fn tmps).run Try.prog w = .ok (.tuple #[.agg #[x, y], tmps.getD u undef]) w := by
  rw [results_cell_tmp h, hp]
  have := run_loadVar_row (P := Try.prog) w g t t #[x, y] (0, 0) (.struct fs) hg hu rfl hi
  show ((loadVar t ⟨g, 0, none⟩).run Try.prog w).andThen _ = _
  rw [this]
  rfl

/-- What returns a polynomial and a code. -/
def ResY (k : Int) (L : List (List Int)) (cd : Int) (w : World) (e : Ending) (w' : World) : Prop :=
  ∃ V VS, e = .returned (.tuple #[.agg #[.int .i64 k, V], .int .i64 cd]) ∧ FamL w' w.heap.size V VS L ∧ Sep L.length VS ∧ Below w.heap.size w w'
end Go.Proofs.Ytggebkcmokpcmaa
end
section
namespace Go.Proofs.Ytggebkcmokpcmaa
open Go.RowKit
set_option linter.unusedVariables false
set_option maxRecDepth 100000

end Go.Proofs.Ytggebkcmokpcmaa
end
section
namespace Go.Proofs.Ytggebkcmokpcmaa
open Go.RowKit
set_option maxRecDepth 100000

theorem l01In_yes (n a b : Int) (w : World) (h0 : a ≤ n) (h1 : n ≤ b) :
    Calls Try.prog 64 #[.int .i64 n, .int .i64 a, .int .i64 b] w fun e w' => e = .returned (.bool true) ∧ w = w' := by
  go_enter Try.func64, Try.ntmps64
  go_wp2
  go_ret
  exact ⟨rfl, rfl⟩

theorem l01In_no (n a b : Int) (w : World) (h : n < a ∨ b < n) :
    Calls Try.prog 64 #[.int .i64 n, .int .i64 a, .int .i64 b] w fun e w' => e = .returned (.bool false) ∧ w = w' := by
  by_cases h0 : a ≤ n
  · have h1 : ¬ n ≤ b := by omega
    clear h
    go_enter Try.func64, Try.ntmps64
    go_wp2
    go_ret
    exact ⟨rfl, rfl⟩
  · clear h
    go_enter Try.func64, Try.ntmps64
    go_wp2
    go_ret
    exact ⟨rfl, rfl⟩
end Go.Proofs.Ytggebkcmokpcmaa
end
section
namespace Go.Proofs.Ytggebkcmokpcmaa
open Go.RowKit
set_option maxRecDepth 100000
set_option linter.unusedVariables false

/-- The sum of the first j integers. -/
def dsum (G : Nat → Int) : Nat → Int
  | 0 => 0
  | j + 1 => dsum G j + G j

/-- A step of a word: so far it is one. -/
def stepW (G : Nat → Int) (i : Nat) : Prop := 1 ≤ G i ∧ dsum G (i + 1) ≤ 40
/-- A word of n integers. -/
def okWord (G : Nat → Int) (n : Nat) : Prop := n ≤ 20 ∧ ∀ i, i < n → stepW G i

theorem first_bad0 (P : Nat → Prop) (n : Nat) (h : ¬ ∀ i, i < n → P i) : ∃ i, i < n ∧ ¬ P i ∧ ∀ j, j < i → P j := by
  induction n with
  | zero => exact absurd (fun i hi => absurd hi (Nat.not_lt_zero _)) h
  | succ n ih =>
    by_cases h1 : ∀ i, i < n → P i
    · refine ⟨n, Nat.lt_succ_self _, fun hp => h fun i hi => ?_, h1⟩
      by_cases e : i = n
      · subst e; exact hp
      · exact h1 i (by omega)
    · obtain ⟨i, a, b, c⟩ := ih h1
      exact ⟨i, by omega, b, c⟩

theorem dsum_pos (G : Nat → Int) (i : Nat) (h : ∀ j, j < i → 1 ≤ G j) : (i : Int) ≤ dsum G i := by
  induction i with
  | zero => exact Int.le_refl _
  | succ i ih =>
    have h1 := ih (fun j hj => h j (by omega))
    have h2 := h i (by omega)
    rw [dsum]
    omega
theorem dsum_mono (G : Nat → Int) (i j : Nat) (h : ∀ k, k < i + j → 1 ≤ G k) : dsum G i ≤ dsum G (i + j) := by
  induction j with
  | zero => exact Int.le_refl _
  | succ j ih =>
    have h1 := ih (fun k hk => h k (by omega))
    have h2 := h (i + j) (by omega)
    rw [← Nat.add_assoc, dsum]
    omega
theorem dsum_low (G : Nat → Int) (i n : Nat) (hi : i ≤ n) (h : ∀ j, j < n → 1 ≤ G j) : 0 ≤ dsum G i ∧ dsum G i ≤ dsum G n := by
  have h1 := dsum_pos G i (fun j hj => h j (by omega))
  have h2 := dsum_mono G i (n - i) (fun k hk => h k (by omega))
  rw [show i + (n - i) = n by omega] at h2
  omega
/-- A word's integers and sums. -/
theorem okWord.nums {G : Nat → Int} {n : Nat} (h : okWord G n) : ∀ i, i ≤ n → 0 ≤ dsum G i ∧ dsum G i ≤ 40 := by
  intro i hi
  have h1 := dsum_pos G i (fun j hj => (h.2 j (by omega)).1)
  cases i with
  | zero => exact ⟨Int.le_refl _, by rw [dsum]; decide⟩
  | succ i => exact ⟨by omega, (h.2 i (by omega)).2⟩
theorem okWord.le {G : Nat → Int} {n : Nat} (h : okWord G n) (i : Nat) (hi : i < n) : 1 ≤ G i ∧ G i ≤ 40 := by
  have h1 := h.nums i (by omega)
  have h2 := h.2 i hi
  unfold stepW at h2
  rw [dsum] at h2
  omega
theorem okWord_of (G : Nat → Int) (n : Nat) (hn : n ≤ 20) (h1 : ∀ i, i < n → 1 ≤ G i) (h2 : dsum G n ≤ 40) : okWord G n :=
  ⟨hn, fun i hi => ⟨h1 i hi, by have := (dsum_low G (i + 1) n hi h1).2; omega⟩⟩

/-- The sum as the program has it. -/
theorem degreeOfWord_any (v : Value) (n : Nat) (G : Nat → Int) (w : World) (h : RdI w v n G) (hok : ∀ i, i ≤ n → 0 ≤ dsum G i ∧ dsum G i ≤ 1000000) :
    Calls Try.prog 82 #[v] w fun e w' => e = .returned (.int .i64 (dsum G n)) ∧ w = w' := by
  obtain ⟨a, cap, rfl, hm, hc⟩ := h
  unfold maxLen at hm
  by_cases h0 : n = 0
  · subst h0
    clear hc hok
    go_enter Try.func82, Try.ntmps82
    go_wp2
    refine wp_loop_rounds 1 ?_
    rw [rounds_succ]
    go_wp2
    go_ret
    exact ⟨rfl, rfl⟩
  · obtain ⟨b, off, rfl, hc'⟩ := hc.resolve_left h0
    have HC := Lib.hid hc'
    have HO := Lib.hid hok
    clear hc hc' h0 hok
    go_enter Try.func82, Try.ntmps82
    go_wp2
    go_loop [3, 5, 8] (fun l _ c => ∃ j : Nat, j ≤ n ∧ c = .int .i64 j ∧ l = .int .i64 (dsum G j)) (fun _ _ c => n - (intOf c).toNat)
    case atStart => exact ⟨0, by omega, rfl, rfl⟩
    case round =>
      obtain ⟨j, hj, rfl, rfl⟩ := hrel
      by_cases hlt : j < n
      · have hlt' : (j : Int) < (n : Int) := by omega
        have c1 := HC.out j hlt
        have h1 := HO.out j (by omega)
        have h2 := HO.out (j + 1) (by omega)
        have hs : Hid (dsum G (j + 1) = dsum G j + G j) := Lib.hid rfl
        rw [hs.out] at h2
        generalize dsum G j = y at *
        generalize G j = x at *
        go_wp2
        go_round
        case rel => exact ⟨j + 1, by omega, by go_num, by rw [hs.out]⟩
        case measure => simp [intOf]; omega
      · obtain rfl : j = n := by omega
        generalize hy : dsum G j = y
        have HY := Lib.hid hy
        clear hy
        go_wp2
        go_ret
        exact ⟨by rw [HY.out]; rfl, rfl⟩

theorem l03Degree_any (v : Value) (n : Nat) (G : Nat → Int) (w : World) (h : RdI w v n G) (hok : ∀ i, i ≤ n → 0 ≤ dsum G i ∧ dsum G i ≤ 1000000) :
    Calls Try.prog 91 #[v] w fun e w' => e = .returned (.int .i64 (dsum G n)) ∧ w = w' := by
  obtain ⟨a, cap, rfl, hm, hc⟩ := h
  unfold maxLen at hm
  by_cases h0 : n = 0
  · subst h0
    clear hc hok
    go_enter Try.func91, Try.ntmps91
    go_wp2
    refine wp_loop_rounds 1 ?_
    rw [rounds_succ]
    go_wp2
    go_ret
    exact ⟨rfl, rfl⟩
  · obtain ⟨b, off, rfl, hc'⟩ := hc.resolve_left h0
    have HC := Lib.hid hc'
    have HO := Lib.hid hok
    clear hc hc' h0 hok
    go_enter Try.func91, Try.ntmps91
    go_wp2
    go_loop [3, 4] (fun l c => ∃ j : Nat, j ≤ n ∧ c = .int .i64 j ∧ l = .int .i64 (dsum G j)) (fun _ c => n - (intOf c).toNat)
    case atStart => exact ⟨0, by omega, rfl, rfl⟩
    case round =>
      obtain ⟨j, hj, rfl, rfl⟩ := hrel
      by_cases hlt : j < n
      · have hlt' : (j : Int) < (n : Int) := by omega
        have c1 := HC.out j hlt
        have h1 := HO.out j (by omega)
        have h2 := HO.out (j + 1) (by omega)
        have hs : Hid (dsum G (j + 1) = dsum G j + G j) := Lib.hid rfl
        rw [hs.out] at h2
        generalize dsum G j = y at *
        generalize G j = x at *
        go_wp2
        go_round
        case rel => exact ⟨j + 1, by omega, by go_num, by rw [hs.out]⟩
        case measure => simp [intOf]; omega
      · obtain rfl : j = n := by omega
        generalize hy : dsum G j = y
        have HY := Lib.hid hy
        clear hy
        go_wp2
        go_ret
        exact ⟨by rw [HY.out]; rfl, rfl⟩

/-- Its integers lie in 1 .. 40. -/
def okRange (G : Nat → Int) (i : Nat) : Prop := 1 ≤ G i ∧ G i ≤ 40
theorem dsum_range (G : Nat → Int) (n i : Nat) (hi : i ≤ n) (h : ∀ j, j < n → okRange G j) : 0 ≤ dsum G i ∧ dsum G i ≤ 40 * (i : Int) := by
  induction i with
  | zero => exact ⟨Int.le_refl _, by rw [dsum]; decide⟩
  | succ i ih =>
    have h1 := ih (by omega)
    have h2 := h i (by omega)
    unfold okRange at h2
    rw [dsum]
    omega

end Go.Proofs.Ytggebkcmokpcmaa
end
