/-
  Joined: NIs, PTabE.
-/
import Derived.Test.YtnmilkehggjpfaaZBMil08
import Derived.Test.YtnmilkehggjpfaaZBMil10
import Derived.Deep.RegionHeld3
import Derived.Test.YtnmilkehggjpfaaZBMil01
section
namespace Go.Proofs.Ytnmilkehggjpfaa
open Go.RowKit
set_option linter.unusedVariables false
set_option maxRecDepth 100000

/-- The degree of an exponent list. -/
def dgL (xs : List Int) : Int := dgr (gOf xs) xs.length
def isE (xs : List Int) : Prop := okExp (gOf xs) xs.length
/-- An exponent list of a degree of at most 40. -/
def goodE (xs : List Int) : Prop := isE xs ∧ dgL xs ≤ 40
def stepM (X : Nat → List Int) (i : Nat) : Prop := goodE (X i) ∧ dgL (X i) = dgL (X 0)
/-- An element. -/
def okMl (X : Nat → List Int) (m : Nat) : Prop := okTerms X m ∧ ∀ i, i < m → stepM X i

/-- v reads as an exponent list of the degree x. -/
def DegE (w : World) (v : Value) (x : Int) : Prop := ∃ n G, RdI w v n G ∧ okExp G n ∧ dgr G n = x
theorem DegE.below {w w' : World} {v : Value} {x : Int} (h : DegE w v x) (k : Below w.heap.size w w') : DegE w' v x := by
  obtain ⟨n, G, h1, h2, h3⟩ := h
  exact ⟨n, G, h1.below k, h2, h3⟩
theorem DegE.drewN {w : World} {v : Value} {x : Int} (h : DegE w v x) (q : Nat) : DegE (w.drewN q) v x := h
theorem degE_list {w : World} {v : Value} {xs : List Int} (h : RdI w v xs.length (fun j => xs[j]?.getD 0)) (hw : isE xs) : DegE w v (dgL xs) :=
  ⟨_, _, h, hw, rfl⟩

theorem l01Degree_is {w : World} {v : Value} {x : Int} (h : Hid (DegE w v x)) (q : Nat) :
    Calls Try.prog 68 #[v] (w.drewN q) fun e w' => e = .returned (.int .i64 x) ∧ ∃ p, w' = (w.drewN q).drewN p := by
  obtain ⟨n, G, h1, h2, rfl⟩ := h.out
  exact (l01Degree_any v n G _ (h1.drewN q) h2.1).mono fun e w' ⟨he, hw⟩ => ⟨he, 0, hw.symm⟩
theorem degreeOf_is {w : World} {v : Value} {x : Int} (h : DegE w v x) :
    Calls Try.prog 89 #[v] w fun e w' => e = .returned (.tuple #[.int .i64 (dgV x), .int .i64 (dgC x)]) ∧ w = w' := by
  obtain ⟨n, G, h1, h2, rfl⟩ := h
  exact implDegree_ok v n G w h1 h2
theorem dgV_small {x : Int} (h : x ≤ 40) : dgV x = x := by unfold dgV; rw [if_neg (by omega)]
theorem dgC_small {x : Int} (h : x ≤ 40) : dgC x = 0 := by unfold dgC; rw [if_neg (by omega)]

theorem isZeroM_any (a : Option Addr) (m cap : Nat) (w : World) :
    Calls Try.prog 92 #[.agg #[.slice a m cap]] w fun e w' => e = .returned (.bool (decide (m = 0))) ∧ Below w.heap.size w w' := by
  have t2 := Try.underlying45
  have B0 : Hid (Below w.heap.size w (w.alloc (.cells #[.slice a m cap] 45))) := Lib.hid ((Below.refl w.heap.size w).alloc (Nat.le_refl _) _)
  by_cases h0 : m = 0
  · subst h0
    go_enter Try.func92, Try.ntmps92
    go_wp2
    go_ret
    exact ⟨rfl, B0.out⟩
  · have hz : ((m : Int) == 0) = false := by rw [beq_eq_false_iff_ne]; omega
    have hd : Hid (decide (m = 0) = false) := Lib.hid (decide_eq_false h0)
    rw [hd.out]
    clear h0 hd
    go_enter Try.func92, Try.ntmps92
    go_wp2
    go_ret
    exact ⟨rfl, B0.out⟩

/-- The degree: that of the first word. -/
theorem degreeM_any (a : Option Addr) (m cap : Nat) (x : Int) (w : World) (h0 : m = 0 → x = 0) (hx : x ≤ 40) (h1 : 0 < m → ∃ b off v, a = some ⟨b, off, none⟩ ∧ w.cell? ⟨b, off, none⟩ = some v ∧ DegE w v x) :
    Calls Try.prog 75 #[.agg #[.slice a m cap]] w fun e w' => e = .returned (.int .i64 x) ∧ Below w.heap.size w w' := by
  have t2 := Try.underlying45
  have B0 : Hid (Below w.heap.size w (w.alloc (.cells #[.slice a m cap] 45))) := Lib.hid ((Below.refl w.heap.size w).alloc (Nat.le_refl _) _)
  have BX : Hid (Box1 (w.alloc (.cells #[.slice a m cap] 45)) w.heap.size 45 (.slice a m cap)) := Lib.hid (Box1.new _ _ _)
  have Z := Lib.hid (isZeroM_any a m cap (w.alloc (.cells #[.slice a m cap] 45)))
  by_cases hm : m = 0
  · subst hm
    obtain rfl := h0 rfl
    clear h0 h1 BX
    go_enter Try.func75, Try.ntmps75
    go_wp2_with fail
    refine Z.out.mono ?_
    rintro e w2 ⟨rfl, b2⟩
    have B2 := Lib.hid (B0.out.trans (b2.mono B0.out.size))
    clear b2
    go_wp2_with fail
    go_ret
    exact ⟨rfl, B2.out⟩
  · obtain ⟨b, off, v, rfl, hc, hd⟩ := h1 (by omega)
    have hdz : decide (m = 0) = false := decide_eq_false hm
    rw [hdz] at Z
    have hp : (0 : Int) < (m : Int) := by omega
    have HC := Lib.hid hc
    have HD := Lib.hid hd
    clear h0 h1 hc hd hdz hm
    go_enter Try.func75, Try.ntmps75
    go_wp2_with fail
    refine Z.out.mono ?_
    rintro e w2 ⟨rfl, b2⟩
    have B2 := Lib.hid (B0.out.trans (b2.mono B0.out.size))
    have c1 := (BX.out.up b2).c
    have c2 : w2.cell? ⟨b, off, none⟩ = some v := (B2.out.cell (p := ⟨b, off, none⟩) (World.block_lt_of_cell? w _ HC.out)).trans HC.out
    have D2 := Lib.hid (HD.out.below B2.out)
    clear b2 BX Z
    go_wp2_with fail
    refine (by simpa only [dgV_small hx, dgC_small hx] using degreeOf_is D2.out : Calls Try.prog 89 #[v] w2 fun e w' => e = .returned (.tuple #[.int .i64 x, .int .i64 0]) ∧ w2 = w').mono ?_
    rintro e w3 ⟨rfl, rfl⟩
    go_wp2_with fail
    go_ret
    exact ⟨rfl, B2.out⟩

theorem l04Is_long (V : Value) (m : Nat) (X : Nat → List Int) (w : World) (h : RdSS w V m X) (hm : 2000 < m) :
    Calls Try.prog 65 #[.agg #[V]] w (SaysB false w) := by
  obtain ⟨⟨a, cap, rfl⟩, hsm, VS, hc, hr⟩ := h
  clear hc hr
  have t2 := Try.underlying45
  have hm' : (2000 : Int) < (m : Int) := by omega
  have B0 : Hid (Below w.heap.size w (w.alloc (.cells #[.slice a m cap] 45))) := Lib.hid ((Below.refl w.heap.size w).alloc (Nat.le_refl _) _)
  go_enter Try.func65, Try.ntmps65
  go_wp2
  go_ret
  exact ⟨rfl, B0.out⟩

theorem l04Is_wild (V : Value) (m : Nat) (X : Nat → List Int) (w : World) (h : RdSS w V m X) (hm : m ≤ 2000) (hasc : ¬ ∀ i, i < m → stepOk X i) :
    Calls Try.prog 65 #[.agg #[V]] w (SaysB false w) := by
  obtain ⟨a, cap, rfl⟩ := h.head
  have t2 := Try.underlying45
  have hm' : (m : Int) ≤ 2000 := by omega
  have B0 : Hid (Below w.heap.size w (w.alloc (.cells #[.slice a m cap] 45))) := Lib.hid ((Below.refl w.heap.size w).alloc (Nat.le_refl _) _)
  have A := Lib.hid (asc_no _ m X _ (h.below B0.out) hasc)
  clear h hasc
  go_enter Try.func65, Try.ntmps65
  go_wp2_with fail
  refine A.out.mono ?_
  rintro e w' ⟨rfl, q, rfl⟩
  go_wp2_with fail
  go_ret
  exact ⟨rfl, below_drewN B0.out q⟩

theorem l04Is_go (V : Value) (m z : Nat) (r : Bool) (X : Nat → List Int) (w : World) (h : RdSS w V m X) (hm : m ≤ 2000) (hasc : ∀ i, i < m → stepOk X i) (hz : z ≤ m) (hgood : ∀ i, i < z → stepM X i)
    (hend : (z = m ∧ r = true) ∨ (z < m ∧ ¬ stepM X z ∧ r = false)) :
    Calls Try.prog 65 #[.agg #[V]] w (SaysB r w) := by
  have h' := h
  obtain ⟨⟨a, cap, rfl⟩, hsm, VS, hc, hr⟩ := h
  have t2 := Try.underlying45
  have hm' : (m : Int) ≤ 2000 := by omega
  have B0 : Hid (Below w.heap.size w (w.alloc (.cells #[.slice a m cap] 45))) := Lib.hid ((Below.refl w.heap.size w).alloc (Nat.le_refl _) _)
  have BX : Hid (Box1 (w.alloc (.cells #[.slice a m cap] 45)) w.heap.size 45 (.slice a m cap)) := Lib.hid (Box1.new _ _ _)
  have A := Lib.hid (asc_yes _ m X _ (h'.below B0.out) hasc)
  have HR := Lib.hid (fun i hi => (hr i hi).below B0.out)
  have HO := Lib.hid hgood
  have HE := Lib.hid hend
  clear h' hasc hr hgood hend
  by_cases h0 : m = 0
  · subst h0
    obtain ⟨_, rfl⟩ := HE.out.resolve_right (fun h => by omega)
    clear hc HR HO HE BX
    go_enter Try.func65, Try.ntmps65
    go_wp2_with fail
    refine A.out.mono ?_
    rintro e w' ⟨rfl, q, rfl⟩
    go_wp2_with fail
    refine wp_loop_rounds 1 ?_
    rw [rounds_succ]
    go_wp2
    go_ret
    exact ⟨rfl, below_drewN B0.out q⟩
  · obtain ⟨b, off, ⟨cap', e⟩, hc'⟩ := hc.resolve_left h0
    cases e
    have hb : b < w.heap.size := World.block_lt_of_cell? w ⟨b, off + 0, none⟩ (hc' 0 (by omega))
    have HC : Hid (∀ i, i < m → (w.alloc (.cells #[.slice (some ⟨b, off, none⟩) m cap] 45)).cell? ⟨b, off + i, none⟩ = some (VS i)) := Lib.hid (fun i hi => (B0.out.cell (p := ⟨b, off + i, none⟩) hb).trans (hc' i hi))
    clear hc hc' hb
    go_enter Try.func65, Try.ntmps65
    go_wp2_with fail
    refine A.out.mono ?_
    rintro e w' ⟨rfl, q, rfl⟩
    clear A
    generalize (w.alloc (.cells #[.slice (some ⟨b, off, none⟩) m cap] 45)) = w1 at *
    go_wp2_with fail
    go_loopw [3] (fun c wr => ∃ k q : Nat, k ≤ z ∧ c = .int .i64 k ∧ Hid (wr = w1.drewN q)) (fun c _ => m - (intOf c).toNat)
    case atStart => exact ⟨0, q, by omega, rfl, Lib.hid rfl⟩
    case round =>
      obtain ⟨k, q, hk, rfl, hw⟩ := hrel
      have d0 : wr.cell? ⟨w.heap.size, 0, none⟩ = some (.slice (some ⟨b, off, none⟩) m cap) := by rw [hw.out]; exact BX.out.c
      by_cases hkm : k < m
      · have hlt' : (k : Int) < (m : Int) := by omega
        have hpm : (0 : Int) < (m : Int) := by omega
        obtain ⟨v1, hv1⟩ : ∃ v, v = VS k := ⟨_, rfl⟩
        obtain ⟨v2, hv2⟩ : ∃ v, v = VS 0 := ⟨_, rfl⟩
        have c1 : wr.cell? ⟨b, off + k, none⟩ = some v1 := by rw [hw.out, hv1]; exact HC.out k hkm
        have c2 : wr.cell? ⟨b, off, none⟩ = some v2 := by rw [hw.out, hv2]; exact HC.out 0 (by omega)
        have r1 : RdI wr v1 (X k).length (fun j => (X k)[j]?.getD 0) := by rw [hw.out, hv1]; exact HR.out k hkm
        have r2 : RdI wr v2 (X 0).length (fun j => (X 0)[j]?.getD 0) := by rw [hw.out, hv2]; exact HR.out 0 (by omega)
        have R1 := Lib.hid r1
        have R2 := Lib.hid r2
        clear hv1 hv2 r1 r2
        by_cases hwd : isE (X k)
        · have E1 : Hid (∀ n, Calls Try.prog 98 #[v1] (wr.drewN n) fun e w' => e = .returned (.bool true) ∧ ∃ p, w' = (wr.drewN n).drewN p) :=
            Lib.hid (fun n => (l01Exp_yes v1 _ _ _ (R1.out.drewN n) hwd).mono fun e w' ⟨he, hw⟩ => ⟨he, 0, hw.symm⟩)
          have p1 : Hid (DegE wr v1 (dgL (X k))) := Lib.hid (degE_list R1.out hwd)
          by_cases h40 : dgL (X k) ≤ 40
          · have hw0 : isE (X 0) := by
              by_cases e : k = 0
              · subst e; exact hwd
              · exact (HO.out 0 (by omega)).1.1
            have p2 : Hid (DegE wr v2 (dgL (X 0))) := Lib.hid (degE_list R2.out hw0)
            by_cases hlt : k < z
            · have hx := (HO.out k hlt).2
              rw [hx] at p1 h40
              generalize dgL (X 0) = x at p1 p2 h40
              have h40d : decide (40 < x) = false := decide_eq_false (by omega)
              clear h40
              clear R1 R2 hwd hw0 hx
              go_wp2_with fail
              go_quiet (first | (go_at_call 98; exact Calls.quiet_of (E1.out _)) | (go_at_call 68; exact Calls.quiet_of (l01Degree_is (by assumption) _)))
              go_wp2_with fail
              go_roundw
              case rel => exact ⟨k + 1, q + nq, by omega, by go_num, Lib.hid (by rw [hw.out]; exact World.drewN_drewN ..)⟩
              case measure => simp [intOf]; omega
            · obtain rfl : k = z := by omega
              obtain ⟨_, hbad, rfl⟩ := HE.out.resolve_left (fun h => by omega)
              have hx : (dgL (X k) != dgL (X 0)) = true := by
                rw [bne_iff_ne]
                exact fun e => hbad ⟨⟨hwd, h40⟩, e⟩
              generalize dgL (X 0) = x at p2 hx
              generalize dgL (X k) = y at p1 hx h40
              have h40d : decide (40 < y) = false := decide_eq_false (by omega)
              clear h40
              clear R1 R2 hwd hw0 hbad
              go_wp2_with fail
              go_quiet (first | (go_at_call 98; exact Calls.quiet_of (E1.out _)) | (go_at_call 68; exact Calls.quiet_of (l01Degree_is (by assumption) _)))
              go_wp2_with fail
              go_ret
              exact ⟨rfl, by rw [hw.out, World.drewN_drewN]; exact below_drewN B0.out _⟩
          · obtain rfl : k = z := by
              apply Decidable.byContradiction
              intro e
              exact h40 (HO.out k (by omega)).1.2
            obtain ⟨_, _, rfl⟩ := HE.out.resolve_left (fun h => by omega)
            have h40' : 40 < dgL (X k) := by omega
            generalize dgL (X k) = y at p1 h40 h40'
            clear R1 R2 hwd c2 h40
            go_wp2_with fail
            go_quiet (first | (go_at_call 98; exact Calls.quiet_of (E1.out _)) | (go_at_call 68; exact Calls.quiet_of (l01Degree_is (by assumption) _)))
            go_wp2_with fail
            go_ret
            exact ⟨rfl, by rw [hw.out, World.drewN_drewN]; exact below_drewN B0.out _⟩
        · obtain rfl : k = z := by
            apply Decidable.byContradiction
            intro e
            exact hwd (HO.out k (by omega)).1.1
          obtain ⟨_, _, rfl⟩ := HE.out.resolve_left (fun h => by omega)
          have E1 : Hid (∀ n, Calls Try.prog 98 #[v1] (wr.drewN n) fun e w' => e = .returned (.bool false) ∧ ∃ p, w' = (wr.drewN n).drewN p) :=
            Lib.hid (fun n => (l01Exp_no v1 _ _ _ (R1.out.drewN n) hwd).mono fun e w' ⟨he, hw⟩ => ⟨he, 0, hw.symm⟩)
          clear R1 R2 hwd
          go_wp2_with fail
          go_quiet ((go_at_call 98; exact Calls.quiet_of (E1.out _)))
          go_wp2_with fail
          go_ret
          exact ⟨rfl, by rw [hw.out, World.drewN_drewN]; exact below_drewN B0.out _⟩
      · obtain rfl : k = m := by omega
        obtain rfl : r = true := by
          rcases HE.out with ⟨_, h⟩ | ⟨h, _⟩
          · exact h
          · omega
        go_wp2_with fail
        go_ret
        exact ⟨rfl, by rw [hw.out]; exact below_drewN B0.out _⟩
end Go.Proofs.Ytnmilkehggjpfaa
end
section
namespace Go.Proofs.Ytnmilkehggjpfaa
set_option maxRecDepth 100000
set_option linter.unusedVariables false

/-- One step of the counter. -/
def advG : List (Nat × Nat) → Tab → Tab
  | [], T => T
  | p :: ps, T => if 0 < T p.1 0 / 2 ^ p.2 ∧ 0 < T 0 p.2 then mv p.1 p.2 1 T else advG ps (mv p.1 p.2 (-T p.1 p.2) T)
/-- All tables, in the counter's order. -/
def allE : List (Nat × Nat) → Tab → List Tab
  | [], T => [T]
  | p :: ps, T => (allE ps T).flatMap fun y => (List.range (mx p y + 1)).map fun v : Nat => mv p.1 p.2 (v : Int) y

/-- f leads each one to the next one, and the last one to z. -/
def Steps {α : Type} (f : α → α) : List α → α → Prop
  | [], _ => True
  | [a], z => f a = z
  | a :: b :: l, z => f a = b ∧ Steps f (b :: l) z
theorem Steps.append {α : Type} {f : α → α} {z : α} : ∀ (l : List α) (b : α) (l' : List α), Steps f l b → Steps f (b :: l') z → Steps f (l ++ b :: l') z
  | [], _, _, _, h => h
  | [a], b, l', h1, h2 => ⟨h1, h2⟩
  | a :: c :: l, b, l', h1, h2 => ⟨h1.1, Steps.append (c :: l) b l' h1.2 h2⟩

theorem mv_add {i j : Nat} (hi : 0 < i) (hj : 0 < j) (a b : Int) (T : Tab) : mv i j a (mv i j b T) = mv i j (a + b) T := by
  have e0 : mv i j b T i j = T i j + b := by unfold mv; rw [if_pos ⟨rfl, rfl⟩]
  have e1 := mv_edge_r hi hj b T i
  have e2 := mv_edge_c hi hj b T j
  rw [if_pos rfl] at e1 e2
  have hm : (a + b) * 2 ^ j = a * 2 ^ j + b * 2 ^ j := Int.add_mul a b _
  funext x y
  show (if x = i ∧ y = j then mv i j b T i j + a else if x = i ∧ y = 0 then mv i j b T i 0 - a * 2 ^ j else if x = 0 ∧ y = j then mv i j b T 0 j - a else mv i j b T x y) = mv i j (a + b) T x y
  rw [e0, e1, e2]
  unfold mv
  by_cases h1 : x = i ∧ y = j
  · rw [if_pos h1, if_pos h1]; omega
  · rw [if_neg h1, if_neg h1]
    by_cases h2 : x = i ∧ y = 0
    · rw [if_pos h2, if_pos h2]; omega
    · rw [if_neg h2, if_neg h2]
      by_cases h3 : x = 0 ∧ y = j
      · rw [if_pos h3, if_pos h3]; omega
      · rw [if_neg h3, if_neg h3, if_neg h1, if_neg h2, if_neg h3]
theorem mv_at {i j : Nat} (n : Int) (T : Tab) : mv i j n T i j = T i j + n := by unfold mv; rw [if_pos ⟨rfl, rfl⟩]
theorem mv_off {p q : Nat × Nat} (hq : inP q) (hne : p ≠ q) (n : Int) (T : Tab) : mv p.1 p.2 n T q.1 q.2 = T q.1 q.2 := by
  obtain ⟨i, j⟩ := p
  obtain ⟨k, l⟩ := q
  obtain ⟨h1, h2⟩ := hq
  simp only at h1 h2 ⊢
  unfold mv
  rw [if_neg (fun e => hne (by rw [e.1, e.2])), if_neg (by omega), if_neg (by omega)]

/-- The counter may count on at a place. -/
theorem can_iff {p : Nat × Nat} (hp : inP p) {T : Tab} (h : okT T) {v : Nat} (hv : v ≤ mx p T) : (0 < mv p.1 p.2 (v : Int) T p.1 0 / 2 ^ p.2 ∧ 0 < mv p.1 p.2 (v : Int) T 0 p.2) ↔ v < mx p T := by
  have k := mv_ok hp h hv
  have e : v < mx p T ↔ v + 1 ≤ mx p T := Iff.rfl
  rw [e, le_mx h (v + 1)]
  have e1 : 0 < mv p.1 p.2 (v : Int) T p.1 0 / 2 ^ p.2 ↔ 1 * 2 ^ p.2 ≤ mv p.1 p.2 (v : Int) T p.1 0 := by
    rw [← Int.le_ediv_iff_mul_le (pow_pos' p.2)]
    exact Iff.rfl
  rw [e1, mv_edge_r hp.1 hp.2, mv_edge_c hp.1 hp.2, if_pos rfl, if_pos rfl]
  have e2 : ((v + 1 : Nat) : Int) * 2 ^ p.2 = (v : Int) * 2 ^ p.2 + 1 * 2 ^ p.2 := by rw [← Int.add_mul]; rfl
  rw [e2]
  constructor
  · rintro ⟨a, b⟩; exact ⟨by omega, by omega⟩
  · rintro ⟨a, b⟩; exact ⟨by omega, by omega⟩

/-- One block of the counter. -/
theorem block_steps (p : Nat × Nat) (hp : inP p) (ps : List (Nat × Nat)) (y : Tab) (hy : okT y) (h0 : y p.1 p.2 = 0) :
    ∀ k v, v + k = mx p y → Steps (advG (p :: ps)) ((List.range' v (k + 1)).map fun v : Nat => mv p.1 p.2 (v : Int) y) (advG ps y)
  | 0, v, h => by
    have hv : v ≤ mx p y := by omega
    show advG (p :: ps) (mv p.1 p.2 (v : Int) y) = advG ps y
    rw [advG, if_neg (by rw [can_iff hp hy hv]; omega), mv_at, h0, mv_add hp.1 hp.2, show -(0 + (v : Int)) + (v : Int) = 0 by omega, mv_zero]
  | k + 1, v, h => by
    have hv : v ≤ mx p y := by omega
    refine ⟨?_, block_steps p hp ps y hy h0 k (v + 1) (by omega)⟩
    rw [advG, if_pos ((can_iff hp hy hv).2 (by omega)), mv_add hp.1 hp.2]
    congr 1 <;> omega
theorem block_steps0 (p : Nat × Nat) (hp : inP p) (ps : List (Nat × Nat)) (y : Tab) (hy : okT y) (h0 : y p.1 p.2 = 0) :
    Steps (advG (p :: ps)) ((List.range (mx p y + 1)).map fun v : Nat => mv p.1 p.2 (v : Int) y) (advG ps y) := by
  rw [List.range_eq_range']
  exact block_steps p hp ps y hy h0 (mx p y) 0 (by omega)
theorem block_head (p : Nat × Nat) (y : Tab) : ∃ l, ((List.range (mx p y + 1)).map fun v : Nat => mv p.1 p.2 (v : Int) y) = y :: l := by
  rw [List.range_succ_eq_map, List.map_cons]
  exact ⟨_, by rw [show ((0 : Nat) : Int) = 0 from rfl, mv_zero]⟩

theorem blocks_steps (p : Nat × Nat) (hp : inP p) (ps : List (Nat × Nat)) (z : Tab) : ∀ (L : List Tab), (∀ y ∈ L, okT y ∧ y p.1 p.2 = 0) → Steps (advG ps) L z →
    Steps (advG (p :: ps)) (L.flatMap fun y => (List.range (mx p y + 1)).map fun v : Nat => mv p.1 p.2 (v : Int) y) z
  | [], _, _ => trivial
  | [y], h, hs => by
    have := block_steps0 p hp ps y (h y List.mem_cons_self).1 (h y List.mem_cons_self).2
    rw [show advG ps y = z from hs] at this
    simpa using this
  | y :: y' :: l, h, hs => by
    have h1 := block_steps0 p hp ps y (h y List.mem_cons_self).1 (h y List.mem_cons_self).2
    rw [hs.1] at h1
    have h2 := blocks_steps p hp ps z (y' :: l) (fun u hu => h u (List.mem_cons_of_mem _ hu)) hs.2
    obtain ⟨b, hb⟩ := block_head p y'
    rw [List.flatMap_cons]
    have e : ((y' :: l).flatMap fun y => (List.range (mx p y + 1)).map fun v : Nat => mv p.1 p.2 (v : Int) y) = y' :: (b ++ l.flatMap fun y => (List.range (mx p y + 1)).map fun v : Nat => mv p.1 p.2 (v : Int) y) := by
      rw [List.flatMap_cons, hb, List.cons_append]
    rw [e] at h2 ⊢
    exact Steps.append _ _ _ h1 h2

/-- What all the tables have in common. -/
theorem allE_ok : ∀ (ps : List (Nat × Nat)) (T : Tab), (∀ p ∈ ps, inP p) → okT T → ∀ y ∈ allE ps T, okT y ∧ ∀ q, inP q → q ∉ ps → y q.1 q.2 = T q.1 q.2
  | [], T, _, hT, y, hy => by rw [List.mem_singleton.1 hy]; exact ⟨hT, fun _ _ _ => rfl⟩
  | p :: ps, T, hin, hT, y, hy => by
    obtain ⟨u, hu, hy⟩ := List.mem_flatMap.1 hy
    obtain ⟨v, hv, rfl⟩ := List.mem_map.1 hy
    obtain ⟨h1, h2⟩ := allE_ok ps T (fun q hq => hin q (List.mem_cons_of_mem _ hq)) hT u hu
    have hv' := List.mem_range.1 hv
    refine ⟨mv_ok (hin p List.mem_cons_self) h1 (by omega), fun q hq hn => ?_⟩
    rw [mv_off hq (fun e => hn (by rw [e]; exact List.mem_cons_self))]
    exact h2 q hq fun h => hn (List.mem_cons_of_mem _ h)

/-- The counter goes through all tables and comes back. -/
theorem allE_steps : ∀ (ps : List (Nat × Nat)) (T : Tab), (∀ p ∈ ps, inP p) → ps.Nodup → okT T → (∀ p ∈ ps, T p.1 p.2 = 0) → Steps (advG ps) (allE ps T) T
  | [], T, _, _, _, _ => rfl
  | p :: ps, T, hin, hn, hT, h0 => by
    obtain ⟨n1, n2⟩ := List.nodup_cons.1 hn
    have ih := allE_steps ps T (fun q hq => hin q (List.mem_cons_of_mem _ hq)) n2 hT fun q hq => h0 q (List.mem_cons_of_mem _ hq)
    refine blocks_steps p (hin p List.mem_cons_self) ps T _ (fun y hy => ?_) ih
    obtain ⟨k1, k2⟩ := allE_ok ps T (fun q hq => hin q (List.mem_cons_of_mem _ hq)) hT y hy
    exact ⟨k1, by rw [k2 p (hin p List.mem_cons_self) n1, h0 p List.mem_cons_self]⟩
/-- The first one, and the others, which have something at a place. -/
theorem allE_head : ∀ (ps : List (Nat × Nat)) (T : Tab), (∀ p ∈ ps, inP p) → ps.Nodup → okT T → (∀ p ∈ ps, T p.1 p.2 = 0) → ∃ l, allE ps T = T :: l ∧ ∀ y ∈ l, ∃ p ∈ ps, y p.1 p.2 ≠ 0
  | [], T, _, _, _, _ => ⟨[], rfl, fun y hy => by cases hy⟩
  | p :: ps, T, hin, hn, hT, h0 => by
    obtain ⟨n1, n2⟩ := List.nodup_cons.1 hn
    have hp := hin p List.mem_cons_self
    obtain ⟨l, e, hl⟩ := allE_head ps T (fun q hq => hin q (List.mem_cons_of_mem _ hq)) n2 hT fun q hq => h0 q (List.mem_cons_of_mem _ hq)
    have e0 : allE (p :: ps) T = T :: (((List.range (mx p T)).map fun v : Nat => mv p.1 p.2 ((v + 1 : Nat) : Int) T) ++ l.flatMap fun y => (List.range (mx p y + 1)).map fun v : Nat => mv p.1 p.2 (v : Int) y) := by
      rw [allE, e, List.flatMap_cons, List.range_succ_eq_map, List.map_cons, show ((0 : Nat) : Int) = 0 from rfl, mv_zero, List.map_map, List.cons_append]
      rfl
    refine ⟨_, e0, fun y hy => ?_⟩
    rcases List.mem_append.1 hy with hy | hy
    · obtain ⟨v, _, rfl⟩ := List.mem_map.1 hy
      exact ⟨p, List.mem_cons_self, by rw [mv_at, h0 p List.mem_cons_self]; omega⟩
    · obtain ⟨u, hu, hy⟩ := List.mem_flatMap.1 hy
      obtain ⟨v, _, rfl⟩ := List.mem_map.1 hy
      obtain ⟨q, hq, hne⟩ := hl u hu
      exact ⟨q, List.mem_cons_of_mem _ hq, by rw [mv_off (hin q (List.mem_cons_of_mem _ hq)) (fun e => n1 (by rw [e]; exact hq))]; exact hne⟩

/-! ### Sums over the counter's tables -/
def sumE (c : Tab → Nat) (L : List Tab) : Nat := (L.map c).sum
theorem sum_range (f : Nat → Nat) : ∀ n, ((List.range n).map f).sum = sumR f n
  | 0 => rfl
  | n + 1 => by rw [List.range_succ, List.map_append, List.sum_append, sum_range f n, sumR]; simp
theorem sumE_flat (c : Tab → Nat) (B : Tab → List Tab) : ∀ L : List Tab, sumE c (L.flatMap B) = sumE (fun y => sumE c (B y)) L
  | [] => rfl
  | y :: l => by
    have := sumE_flat c B l
    unfold sumE at this ⊢
    rw [List.flatMap_cons, List.map_append, List.sum_append, this]
    rfl
theorem sumT_snoc (c : Tab → Nat) (p : Nat × Nat) : ∀ (qs : List (Nat × Nat)) (T : Tab), sumT c (qs ++ [p]) T = sumT (fun y => sumR (fun v => c (mv p.1 p.2 (v : Int) y)) (mx p y + 1)) qs T
  | [], T => rfl
  | q :: qs, T => sumR_congr _ fun v _ => sumT_snoc c p qs _
theorem sumE_all : ∀ (ps : List (Nat × Nat)) (c : Tab → Nat) (T : Tab), sumE c (allE ps T) = sumT c ps.reverse T
  | [], c, T => by simp [sumE, allE, sumT]
  | p :: ps, c, T => by
    rw [allE, sumE_flat, List.reverse_cons, sumT_snoc, ← sumE_all ps]
    unfold sumE
    congr 1
    refine List.map_congr_left fun y _ => ?_
    rw [List.map_map, ← sum_range]
    rfl
end Go.Proofs.Ytnmilkehggjpfaa
end
