/-
  Joined: SBox, WIn, WSmall, WMulti.
-/
import Derived.Test.YtnmilkehggjpfaaZBMil06
import Derived.Test.YtnmilkehggjpfaaZBMil03
import Derived.BigRegion
import Derived.Laws.ResultCell
import Derived.Test.YtnmilkehggjpfaaRows
import Derived.Test.YtnmilkehggjpfaaZBMil01
import Derived.WalkLawsBesides
import Derived.WalkSpells
import Derived.Test.YtnmilkehggjpfaaZBMil02
section
namespace Go.Proofs.Ytnmilkehggjpfaa
open Go.RowKit
set_option linter.unusedVariables false
set_option maxRecDepth 100000

/-- Block g holds one cell. -/
def Box1 (w : World) (g : Nat) (t : TypeId) (x : Value) : Prop := w.heap[g]? = some (.cells #[x] t (0, 0))
section
variable {w w' : World} {g : Nat} {t : TypeId} {x : Value}
theorem Box1.lt (h : Box1 w g t x) : g < w.heap.size := (Array.getElem?_eq_some_iff.1 h).1
theorem Box1.c (h : Box1 w g t x) : w.cell? ⟨g, 0, none⟩ = some x := cell_of_row w g 0 _ _ (0, 0) h
theorem Box1.fr (h : Box1 w g t x) (i : Nat) : w.frozen? ⟨g, i, none⟩ = false := by unfold Box1 at h; simp [World.frozen?, h]
theorem Box1.new (w : World) (t : TypeId) (x : Value) : Box1 (w.alloc (.cells #[x] t)) w.heap.size t x := heap_alloc_new w _
theorem Box1.alloc (h : Box1 w g t x) (o : Obj) : Box1 (w.alloc o) g t x := (heap_alloc_old w o h.lt).trans h
theorem Box1.below {B : Nat} (h : Box1 w g t x) (k : Below B w w') (hg : g < B) : Box1 w' g t x := (k.block g hg).trans h
theorem Box1.up (h : Box1 w g t x) (k : Below w.heap.size w w') : Box1 w' g t x := h.below k h.lt
theorem Box1.drewN (h : Box1 w g t x) (q : Nat) : Box1 (w.drewN q) g t x := h
theorem Box1.set (h : Box1 w g t x) (v : Value) : Box1 (w.setCell ⟨g, 0, none⟩ v) g t v := heap_setCell_same w g 0 _ t v h
theorem Box1.other (h : Box1 w g t x) (a : Addr) (v : Value) (hne : g ≠ a.block) : Box1 (w.setCell a v) g t x := (heap_setCell_other w a g v hne).trans h
end

theorem Fam.same {w w' : World} {B : Nat} {V : Value} {m : Nat} {VS : Nat → Value} {Y : Nat → List Int} (h : Fam w B V m VS Y) (k : ∀ g, B ≤ g → g < w.heap.size → w'.heap[g]? = w.heap[g]?) : Fam w' B V m VS Y :=
  ⟨own_sameblock h.out fun g hg => k g (h.out.lt g hg).1 (h.out.lt g hg).2, fun i hi => own_sameblock (h.inn i hi) fun g hg => k g ((h.inn i hi).lt g hg).1 ((h.inn i hi).lt g hg).2⟩
/-- The integers of a list. -/
def gOf (xs : List Int) : Nat → Int := fun j => xs[j]?.getD 0

/-- A call that answers b and leaves what there was. -/
def SaysB (b : Bool) (w : World) (e : Ending) (w' : World) : Prop := e = .returned (.bool b) ∧ Below w.heap.size w w'

theorem _root_.Go.RowKit.Below.step1 {w wx w' : World} (h : Below w.heap.size w wx) (k : Below wx.heap.size wx w') : Below w.heap.size w w' := h.trans (k.mono h.size)
end Go.Proofs.Ytnmilkehggjpfaa
end
section
namespace Go.Proofs.Ytnmilkehggjpfaa
open Go.RowKit
set_option maxRecDepth 100000

theorem l01In_yes (n a b : Int) (w : World) (h0 : a ≤ n) (h1 : n ≤ b) :
    Calls Try.prog 62 #[.int .i64 n, .int .i64 a, .int .i64 b] w fun e w' => e = .returned (.bool true) ∧ w = w' := by
  go_enter Try.func62, Try.ntmps62
  go_wp2
  go_ret
  exact ⟨rfl, rfl⟩

theorem l01In_no (n a b : Int) (w : World) (h : n < a ∨ b < n) :
    Calls Try.prog 62 #[.int .i64 n, .int .i64 a, .int .i64 b] w fun e w' => e = .returned (.bool false) ∧ w = w' := by
  by_cases h0 : a ≤ n
  · have h1 : ¬ n ≤ b := by omega
    clear h
    go_enter Try.func62, Try.ntmps62
    go_wp2
    go_ret
    exact ⟨rfl, rfl⟩
  · clear h
    go_enter Try.func62, Try.ntmps62
    go_wp2
    go_ret
    exact ⟨rfl, rfl⟩
end Go.Proofs.Ytnmilkehggjpfaa
end
section
namespace Go.Proofs.Ytnmilkehggjpfaa
open Go.RowKit
set_option maxRecDepth 100000

theorem isNumber_yes (n : Int) (w : World) (h0 : 0 ≤ n) (h1 : n ≤ 1000000000000) :
    Calls Try.prog 166 #[.int .i64 n] w fun e w' => e = .returned (.bool true) ∧ w = w' := by
  go_enter Try.func166, Try.ntmps166
  go_wp2
  go_ret
  exact ⟨rfl, rfl⟩

theorem isNumber_no (n : Int) (w : World) (h : n < 0 ∨ 1000000000000 < n) :
    Calls Try.prog 166 #[.int .i64 n] w fun e w' => e = .returned (.bool false) ∧ w = w' := by
  rcases h with h | h
  · go_enter Try.func166, Try.ntmps166
    go_wp2
    go_ret
    exact ⟨rfl, rfl⟩
  · have h0 : 0 ≤ n := by omega
    have h1 : ¬ n ≤ 1000000000000 := by omega
    go_enter Try.func166, Try.ntmps166
    go_wp2
    go_ret
    exact ⟨rfl, rfl⟩

end Go.Proofs.Ytnmilkehggjpfaa
end
section
namespace Go.Proofs.Ytnmilkehggjpfaa
open Go.RowKit
set_option maxRecDepth 100000
set_option linter.unusedVariables false

/-- All n numbers are in 0..MaxNumber. -/
def okNums (G : Nat → Int) (n : Nat) : Prop := ∀ i, i < n → 0 ≤ G i ∧ G i ≤ 1000000000000
theorem okNums_not {G : Nat → Int} {n : Nat} (h : ¬ okNums G n) : ∃ i, i < n ∧ (G i < 0 ∨ 1000000000000 < G i) ∧ okNums G i := by
  induction n with
  | zero => exact absurd (fun i hi => by omega) h
  | succ n ih =>
    by_cases h1 : okNums G n
    · refine ⟨n, by omega, ?_, h1⟩
      apply Decidable.byContradiction
      intro hc
      apply h
      intro i hi
      by_cases e : i = n
      · subst e; omega
      · exact h1 i (by omega)
    · obtain ⟨i, a, b, c⟩ := ih h1
      exact ⟨i, by omega, b, c⟩

theorem areNumbers_yes (v : Value) (n : Nat) (G : Nat → Int) (w : World) (h : RdI w v n G) (hok : okNums G n) :
    Calls Try.prog 139 #[v] w fun e w' => e = .returned (.bool true) ∧ w = w' := by
  obtain ⟨a, cap, rfl, hm, hc⟩ := h
  by_cases h0 : n = 0
  · subst h0
    clear hc
    go_enter Try.func139, Try.ntmps139
    go_wp2
    refine wp_loop_rounds 1 ?_
    rw [rounds_succ]
    go_wp2
    go_ret
    exact ⟨rfl, rfl⟩
  · obtain ⟨b, off, rfl, hc'⟩ := hc.resolve_left h0
    have HC := Lib.hid hc'
    have HO := Lib.hid hok
    clear hc hc' h0 hok
    unfold maxLen at hm
    go_enter Try.func139, Try.ntmps139
    go_wp2
    go_loop [4, 7] (fun _ c => ∃ j : Nat, j ≤ n ∧ c = .int .i64 j) (fun _ c => n - (intOf c).toNat)
    case atStart => exact ⟨0, by omega, rfl⟩
    case round =>
      obtain ⟨j, hj, rfl⟩ := hrel
      by_cases hlt : j < n
      · have hlt' : (j : Int) < (n : Int) := by omega
        have c1 := HC.out j hlt
        have h1 := (HO.out j hlt).1
        have h2 := (HO.out j hlt).2
        generalize G j = x at c1 h1 h2
        go_wp2_with (go_at_call 166; refine (isNumber_yes _ _ h1 h2).mono ?_; rintro e w' ⟨rfl, rfl⟩)
        go_round
        case rel => exact ⟨j + 1, by omega, by go_num⟩
        case measure => simp [intOf]; omega
      · go_wp2
        go_ret
        exact ⟨rfl, rfl⟩

theorem areNumbers_no (v : Value) (n : Nat) (G : Nat → Int) (w : World) (h : RdI w v n G) (hok : ¬ okNums G n) :
    Calls Try.prog 139 #[v] w fun e w' => e = .returned (.bool false) ∧ w = w' := by
  obtain ⟨a, cap, rfl, hm, hc⟩ := h
  obtain ⟨q, hq, hbad, hok'⟩ := okNums_not hok
  obtain ⟨b, off, rfl, hc'⟩ := hc.resolve_left (by omega)
  have HC := Lib.hid hc'
  have HO := Lib.hid hok'
  clear hc hc' hok hok'
  unfold maxLen at hm
  go_enter Try.func139, Try.ntmps139
  go_wp2
  go_loop [4, 7] (fun _ c => ∃ j : Nat, j ≤ q ∧ c = .int .i64 j) (fun _ c => n - (intOf c).toNat)
  case atStart => exact ⟨0, by omega, rfl⟩
  case round =>
    obtain ⟨j, hj, rfl⟩ := hrel
    have hlt' : (j : Int) < (n : Int) := by omega
    have c1 := HC.out j (by omega)
    by_cases hlt : j < q
    · have h1 := (HO.out j hlt).1
      have h2 := (HO.out j hlt).2
      clear hbad
      generalize G j = x at c1 h1 h2
      go_wp2_with (go_at_call 166; refine (isNumber_yes _ _ h1 h2).mono ?_; rintro e w' ⟨rfl, rfl⟩)
      go_round
      case rel => exact ⟨j + 1, by omega, by go_num⟩
      case measure => simp [intOf]; omega
    · obtain rfl : j = q := by omega
      have HB := Lib.hid hbad
      clear hbad
      generalize G j = x at c1 HB
      go_wp2_with (go_at_call 166; refine (isNumber_no _ _ HB.out).mono ?_; rintro e w' ⟨rfl, rfl⟩)
      go_ret
      exact ⟨rfl, rfl⟩

/-- What is taken behind j numbers; whether the first j are apart. -/
def tk (G : Nat → Int) : Nat → Int
  | 0 => 0
  | j + 1 => bits .or .i64 (tk G j) (G j)
def apt (G : Nat → Int) (n : Nat) : Prop := ∀ i, i < n → (bits .and .i64 (tk G i) (G i) != 0) = false
theorem apt_not {G : Nat → Int} {n : Nat} (h : ¬ apt G n) : ∃ i, i < n ∧ (bits .and .i64 (tk G i) (G i) != 0) = true ∧ apt G i := by
  induction n with
  | zero => exact absurd (fun i hi => by omega) h
  | succ n ih =>
    by_cases h1 : apt G n
    · refine ⟨n, by omega, ?_, h1⟩
      cases hb : (bits .and .i64 (tk G n) (G n) != 0) with
      | true => rfl
      | false =>
        exfalso
        apply h
        intro i hi
        by_cases e : i = n
        · subst e; exact hb
        · exact h1 i (by omega)
    · obtain ⟨i, a, b, c⟩ := ih h1
      exact ⟨i, by omega, b, c⟩

theorem l01Apart_yes (v : Value) (n : Nat) (G : Nat → Int) (w : World) (h : RdI w v n G) (hap : apt G n) :
    Calls Try.prog 198 #[v] w fun e w' => e = .returned (.bool true) ∧ w = w' := by
  obtain ⟨a, cap, rfl, hm, hc⟩ := h
  by_cases h0 : n = 0
  · subst h0
    clear hc
    go_enter Try.func198, Try.ntmps198
    go_wp2
    refine wp_loop_rounds 1 ?_
    rw [rounds_succ]
    go_wp2
    go_ret
    exact ⟨rfl, rfl⟩
  · obtain ⟨b, off, rfl, hc'⟩ := hc.resolve_left h0
    have HC := Lib.hid hc'
    have HO := Lib.hid hap
    clear hc hc' h0 hap
    unfold maxLen at hm
    go_enter Try.func198, Try.ntmps198
    go_wp2
    go_loop [3, 4] (fun t c => ∃ j : Nat, j ≤ n ∧ c = .int .i64 j ∧ t = .int .i64 (tk G j)) (fun _ c => n - (intOf c).toNat)
    case atStart => exact ⟨0, by omega, rfl, rfl⟩
    case round =>
      obtain ⟨j, hj, rfl, rfl⟩ := hrel
      by_cases hlt : j < n
      · have hlt' : (j : Int) < (n : Int) := by omega
        have c1 := HC.out j hlt
        have h1 := HO.out j hlt
        have HT : Hid (tk G (j + 1) = bits .or .i64 (tk G j) (G j)) := Lib.hid rfl
        generalize G j = x at c1 h1 HT
        generalize tk G j = y at h1 HT ⊢
        go_wp2
        go_round
        case rel => exact ⟨j + 1, by omega, by go_num, by rw [HT.out]⟩
        case measure => simp [intOf]; omega
      · go_wp2
        go_ret
        exact ⟨rfl, rfl⟩

theorem l01Apart_no (v : Value) (n : Nat) (G : Nat → Int) (w : World) (h : RdI w v n G) (hap : ¬ apt G n) :
    Calls Try.prog 198 #[v] w fun e w' => e = .returned (.bool false) ∧ w = w' := by
  obtain ⟨a, cap, rfl, hm, hc⟩ := h
  obtain ⟨q, hq, hbad, hok'⟩ := apt_not hap
  obtain ⟨b, off, rfl, hc'⟩ := hc.resolve_left (by omega)
  have HC := Lib.hid hc'
  have HO := Lib.hid hok'
  have HB := Lib.hid hbad
  clear hc hc' hap hok' hbad
  unfold maxLen at hm
  go_enter Try.func198, Try.ntmps198
  go_wp2
  go_loop [3, 4] (fun t c => ∃ j : Nat, j ≤ q ∧ c = .int .i64 j ∧ t = .int .i64 (tk G j)) (fun _ c => n - (intOf c).toNat)
  case atStart => exact ⟨0, by omega, rfl, rfl⟩
  case round =>
    obtain ⟨j, hj, rfl, rfl⟩ := hrel
    have hlt' : (j : Int) < (n : Int) := by omega
    have c1 := HC.out j (by omega)
    by_cases hlt : j < q
    · have h1 := HO.out j hlt
      have HT : Hid (tk G (j + 1) = bits .or .i64 (tk G j) (G j)) := Lib.hid rfl
      generalize G j = x at c1 h1 HT
      generalize tk G j = y at h1 HT ⊢
      go_wp2
      go_round
      case rel => exact ⟨j + 1, by omega, by go_num, by rw [HT.out]⟩
      case measure => simp [intOf]; omega
    · obtain rfl : j = q := by omega
      have h1 := HB.out
      clear HB
      generalize G j = x at c1 h1
      generalize tk G j = y at h1 ⊢
      go_wp2
      go_ret
      exact ⟨rfl, rfl⟩
end Go.Proofs.Ytnmilkehggjpfaa
end
