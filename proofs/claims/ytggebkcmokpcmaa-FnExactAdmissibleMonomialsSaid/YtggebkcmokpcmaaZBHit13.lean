/-
  Joined: YLaw2, OpenPl, WSmall, WMulti, WMultiLaw, KPar, WTrim.
-/
import Derived.Test.YtggebkcmokpcmaaZBHit12
import Derived.Deep.DeepCutAuto
import Derived.Deep.RegionWith
import Derived.Deep.RegionHeld3
import Derived.BigRegion
import Derived.Test.YtggebkcmokpcmaaZBHit03
import Derived.Lib.SmallJoins
import Derived.ChangeSlices
import Derived.Test.YtggebkcmokpcmaaRows
import Derived.Test.YtggebkcmokpcmaaZBHit01
import Derived.Test.YtggebkcmokpcmaaZBHit07
import Derived.WalkLawsBesides
import Derived.WalkSpells
import Derived.Test.YtggebkcmokpcmaaZBHit02
import Derived.Maps.OwnSet
import Derived.Maps.OwnOps
import Derived.Maps.Views
import Derived.DeepKeys4
import Derived.Deep.MidRow
import Derived.Deep.WholeRow
import Derived.Carry
import Derived.Test.YtggebkcmokpcmaaZBHit05
section
namespace Go.Proofs.Ytggebkcmokpcmaa.Pl
open Go.RowKit
set_option linter.unusedVariables false
set_option maxRecDepth 100000

section
variable {w w' : World} {g : Nat} {m : Nat} {VS : Nat → Value}
/-- A box's block is no row's. -/
theorem _root_.Go.Proofs.Ytggebkcmokpcmaa.Box.ne_own {t : TypeId} {x y v : Value} {B n : Nat} {e : TypeId} {xs : List Value} (h : Box w g t x y) (o : w.ownsRow B e 1 v n xs) (he : e ≠ t) : ∀ q, v.ownBlock = some q → q ≠ g := by
  intro q hq eq
  subst eq
  rcases o.2 with ⟨rfl, _⟩ | ⟨q', cap', cur, rfl, _, hG, _⟩
  · cases hq
  · simp only [Value.ownBlock, Option.some.injEq] at hq
    subst hq
    unfold Box at h
    rw [hG] at h
    simp only [Option.some.injEq, Obj.cells.injEq] at h
    exact he h.2.1
theorem _root_.Go.Proofs.Ytggebkcmokpcmaa.Box.restK {t : TypeId} {x y : Value} {n B B' : Nat} {V' : Value} {VB : Nat → Value} {Y : Nat → List Int} (h : Box w g t x y) (ht : 2 ≠ t) (k : Fam w B V' n VB Y) (r : MRestK n VB w w') : Box w' g t x y :=
  (r.2 g h.lt fun i hi e => h.ne_own (k.inn i hi) ht g e rfl).trans h
end

/-- The argument in its box. -/
structure Sq1 (w0 : World) (c0 : Int) (V0 : Value) (w : World) : Prop where
  bel : Below w0.heap.size w0 w
  boxA : Box w w0.heap.size 27 (.int .i64 c0) V0
/-- The two arguments in their boxes. -/
structure Sq2 (w0 : World) (c0 : Int) (V0 : Value) (c1 : Int) (V1 : Value) (w : World) : Prop where
  bel : Below w0.heap.size w0 w
  boxA : Box w w0.heap.size 27 (.int .i64 c0) V0
  boxB : Box w (w0.heap.size + 1) 27 (.int .i64 c1) V1
/-- A struct that the law holds: its box and the family. -/
structure OwnF (w0 : World) (g : Nat) (c : Int) (V : Value) (m : Nat) (VS : Nat → Value) (X : Nat → List Int) (w : World) : Prop where
  fam : Fam w w0.heap.size V m VS X
  sep : Sep m VS
  box : Box w g 31 (.int .i64 c) V
  ge : w0.heap.size ≤ g

section
variable {w0 w w' : World} {c0 c1 c : Int} {V0 V1 V : Value} {g m : Nat} {VS : Nat → Value} {X : Nat → List Int}
theorem Sq1.start (w : World) (c0 : Int) (V0 : Value) : Sq1 w c0 V0 (w.alloc (.cells #[.int .i64 c0, V0] 27)) := ⟨(Below.refl w.heap.size w).alloc (Nat.le_refl _) _, Box.new w _ _ _⟩
theorem Sq1.up (h : Sq1 w0 c0 V0 w) (k : Below w.heap.size w w') : Sq1 w0 c0 V0 w' := ⟨h.bel.step1 k, h.boxA.up k⟩
theorem Sq1.alloc (h : Sq1 w0 c0 V0 w) (o : Obj) : Sq1 w0 c0 V0 (w.alloc o) := h.up ((Below.refl _ _).alloc (Nat.le_refl _) _)
theorem Sq2.start (w : World) (c0 : Int) (V0 : Value) (c1 : Int) (V1 : Value) : Sq2 w c0 V0 c1 V1 ((w.alloc (.cells #[.int .i64 c0, V0] 27)).alloc (.cells #[.int .i64 c1, V1] 27)) := by
  refine ⟨((Below.refl w.heap.size w).alloc (Nat.le_refl _) _).alloc (by simp) _, (Box.new w _ _ _).alloc _, ?_⟩
  have := Box.new (w.alloc (.cells #[.int .i64 c0, V0] 27)) 27 (.int .i64 c1) V1
  simpa using this
theorem Sq2.up (h : Sq2 w0 c0 V0 c1 V1 w) (k : Below w.heap.size w w') : Sq2 w0 c0 V0 c1 V1 w' := ⟨h.bel.step1 k, h.boxA.up k, h.boxB.up k⟩
theorem Sq2.alloc (h : Sq2 w0 c0 V0 c1 V1 w) (o : Obj) : Sq2 w0 c0 V0 c1 V1 (w.alloc o) := h.up ((Below.refl _ _).alloc (Nat.le_refl _) _)
theorem OwnF.up (h : OwnF w0 g c V m VS X w) (k : Below w.heap.size w w') : OwnF w0 g c V m VS X w' := ⟨h.fam.below k, h.sep, h.box.up k, h.ge⟩
theorem OwnF.alloc (h : OwnF w0 g c V m VS X w) (o : Obj) : OwnF w0 g c V m VS X (w.alloc o) := h.up ((Below.refl _ _).alloc (Nat.le_refl _) _)
theorem OwnF.start (hw : w0.heap.size ≤ w.heap.size) (h : Fam w w0.heap.size V m VS X) (hs : Sep m VS) : OwnF w0 w.heap.size c V m VS X (w.alloc (.cells #[.int .i64 c, V] 31)) :=
  ⟨h.below ((Below.refl _ _).alloc (Nat.le_refl _) _), hs, Box.new _ _ _ _, hw⟩
theorem OwnF.stored {x y : Value} (h : Box w g 31 x y) (o : Fam w w0.heap.size V m VS X) (hs : Sep m VS) (hg : w0.heap.size ≤ g) : OwnF w0 g c V m VS X ((w.setCell ⟨g, 0, none⟩ (.int .i64 c)).setCell ⟨g, 1, none⟩ V) := by
  have hne : ∀ i, i < m → ∀ q, (VS i).ownBlock = some q → q ≠ g := fun i hi => h.ne_own (o.inn i hi) (by decide)
  have hno := h.ne_own o.out (by decide)
  have o1 : Fam (w.setCell ⟨g, 0, none⟩ (.int .i64 c)) w0.heap.size V m VS X := ⟨own_sameblock o.out fun q hq => heap_setCell_other _ _ _ _ (hno q hq), fun i hi => own_sameblock (o.inn i hi) fun q hq => heap_setCell_other _ _ _ _ (hne i hi q hq)⟩
  have o2 : Fam ((w.setCell ⟨g, 0, none⟩ (.int .i64 c)).setCell ⟨g, 1, none⟩ V) w0.heap.size V m VS X := ⟨own_sameblock o1.out fun q hq => heap_setCell_other _ _ _ _ (hno q hq), fun i hi => own_sameblock (o1.inn i hi) fun q hq => heap_setCell_other _ _ _ _ (hne i hi q hq)⟩
  exact ⟨o2, hs, (h.set0 _).set1 V, hg⟩
theorem OwnF.rest {g' n : Nat} {c' : Int} {V' : Value} {VB : Nat → Value} {Y : Nat → List Int} (h : OwnF w0 g c V m VS X w) (k : OwnF w0 g' c' V' n VB Y w) (r : MRestK n VB w w') (ap : FApart m VS n VB) : OwnF w0 g c V m VS X w' :=
  ⟨h.fam.rest k.fam r ap, h.sep, h.box.restK (B' := 0) (by decide) k.fam r, h.ge⟩
theorem Sq1.rest {g' n : Nat} {c' : Int} {V' : Value} {VB : Nat → Value} {Y : Nat → List Int} (h : Sq1 w0 c0 V0 w) (k : OwnF w0 g' c' V' n VB Y w) (r : MRestK n VB w w') (b : Below w0.heap.size w w') : Sq1 w0 c0 V0 w' :=
  ⟨h.bel.trans b, h.boxA.restK (B' := 0) (by decide) k.fam r⟩
theorem Sq2.rest {g' n : Nat} {c' : Int} {V' : Value} {VB : Nat → Value} {Y : Nat → List Int} (h : Sq2 w0 c0 V0 c1 V1 w) (k : OwnF w0 g' c' V' n VB Y w) (r : MRestK n VB w w') (b : Below w0.heap.size w w') : Sq2 w0 c0 V0 c1 V1 w' :=
  ⟨h.bel.trans b, h.boxA.restK (B' := 0) (by decide) k.fam r, h.boxB.restK (B' := 0) (by decide) k.fam r⟩

/-- What is kept of a struct that a region made: the block of its box, its lists, its code. -/
def MadeS (w0 wS : World) (cd C : Int) (L : List (List Int)) (s6 s7 : Value) (wx : World) : Prop :=
  ∃ (g : Nat) (va : Option Addr) (vc : Nat) (VS : Nat → Value), s6 = .pointer (some ⟨g, 0, none⟩) ∧ s7 = .int .i64 cd ∧ Hid (OwnF w0 g C (.slice va L.length vc) L.length VS (rowsOf L) wx) ∧ Hid (Below wS.heap.size wS wx)
end
end Go.Proofs.Ytggebkcmokpcmaa.Pl
end
section
namespace Go.Proofs.Ytggebkcmokpcmaa
open Go.RowKit Go.ChangeShapes Go.WideShapes Go.Joins
set_option linter.unusedVariables false
set_option maxRecDepth 100000

/-- What the walk is told of such an argument: its number of variables and its rows. -/
theorem open_pl {H : Type} {enc : TypeId × Value → H} {w : World} {base b0 : Nat} {held : Bool} {v : Value} {d : DataW H} {p : List MemPlace}
    (hv : Value.okWide Try.prog w .any b0 27 v) (h : DataW.Trod enc Try.prog w base (fun _ => true) held 27 v d p) :
    ∃ (c : Int) (a : Option Addr) (m cap : Nat) (X : Nat → List Int), v = .agg #[.int .i64 c, .slice a m cap] ∧ IsRows w a m cap X := by
  obtain ⟨v0, v1, y0, y1, n, rfl, _, _, h0, h1⟩ := open_agg2 Try.underlying27 (by kernel_rfl) (by kernel_rfl) hv h
  obtain ⟨c, hc, _, _⟩ := DataW.trod_int Try.underlying2 h0
  obtain rfl : v0 = .int .i64 c := by simpa using hc
  obtain ⟨a, m, cap, e⟩ := slice_form Try.underlying25 h1
  obtain rfl : v1 = .slice a m cap := by simpa using e
  obtain ⟨X, hX⟩ := open_rows (d := y1.1) (p := y1.2) ⟨n, by simpa [Value.cells] using h1⟩
  exact ⟨c, a, m, cap, X, rfl, hX⟩
end Go.Proofs.Ytggebkcmokpcmaa
end
section
namespace Go.Proofs.Ytggebkcmokpcmaa
open Go.RowKit
set_option maxRecDepth 100000

theorem isNumber_yes (n : Int) (w : World) (h0 : 0 ≤ n) (h1 : n ≤ 1000000000000) :
    Calls Try.prog 89 #[.int .i64 n] w fun e w' => e = .returned (.bool true) ∧ w = w' := by
  go_enter Try.func89, Try.ntmps89
  go_wp2
  go_ret
  exact ⟨rfl, rfl⟩

theorem isNumber_no (n : Int) (w : World) (h : n < 0 ∨ 1000000000000 < n) :
    Calls Try.prog 89 #[.int .i64 n] w fun e w' => e = .returned (.bool false) ∧ w = w' := by
  rcases h with h | h
  · go_enter Try.func89, Try.ntmps89
    go_wp2
    go_ret
    exact ⟨rfl, rfl⟩
  · have h0 : 0 ≤ n := by omega
    have h1 : ¬ n ≤ 1000000000000 := by omega
    go_enter Try.func89, Try.ntmps89
    go_wp2
    go_ret
    exact ⟨rfl, rfl⟩

end Go.Proofs.Ytggebkcmokpcmaa
end
section
namespace Go.Proofs.Ytggebkcmokpcmaa
open Go.RowKit
set_option maxRecDepth 100000
set_option linter.unusedVariables false

/-- All n numbers are in 0..MaxNumber. -/
def okNums (G : Nat → Int) (n : Nat) : Prop := ∀ i, i < n → 0 ≤ G i ∧ G i ≤ 1000000000000
theorem okNums_not {G : Nat → Int} {n : Nat} (h : ¬ okNums G n) : ∃ i, i < n ∧ (G i < 0 ∨ 1000000000000 < G i) ∧ okNums G i := by
  induction n with
  | zero => exact absurd (fun i hi => by omega) h
  | succ n ih =>
    by_cases h1 : okNums G n
    · refine ⟨n, by omega, ?_, h1⟩
      apply Decidable.byContradiction
      intro hc
      apply h
      intro i hi
      by_cases e : i = n
      · subst e; omega
      · exact h1 i (by omega)
    · obtain ⟨i, a, b, c⟩ := ih h1
      exact ⟨i, by omega, b, c⟩

/-- What is taken behind j numbers; whether the first j are apart. -/
def tk (G : Nat → Int) : Nat → Int
  | 0 => 0
  | j + 1 => bits .or .i64 (tk G j) (G j)
def apt (G : Nat → Int) (n : Nat) : Prop := ∀ i, i < n → (bits .and .i64 (tk G i) (G i) != 0) = false
theorem apt_not {G : Nat → Int} {n : Nat} (h : ¬ apt G n) : ∃ i, i < n ∧ (bits .and .i64 (tk G i) (G i) != 0) = true ∧ apt G i := by
  induction n with
  | zero => exact absurd (fun i hi => by omega) h
  | succ n ih =>
    by_cases h1 : apt G n
    · refine ⟨n, by omega, ?_, h1⟩
      cases hb : (bits .and .i64 (tk G n) (G n) != 0) with
      | true => rfl
      | false =>
        exfalso
        apply h
        intro i hi
        by_cases e : i = n
        · subst e; exact hb
        · exact h1 i (by omega)
    · obtain ⟨i, a, b, c⟩ := ih h1
      exact ⟨i, by omega, b, c⟩

end Go.Proofs.Ytggebkcmokpcmaa
end
section
namespace Go.Proofs.Ytggebkcmokpcmaa
open Go.RowKit
set_option maxRecDepth 100000
set_option linter.unusedVariables false

end Go.Proofs.Ytggebkcmokpcmaa
end
section
namespace Go.Proofs.Ytggebkcmokpcmaa
open Go.RowKit Go.Maps
set_option linter.unusedVariables false
set_option maxRecDepth 100000

/-- x occurs an odd number of times. -/
def par {α : Type} : List α → α → Prop
  | [], _ => False
  | x :: r, k => (x = k ∧ ¬ par r k) ∨ (x ≠ k ∧ par r k)
theorem par_snoc {α : Type} (r : List α) (x k : α) : par (r ++ [x]) k ↔ (x = k ∧ ¬ par r k) ∨ (x ≠ k ∧ par r k) := by
  induction r with
  | nil => simp [par]
  | cons y r ih =>
    show (y = k ∧ ¬ par (r ++ [x]) k) ∨ (y ≠ k ∧ par (r ++ [x]) k) ↔ (x = k ∧ ¬ ((y = k ∧ ¬ par r k) ∨ (y ≠ k ∧ par r k))) ∨ (x ≠ k ∧ ((y = k ∧ ¬ par r k) ∨ (y ≠ k ∧ par r k)))
    rw [ih]
    by_cases h1 : y = k <;> by_cases h2 : x = k <;> by_cases h3 : par r k <;> simp [h1, h2, h3]
theorem par_same {α : Type} (r : List α) (x : α) : par (r ++ [x]) x ↔ ¬ par r x := by rw [par_snoc]; simp
theorem par_other {α : Type} (r : List α) (x k : α) (h : x ≠ k) : par (r ++ [x]) k ↔ par r k := by rw [par_snoc]; simp [h]
theorem par_mem {α : Type} (r : List α) (k : α) (h : par r k) : k ∈ r := by
  induction r with
  | nil => cases h
  | cons x r ih =>
    rcases h with ⟨e, _⟩ | ⟨_, h⟩
    · rw [e]; exact List.mem_cons_self
    · exact List.mem_cons_of_mem _ (ih h)
theorem par_append {α : Type} (r s : List α) (k : α) : par (r ++ s) k ↔ ((par r k ∧ ¬ par s k) ∨ (¬ par r k ∧ par s k)) := by
  induction r with
  | nil => simp [par]
  | cons y r ih =>
    show (y = k ∧ ¬ par (r ++ s) k) ∨ (y ≠ k ∧ par (r ++ s) k) ↔ _
    rw [ih]
    show _ ↔ ((((y = k ∧ ¬ par r k) ∨ (y ≠ k ∧ par r k)) ∧ ¬ par s k) ∨ (¬ ((y = k ∧ ¬ par r k) ∨ (y ≠ k ∧ par r k)) ∧ par s k))
    by_cases h1 : y = k <;> by_cases h2 : par r k <;> by_cases h3 : par s k <;> simp [h1, h2, h3]

/-- The map D (with bools) has just the keys that occur an odd number of times in p, each with true. -/
def MapIs (T : TypeId) (D : DataW Unit) (p : List (Array Value)) : Prop :=
  ∀ (k : Array Value) (l : Lit), keyOf Try.prog T (.agg k) = some l → (par p k → D.atKey l (.lit (.bool false)) = .lit (.bool true) ∧ has D l = true) ∧ (¬ par p k → D.atKey l (.lit (.bool false)) = .lit (.bool false) ∧ has D l = false)
theorem MapIs.nil (T : TypeId) : MapIs T (.map []) [] := fun k l _ => ⟨fun h => (by cases h), fun _ => ⟨rfl, rfl⟩⟩
theorem MapIs.put {T : TypeId} {D : DataW Unit} {p : List (Array Value)} (h : MapIs T D p) (K : Keyed Try.prog T) (hm : IsMap D) {x : Array Value} {lx : Lit} (hx : keyOf Try.prog T (.agg x) = some lx) (hp : ¬ par p x) : MapIs T (D.put lx (.lit (.bool true))) (p ++ [x]) := by
  intro k l hk
  by_cases e : x = k
  · subst e
    rw [hx] at hk
    cases hk
    refine ⟨fun _ => ⟨atKey_put_same hm (K.key hx) _ _, has_put_same hm (K.key hx) _⟩, fun hn => absurd ((par_same p x).2 hp) hn⟩
  · have hne : l ≠ lx := fun e1 => e (by subst e1; have := K.inj hx hk; simpa using this)
    rw [par_other p x k e, atKey_put_other hne, has_put_other hne]
    exact h k l hk
theorem MapIs.del {T : TypeId} {D : DataW Unit} {p : List (Array Value)} (h : MapIs T D p) (K : Keyed Try.prog T) {x : Array Value} {lx : Lit} (hx : keyOf Try.prog T (.agg x) = some lx) (hp : par p x) : MapIs T (D.del lx) (p ++ [x]) := by
  intro k l hk
  by_cases e : x = k
  · subst e
    rw [hx] at hk
    cases hk
    refine ⟨fun hn => absurd hp ((par_same p x).1 hn), fun _ => ⟨atKey_del_same _, has_del_same⟩⟩
  · have hne : l ≠ lx := fun e1 => e (by subst e1; have := K.inj hx hk; simpa using this)
    rw [par_other p x k e, atKey_del_other hne, has_del_other hne]
    exact h k l hk

theorem plainB_inv {v : Value} {b : Bool} {ps : List MemPlace} (h : plainElem (H := Unit) Try.prog 4 v = some (.lit (.bool b), ps)) : v = .bool b := by
  unfold plainElem at h
  rw [Try.underlying4] at h
  cases v <;> simp at h
  rw [h.1]

/-- The first i of two lists, joined. -/
def preK (xs ys : List (Array Value)) : Nat → List (Array Value)
  | 0 => []
  | 1 => xs
  | _ => xs ++ ys

theorem laidP : laidOutB Try.prog = true := by kernel_rfl
end Go.Proofs.Ytggebkcmokpcmaa
end
section
namespace Go.Proofs.Ytggebkcmokpcmaa
open Go.RowKit
set_option linter.unusedVariables false
set_option maxRecDepth 100000

/-- The zeros at the end left out. -/
def trimTo (l : List Int) : Nat → List Int
  | 0 => []
  | j + 1 => if l[j]?.getD 0 = 0 then trimTo l j else l.take (j + 1)
def trim (l : List Int) : List Int := trimTo l l.length
theorem own_take {w : World} {B n : Nat} {a : Option Addr} {cap : Nat} {e : TypeId} {xs : List Value} (h : w.ownsRow B e 1 (.slice a n cap) n xs) (k : Nat) (hk : k ≤ n) : w.ownsRow B e 1 (.slice a k cap) k (xs.take k) := by
  have hl : xs.length = n := by have := h.1; omega
  refine ⟨by rw [List.length_take, hl]; omega, ?_⟩
  rcases h.2 with ⟨e1, h0⟩ | ⟨g, cap', cur, e1, hb, hg, h1, h2, h3, h4⟩
  · cases e1
    exact .inl ⟨by rw [show k = 0 by omega], by omega⟩
  · cases e1
    refine .inr ⟨g, cap, cur, rfl, hb, hg, by omega, h2, h3, ?_⟩
    rw [← h4, List.take_take]
    congr 1
    omega

def slen : Value → Nat
  | .slice _ n _ => n
  | _ => 0
theorem trimTo_zero (l : List Int) (j : Nat) (h : l[j]?.getD 0 = 0) : trimTo l (j + 1) = trimTo l j := by rw [trimTo, if_pos h]
theorem trimTo_take (l : List Int) (j : Nat) (h : l[j]?.getD 0 ≠ 0) : trimTo l (j + 1) = l.take (j + 1) := by rw [trimTo, if_neg h]

def TrimRes (L : List Int) (B : Nat) (w : World) (e : Ending) (w' : World) : Prop := ∃ u, e = .returned u ∧ w' = w ∧ w.ownsRow B 2 1 u (trim L).length ((trim L).map (Value.int .i64))
theorem cloneRd (b off : Nat) (xs : List Int) (cap : Nat) (w : World) (hn : xs.length ≤ 1000000) (h : ∀ j, j < xs.length → w.cell? ⟨b, off + j, none⟩ = some (.int .i64 (xs[j]?.getD 0))) :
    Calls Try.prog 79 #[.slice (some ⟨b, off, none⟩) xs.length cap] w fun e w' => ∃ u, e = .returned u ∧ w'.ownsRow w.heap.size 2 1 u xs.length (xs.map (Value.int .i64)) ∧ Below w.heap.size w w' := by
  obtain ⟨i0, hi, hz0, hz1, hz2⟩ := info_parts Try.info2
  have H : Hid (∀ j u, (xs.map (Value.int .i64))[j]? = some u → (w.alloc (.cells #[] 2)).cell? ((⟨b, off, none⟩ : Addr).add j) = some u) := by
    refine Lib.hid fun j u hu => ?_
    rw [Addr.add_mid]
    rw [List.getElem?_map] at hu
    cases hx : xs[j]? with
    | none => rw [hx] at hu; cases hu
    | some x =>
      rw [hx] at hu
      have hj : j < xs.length := (List.getElem?_eq_some_iff.1 hx).1
      have h1 := h j hj
      simp only [hx, Option.getD_some] at h1
      have hbl := World.block_lt_of_cell? w _ h1
      rw [← Option.some.inj hu]
      exact (((Below.refl _ w).alloc (Nat.le_refl _) _).cell (p := ⟨b, off + j, none⟩) hbl).trans h1
  have q22 : ∀ (w : World) (a : Option Addr) (n c n' c' : Nat), (binOp .eql 42 (.slice a n c) (.slice none n' c')).run Try.prog w = .ok (.bool a.isNone) w := fun w a n c n' c' => Lib.run_eql_slice_nil w _ _ a n c n' c' Try.underlying42
  clear h
  go_enter Try.func79, Try.ntmps79
  go_wp2_with (at_builtin; refine wpList_append_own _ rfl _ _ 42 rfl w.heap.size 2 i0 (.int .i64 0) 1 8 Try.underlying42 hi hz0 hz1 hz2 rfl (by decide) _ _ _ rfl (World.ownsRow_made w #[] 0 (Nat.le_refl _) (Nat.zero_le _) (by simp)) ⟨b, off, none⟩ xs.length cap (xs.map (Value.int .i64)) rfl ?qc1 ?qc2 ?qc3 ?qc4 ?qc5 ?qc6 ?_)
  case qc1 => simp
  case qc2 => exact H.out
  case qc3 => exact ints_one xs
  case qc4 => unfold maxLen; omega
  case qc5 => omega
  case qc6 => simp
  intro v' w1 hown hgrow hnil
  have HO := Lib.hid hown
  have HG := Lib.hid hgrow
  clear hown hgrow hnil
  go_wp2
  go_ret
  refine ⟨v', rfl, by simpa using HO.out, ?_⟩
  exact ((Below.refl _ w).alloc (Nat.le_refl _) _).grown HG.out (by simp) (by intro k hk; simp [Value.ownBlock] at hk; omega)

theorem trimTo_congr {l l' : List Int} : ∀ j, l.take j = l'.take j → trimTo l j = trimTo l' j
  | 0, _ => rfl
  | j + 1, h => by
    have e : l[j]? = l'[j]? := by
      have := congrArg (fun x : List Int => x[j]?) h
      simpa [List.getElem?_take] using this
    have e2 : l.take j = l'.take j := by
      have := congrArg (List.take j) h
      rw [List.take_take, List.take_take] at this
      rwa [show min j (j + 1) = j by omega] at this
    unfold trimTo
    rw [e, h, trimTo_congr j e2]
theorem trim_zeros (s : Nat → Int) (a : Nat) (h : ∀ k, a ≤ k → s k = 0) : ∀ d, trim ((List.range (a + d)).map s) = trim ((List.range a).map s)
  | 0 => rfl
  | d + 1 => by
    rw [← trim_zeros s a h d]
    unfold trim
    rw [List.length_map, List.length_range, List.length_map, List.length_range]
    show trimTo _ (a + d + 1) = _
    rw [trimTo, if_pos (by rw [List.getElem?_map, List.getElem?_range (by omega)]; exact h (a + d) (by omega))]
    refine trimTo_congr _ ?_
    rw [← List.map_take, ← List.map_take, List.take_range, List.take_range]
    congr 2
    omega
end Go.Proofs.Ytggebkcmokpcmaa
end
