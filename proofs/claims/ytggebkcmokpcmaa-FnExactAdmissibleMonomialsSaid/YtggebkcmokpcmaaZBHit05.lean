/-
  Joined: WOwn, KFam, SBox.
-/
import Derived.Test.YtggebkcmokpcmaaZBHit03
import Derived.Test.YtggebkcmokpcmaaZBHit04
import Derived.BigRegion
import Derived.Laws.ResultCell
section
namespace Go.Proofs.Ytggebkcmokpcmaa
open Go.RowKit
set_option maxRecDepth 100000
set_option linter.unusedVariables false

theorem own_news {w : World} {B g n cap : Nat} {xs : List Value} {e : TypeId} (h : w.ownsRow B e 1 (.slice (some ⟨g, 0, none⟩) n cap) n xs) (o : Obj) :
    ∀ j u, xs[j]? = some u → (w.alloc o).cell? ((⟨g, 0, none⟩ : Addr).add j) = some u := by
  intro j u hj
  have hl := h.1
  have hjn : j < n := by
    have := (List.getElem?_eq_some_iff.1 hj).1
    omega
  have e1 : (⟨g, 0, none⟩ : Addr).add j = ⟨g, j, none⟩ := by
    by_cases h6 : j = 0
    · subst h6; simp [Addr.add]
    · simp [Addr.add, h6]
  rw [e1]
  exact ((h.alloc o).cellAt j (by omega)).trans hj

theorem ints_one (zs : List Int) : ∀ u ∈ zs.map (Value.int .i64), u.oneCell' = true := by
  intro u hu
  obtain ⟨z, _, rfl⟩ := List.mem_map.1 hu
  rfl

theorem l01Own_any (g n cap : Nat) (zs : List Int) (B : Nat) (w : World) (hn : n ≤ 1000000) (h : w.ownsRow B 2 1 (.slice (some ⟨g, 0, none⟩) n cap) n (zs.map (Value.int .i64))) :
    Calls Try.prog 80 #[.slice (some ⟨g, 0, none⟩) n cap] w fun e w' => ∃ u, e = .returned u ∧ w'.ownsRow w.heap.size 2 1 u n (zs.map (Value.int .i64)) ∧ u ≠ .slice none 0 0 ∧ Below w.heap.size w w' := by
  obtain ⟨i0, hi, hz0, hz1, hz2⟩ := info_parts Try.info2
  have hl : (zs.map (Value.int .i64)).length = n * 1 := h.1
  have H := Lib.hid h
  have HL := Lib.hid hl
  clear h hl
  go_enter Try.func80, Try.ntmps80
  go_wp2_with (at_builtin; refine wpList_append_own _ rfl _ _ 42 rfl w.heap.size 2 i0 (.int .i64 0) 1 8 Try.underlying42 hi hz0 hz1 hz2 rfl (by decide) _ _ _ rfl (World.ownsRow_made w #[] 0 (Nat.le_refl _) (Nat.zero_le _) (by simp)) ⟨g, 0, none⟩ n cap (zs.map (Value.int .i64)) rfl ?qc1 ?qc2 ?qc3 ?qc4 ?qc5 ?qc6 ?_)
  case qc1 => exact HL.out
  case qc2 => exact own_news H.out _
  case qc3 => exact ints_one zs
  case qc4 => unfold maxLen; omega
  case qc5 => omega
  case qc6 => simp
  intro v' w1 hown hgrow hnil
  have HO := Lib.hid hown
  have HG := Lib.hid hgrow
  have HN := Lib.hid hnil
  clear hown hgrow hnil
  go_wp2
  go_ret
  refine ⟨v', rfl, by simpa using HO.out, ?_, ?_⟩
  · exact HN.out
  · exact ((Below.refl _ w).alloc (Nat.le_refl _) _).grown HG.out (by simp) (by intro k hk; simp [Value.ownBlock] at hk; omega)

theorem Clone_any (g n cap : Nat) (zs : List Int) (B : Nat) (w : World) (hn : n ≤ 1000000) (h : w.ownsRow B 2 1 (.slice (some ⟨g, 0, none⟩) n cap) n (zs.map (Value.int .i64))) :
    Calls Try.prog 79 #[.slice (some ⟨g, 0, none⟩) n cap] w fun e w' => ∃ u, e = .returned u ∧ w'.ownsRow w.heap.size 2 1 u n (zs.map (Value.int .i64)) ∧ u ≠ .slice none 0 0 ∧ Below w.heap.size w w' := by
  obtain ⟨i0, hi, hz0, hz1, hz2⟩ := info_parts Try.info2
  have hl : (zs.map (Value.int .i64)).length = n * 1 := h.1
  have H := Lib.hid h
  have HL := Lib.hid hl
  have q22 : ∀ (w : World) (a : Option Addr) (n c n' c' : Nat), (binOp .eql 42 (.slice a n c) (.slice none n' c')).run Try.prog w = .ok (.bool a.isNone) w := fun w a n c n' c' => Lib.run_eql_slice_nil w _ _ a n c n' c' Try.underlying42
  clear h hl
  go_enter Try.func79, Try.ntmps79
  go_wp2_with (at_builtin; refine wpList_append_own _ rfl _ _ 42 rfl w.heap.size 2 i0 (.int .i64 0) 1 8 Try.underlying42 hi hz0 hz1 hz2 rfl (by decide) _ _ _ rfl (World.ownsRow_made w #[] 0 (Nat.le_refl _) (Nat.zero_le _) (by simp)) ⟨g, 0, none⟩ n cap (zs.map (Value.int .i64)) rfl ?qc1 ?qc2 ?qc3 ?qc4 ?qc5 ?qc6 ?_)
  case qc1 => exact HL.out
  case qc2 => exact own_news H.out _
  case qc3 => exact ints_one zs
  case qc4 => unfold maxLen; omega
  case qc5 => omega
  case qc6 => simp
  intro v' w1 hown hgrow hnil
  have HO := Lib.hid hown
  have HG := Lib.hid hgrow
  have HN := Lib.hid hnil
  clear hown hgrow hnil
  go_wp2
  go_ret
  refine ⟨v', rfl, by simpa using HO.out, ?_, ?_⟩
  · exact HN.out
  · exact ((Below.refl _ w).alloc (Nat.le_refl _) _).grown HG.out (by simp) (by intro k hk; simp [Value.ownBlock] at hk; omega)

theorem Clone_nil (w : World) :
    Calls Try.prog 79 #[.slice none 0 0] w fun e w' => e = .returned (.slice none 0 0) ∧ w = w' := by
  have q22 : ∀ (w : World) (a : Option Addr) (n c n' c' : Nat), (binOp .eql 42 (.slice a n c) (.slice none n' c')).run Try.prog w = .ok (.bool a.isNone) w := fun w a n c n' c' => Lib.run_eql_slice_nil w _ _ a n c n' c' Try.underlying42
  go_enter Try.func79, Try.ntmps79
  go_wp2
  go_ret
  exact ⟨rfl, rfl⟩
end Go.Proofs.Ytggebkcmokpcmaa
end
section
namespace Go.Proofs.Ytggebkcmokpcmaa
open Go.RowKit
set_option maxRecDepth 100000
set_option linter.unusedVariables false

theorem own_len {w : World} {B : Nat} {v : Value} {n : Nat} {xs : List Value} (h : w.ownsRow B 2 1 v n xs) : ∃ a cap, v = .slice a n cap ∧ n ≤ maxLen := by
  rcases h.2 with ⟨rfl, rfl⟩ | ⟨g, cap, cur, rfl, _, _, h1, h2, _⟩
  · exact ⟨none, 0, rfl, Nat.zero_le _⟩
  · exact ⟨_, cap, rfl, Nat.le_trans h1 h2⟩

/-! ### What stays of the rows of numbers -/
def KeepI (q : Option Nat) (w w' : World) : Prop := ∀ k cur, w.heap[k]? = some (.cells cur 2 (0, 0)) → some k ≠ q → w'.heap[k]? = w.heap[k]?
theorem KeepI.refl (q : Option Nat) (w : World) : KeepI q w w := fun _ _ _ _ => rfl
theorem KeepI.trans {q : Option Nat} {a b c : World} (h : KeepI q a b) (k : KeepI q b c) : KeepI q a c := fun i cur hi hq => by
  have h1 := h i cur hi hq
  rw [k i cur (h1.trans hi) hq, h1]
theorem KeepI.wide {a b : World} (h : KeepI none a b) (q : Option Nat) : KeepI q a b := fun i cur hi _ => h i cur hi (by intro e; cases e)
theorem KeepI.below {a b : World} (h : Below a.heap.size a b) (q : Option Nat) : KeepI q a b := fun i cur hi _ => h.block i (Array.getElem?_eq_some_iff.1 hi).1
theorem KeepI.row {a b : World} {B n : Nat} {V : Value} {xs : List Value} (hV : a.ownsRow B 42 1 V n xs) (h : a.grownBy b V.ownBlock) (q : Option Nat) : KeepI q a b := fun i cur hi _ => by
  refine h.block i (Array.getElem?_eq_some_iff.1 hi).1 fun e => ?_
  rcases hV.2 with ⟨rfl, _⟩ | ⟨g, cap, cur', rfl, _, hg, _⟩
  · cases e
  · simp only [Value.ownBlock, Option.some.injEq] at e
    subst e
    rw [hi] at hg
    cases hg
theorem KeepI.own {q : Option Nat} {w w' : World} (k : KeepI q w w') {B n : Nat} {v : Value} {xs : List Value} (h : w.ownsRow B 2 1 v n xs) (hq : v.ownBlock = none ∨ v.ownBlock ≠ q) : w'.ownsRow B 2 1 v n xs := by
  refine ⟨h.1, ?_⟩
  rcases h.2 with hn | ⟨g, cap, cur, rfl, hb, hg, rest⟩
  · exact .inl hn
  · refine .inr ⟨g, cap, cur, rfl, hb, ?_, rest⟩
    rw [k g cur hg (by rcases hq with hq | hq; exact absurd hq (by simp [Value.ownBlock]); exact hq)]
    exact hg

/-! ### Families that read as a list of lists -/
def rowsOf (xss : List (List Int)) : Nat → List Int := fun i => xss[i]?.getD []
abbrev FamL (w : World) (B : Nat) (V : Value) (VS : Nat → Value) (xss : List (List Int)) : Prop := Fam w B V xss.length VS (rowsOf xss)

theorem ext_map (VS : Nat → Value) (m : Nat) (v : Value) : (List.range (m + 1)).map (ext VS m v) = (List.range m).map VS ++ [v] := by
  rw [List.range_succ, List.map_append]
  congr 1
  · apply List.map_congr_left
    intro i hi
    rw [ext, if_pos (List.mem_range.1 hi)]
  · simp [ext]

theorem FamL.push {w w1 : World} {B n : Nat} {V V' v : Value} {VS : Nat → Value} {xss : List (List Int)} {zs : List Int} {q : Option Nat} (h : FamL w B V VS xss)
    (hq : ∀ i, i < xss.length → (VS i).ownBlock = none ∨ (VS i).ownBlock ≠ q) (k : KeepI q w w1)
    (ho : w1.ownsRow B 42 1 V' (xss.length + 1) ((List.range xss.length).map VS ++ [v])) (hv : w1.ownsRow B 2 1 v n (zs.map (Value.int .i64))) (hn : n = zs.length) :
    FamL w1 B V' (ext VS xss.length v) (xss ++ [zs]) := by
  subst hn
  refine ⟨by rw [List.length_append, List.length_singleton, ext_map]; exact ho, fun i hi => ?_⟩
  rw [List.length_append, List.length_singleton] at hi
  by_cases hlt : i < xss.length
  · have e1 : rowsOf (xss ++ [zs]) i = rowsOf xss i := by unfold rowsOf; rw [List.getElem?_append_left hlt]
    rw [e1, ext, if_pos hlt]
    exact k.own (h.inn i hlt) (hq i hlt)
  · have e0 : i = xss.length := by omega
    subst e0
    have e1 : rowsOf (xss ++ [zs]) xss.length = zs := by unfold rowsOf; rw [List.getElem?_append_right (Nat.le_refl _), Nat.sub_self]; rfl
    rw [e1, ext, if_neg (Nat.lt_irrefl _)]
    exact hv

theorem FamL.keep {w w1 : World} {B : Nat} {V : Value} {VS : Nat → Value} {xss : List (List Int)} {q : Option Nat} (h : FamL w B V VS xss)
    (hq : ∀ i, i < xss.length → (VS i).ownBlock = none ∨ (VS i).ownBlock ≠ q) (k : KeepI q w w1) (ho : w1.ownsRow B 42 1 V xss.length ((List.range xss.length).map VS)) : FamL w1 B V VS xss :=
  ⟨ho, fun i hi => k.own (h.inn i hi) (hq i hi)⟩
theorem apart_symm {v v' : Value} (h : v.ownBlock = none ∨ v.ownBlock ≠ v'.ownBlock) : v'.ownBlock = none ∨ v'.ownBlock ≠ v.ownBlock := by
  rcases h with h | h
  · rw [h]
    exact Classical.em _
  · exact .inr (Ne.symm h)

theorem apart_new {w : World} {B n : Nat} {v u : Value} {xs : List Value} {e : TypeId} {s : Nat} (h : w.ownsRow B e s v n xs) (hu : ∀ k, u.ownBlock = some k → w.heap.size ≤ k) : v.ownBlock = none ∨ v.ownBlock ≠ u.ownBlock := by
  cases e1 : v.ownBlock with
  | none => exact .inl rfl
  | some k =>
    refine .inr fun e2 => ?_
    have h1 := (h.lt k e1).2
    have h2 := hu k e2.symm
    omega

theorem Sep.ext {m : Nat} {VS : Nat → Value} {u : Value} (h : Sep m VS) (hu : ∀ i, i < m → (VS i).ownBlock = none ∨ (VS i).ownBlock ≠ u.ownBlock) : Sep (m + 1) (ext VS m u) := by
  intro i j hi hj hij
  unfold Go.Proofs.Ytggebkcmokpcmaa.ext
  by_cases h1 : i < m
  · rw [if_pos h1]
    by_cases h2 : j < m
    · rw [if_pos h2]; exact h i j h1 h2 hij
    · rw [if_neg h2]; exact hu i h1
  · rw [if_neg h1]
    by_cases h2 : j < m
    · rw [if_pos h2]; exact apart_symm (hu j h2)
    · exact absurd (by omega) hij
theorem Fam.base {w : World} {B B' : Nat} {V : Value} {m : Nat} {VS : Nat → Value} {Y : Nat → List Int} (h : Fam w B V m VS Y) (hb : B' ≤ B) : Fam w B' V m VS Y :=
  ⟨own_base h.out hb, fun i hi => own_base (h.inn i hi) hb⟩

end Go.Proofs.Ytggebkcmokpcmaa
end
section
namespace Go.Proofs.Ytggebkcmokpcmaa
open Go.RowKit
set_option linter.unusedVariables false
set_option maxRecDepth 100000

/-- Block g holds one cell. -/
def Box1 (w : World) (g : Nat) (t : TypeId) (x : Value) : Prop := w.heap[g]? = some (.cells #[x] t (0, 0))
section
variable {w w' : World} {g : Nat} {t : TypeId} {x : Value}
theorem Box1.lt (h : Box1 w g t x) : g < w.heap.size := (Array.getElem?_eq_some_iff.1 h).1
theorem Box1.c (h : Box1 w g t x) : w.cell? ⟨g, 0, none⟩ = some x := cell_of_row w g 0 _ _ (0, 0) h
theorem Box1.fr (h : Box1 w g t x) (i : Nat) : w.frozen? ⟨g, i, none⟩ = false := by unfold Box1 at h; simp [World.frozen?, h]
theorem Box1.new (w : World) (t : TypeId) (x : Value) : Box1 (w.alloc (.cells #[x] t)) w.heap.size t x := heap_alloc_new w _
theorem Box1.alloc (h : Box1 w g t x) (o : Obj) : Box1 (w.alloc o) g t x := (heap_alloc_old w o h.lt).trans h
theorem Box1.below {B : Nat} (h : Box1 w g t x) (k : Below B w w') (hg : g < B) : Box1 w' g t x := (k.block g hg).trans h
theorem Box1.up (h : Box1 w g t x) (k : Below w.heap.size w w') : Box1 w' g t x := h.below k h.lt
theorem Box1.drewN (h : Box1 w g t x) (q : Nat) : Box1 (w.drewN q) g t x := h
theorem Box1.set (h : Box1 w g t x) (v : Value) : Box1 (w.setCell ⟨g, 0, none⟩ v) g t v := heap_setCell_same w g 0 _ t v h
theorem Box1.other (h : Box1 w g t x) (a : Addr) (v : Value) (hne : g ≠ a.block) : Box1 (w.setCell a v) g t x := (heap_setCell_other w a g v hne).trans h
end

theorem Fam.same {w w' : World} {B : Nat} {V : Value} {m : Nat} {VS : Nat → Value} {Y : Nat → List Int} (h : Fam w B V m VS Y) (k : ∀ g, B ≤ g → g < w.heap.size → w'.heap[g]? = w.heap[g]?) : Fam w' B V m VS Y :=
  ⟨own_sameblock h.out fun g hg => k g (h.out.lt g hg).1 (h.out.lt g hg).2, fun i hi => own_sameblock (h.inn i hi) fun g hg => k g ((h.inn i hi).lt g hg).1 ((h.inn i hi).lt g hg).2⟩
/-- The integers of a list. -/
def gOf (xs : List Int) : Nat → Int := fun j => xs[j]?.getD 0

/-- A call that answers b and leaves what there was. -/
def SaysB (b : Bool) (w : World) (e : Ending) (w' : World) : Prop := e = .returned (.bool b) ∧ Below w.heap.size w w'

theorem _root_.Go.RowKit.Below.step1 {w wx w' : World} (h : Below w.heap.size w wx) (k : Below wx.heap.size wx w') : Below w.heap.size w w' := h.trans (k.mono h.size)
end Go.Proofs.Ytggebkcmokpcmaa
end
