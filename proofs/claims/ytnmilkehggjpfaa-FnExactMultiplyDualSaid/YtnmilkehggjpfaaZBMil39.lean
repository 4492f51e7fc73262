/-
  Joined: PPow, PWord, WPascal.
-/
import Derived.Test.YtnmilkehggjpfaaZBMil38
import Derived.Test.YtnmilkehggjpfaaZBMil07
import Derived.Test.YtnmilkehggjpfaaZBMil37
import Derived.Test.YtnmilkehggjpfaaZBMil01
section
namespace Go.Proofs.Ytnmilkehggjpfaa.Ml
open Go.RowKit
set_option linter.unusedVariables false
set_option maxRecDepth 100000

/-- The terms of the product of k copies. -/
noncomputable def powT (X : Nat → List Int) (m : Nat) : Nat → List (List Int)
  | 0 => [[]]
  | j + 1 => prodT (rowsOf (powT X m j)) X (powT X m j).length m
theorem good_nil : goodE [] ∧ dgL [] = 0 := by
  refine ⟨⟨⟨by simp, .inl rfl, fun i hi => absurd hi (Nat.not_lt_zero _)⟩, ?_⟩, rfl⟩
  show (0 : Int) ≤ 40
  omega
/-- What the j-th power is. -/
structure PowOk (X : Nat → List Int) (m j : Nat) : Prop where
  el : okMl (rowsOf (powT X m j)) (powT X m j).length
  deg : 0 < m → 0 < (powT X m j).length → dgL (rowsOf (powT X m j) 0) = (j : Int) * dgL (X 0)
theorem pow_zero (X : Nat → List Int) (m : Nat) : PowOk X m 0 := by
  refine ⟨okMl_of (L := [[]]) (List.pairwise_singleton _ _) 0 fun x hx => by rw [List.mem_singleton.1 hx]; exact good_nil, fun _ _ => ?_⟩
  show dgL [] = _
  rw [good_nil.2]
  simp
theorem pow_fac {X : Nat → List Int} {m j : Nat} (hX : okMl X m) (h : PowOk X m j) (hd : 0 < m → ((j : Int) + 1) * dgL (X 0) ≤ 40) : Fac (rowsOf (powT X m j)) X (powT X m j).length m :=
  ⟨h.el, hX, fun a b => by
    have h1 := hd b
    rw [h.deg b a]
    rw [Int.add_mul, Int.one_mul] at h1
    exact h1⟩
theorem pow_succ {X : Nat → List Int} {m j : Nat} (hX : okMl X m) (h : PowOk X m j) (hd : 0 < m → ((j : Int) + 1) * dgL (X 0) ≤ 40) : PowOk X m (j + 1) := by
  have hF := pow_fac hX h hd
  refine ⟨hF.el, fun hm h0 => ?_⟩
  have h1 := hF.deg h0
  show dgL (rowsOf (prodT _ _ _ _) 0) = _
  rw [h1]
  by_cases c : 0 < (powT X m j).length
  · rw [h.deg hm c]
    have : ((j + 1 : Nat) : Int) = (j : Int) + 1 := by omega
    rw [this, Int.add_mul, Int.one_mul]
  · exfalso
    have e : (powT X m j).length = 0 := by omega
    have hz : prodT (rowsOf (powT X m j)) X (powT X m j).length m = [] := by
      rw [e]
      rfl
    change 0 < (prodT (rowsOf (powT X m j)) X (powT X m j).length m).length at h0
    rw [hz] at h0
    simp at h0
theorem pow_le {d : Int} (hd : 0 ≤ d) {j k : Nat} (h : j < k) (hk : (k : Int) * d ≤ 40) : ((j : Int) + 1) * d ≤ 40 := by
  have : ((j : Int) + 1) * d ≤ (k : Int) * d := Int.mul_le_mul_of_nonneg_right (by omega) hd
  omega
/-- All powers up to the k-th one. -/
theorem pow_all {X : Nat → List Int} {m k : Nat} (hX : okMl X m) (hk : 0 < m → (k : Int) * dgL (X 0) ≤ 40) : ∀ j, j ≤ k → PowOk X m j
  | 0, _ => pow_zero X m
  | j + 1, hj => pow_succ hX (pow_all hX hk j (by omega)) fun hm => pow_le (okMl_deg hX hm).1 (by omega) (hk hm)
theorem pow_ok {X : Nat → List Int} {m j : Nat} (h : PowOk X m j) : ∀ x ∈ powT X m j, x.length ≤ 5 ∧ ∀ z ∈ x, 0 ≤ z ∧ z ≤ 10000000 := fun x hx => by
  obtain ⟨i, hi, rfl⟩ := List.mem_iff_getElem.1 hx
  have := h.el.2 i hi
  have e : rowsOf (powT X m j) i = (powT X m j)[i] := by unfold rowsOf; rw [List.getElem?_eq_getElem hi]; rfl
  rw [stepM, e] at this
  refine ⟨good_len this.1, fun z hz => ?_⟩
  have := good_small this.1 z hz
  omega

/-- The struct, the result's variable, and the list under way. -/
structure PwI (w : World) (va : Value) (S : Value) (VS : Nat → Value) (L : List (List Int)) (W : World) : Prop where
  bel : Below w.heap.size w W
  bA : Box1 W w.heap.size 45 va
  bR : Box1 W (w.heap.size + 1) 45 (.slice none 0 0)
  fam : FamL W (w.heap.size + 2) S VS L
  sep : Sep L.length VS
/-- The two boxes alone. -/
structure Duo (w : World) (va : Value) (W : World) : Prop where
  bel : Below w.heap.size w W
  bA : Box1 W w.heap.size 45 va
  bR : Box1 W (w.heap.size + 1) 45 (.slice none 0 0)
theorem Duo.up {w : World} {va : Value} {W W' : World} (h : Duo w va W) (k : Below W.heap.size W W') : Duo w va W' := ⟨h.bel.step1 k, h.bA.up k, h.bR.up k⟩
theorem Duo.size {w : World} {va : Value} {W : World} (h : Duo w va W) : w.heap.size + 2 ≤ W.heap.size := by have := h.bR.lt; omega
theorem Duo.start (w : World) (va : Value) : Duo w va ((w.alloc (.cells #[va] 45)).alloc (.cells #[.slice none 0 0] 45)) := by
  refine ⟨((Below.refl w.heap.size w).alloc (Nat.le_refl _) _).alloc (by simp) _, (Box1.new w _ _).alloc _, ?_⟩
  have := Box1.new (w.alloc (.cells #[va] 45)) 45 (.slice none 0 0)
  simpa using this
theorem fin2 {w w5 : World} {g : Nat} {V x : Value} {VS : Nat → Value} {L : List (List Int)} (hF : FamL w5 g V VS L) (hBe : Below w.heap.size w w5) (h1 : w.heap.size + 1 < g) (BR : Box1 w5 (w.heap.size + 1) 45 x) :
    Box1 (w5.setCell ⟨w.heap.size + 1, 0, none⟩ V) (w.heap.size + 1) 45 V ∧ FamL (w5.setCell ⟨w.heap.size + 1, 0, none⟩ V) w.heap.size V VS L ∧ Below w.heap.size w (w5.setCell ⟨w.heap.size + 1, 0, none⟩ V) :=
  ⟨BR.set V, (Fam.same hF fun q hq hlt => heap_setCell_other _ _ _ _ (by simp; omega)).base (by omega), hBe.setCell (p := ⟨w.heap.size + 1, 0, none⟩) (by simp) V⟩

theorem one_famP {w3 : World} {B : Nat} {v : Value} {x : List Int} (h : w3.ownsRow B 2 1 v x.length (x.map (Value.int .i64))) (hB : B ≤ w3.heap.size) : FamL (w3.alloc (.cells #[v] 65)) B (.slice (some ⟨w3.heap.size, 0, none⟩) 1 1) (fun _ => v) [x] := by
  refine ⟨⟨rfl, .inr ⟨w3.heap.size, 1, #[v], rfl, hB, heap_alloc_new w3 _, Nat.le_refl _, by unfold maxLen; omega, rfl, by simp [List.range_succ]⟩⟩, fun i hi => ?_⟩
  obtain rfl : i = 0 := by simp at hi; exact hi
  exact h.alloc _

/-- The state of the program when it begins to multiply. -/
theorem pw_start {w W : World} {va : Value} (D : Duo w va W) : PwI w va (.slice (some ⟨W.heap.size + 1, 0, none⟩) 1 1) (fun _ => .slice (some ⟨W.heap.size, 0, none⟩) 0 0) [[]] ((W.alloc (.cells #[] 2)).alloc (.cells #[.slice (some ⟨W.heap.size, 0, none⟩) 0 0] 65)) := by
  have b1 : Below W.heap.size W (W.alloc (.cells #[] 2)) := (Below.refl _ W).alloc (Nat.le_refl _) _
  have b2 : Below W.heap.size W ((W.alloc (.cells #[] 2)).alloc (.cells #[.slice (some ⟨W.heap.size, 0, none⟩) 0 0] 65)) := b1.alloc b1.size _
  have h0 : (W.alloc (.cells #[] 2)).ownsRow W.heap.size 2 1 (.slice (some ⟨W.heap.size, 0, none⟩) 0 0) ([] : List Int).length (([] : List Int).map (Value.int .i64)) := World.ownsRow_made W #[] 0 (Nat.le_refl _) (Nat.zero_le _) (by simp)
  have D2 := D.up b2
  have F := one_famP (B := w.heap.size + 2) (x := []) (own_base h0 D.size) (by have := D.size; simp; omega)
  rw [World.size_alloc] at F
  exact ⟨D2.bel, D2.bA, D2.bR, F, fun i j hi hj hij => by simp at hi hj; omega⟩

/-- The struct, the result's variable, the box of the power, and the power. -/
structure PwJ (w : World) (p : Nat) (va S : Value) (VS : Nat → Value) (L : List (List Int)) (W : World) : Prop where
  duo : Duo w va W
  hp : w.heap.size + 2 ≤ p
  bP : Box1 W p 45 S
  fam : FamL W (w.heap.size + 2) S VS L
  sep : Sep L.length VS
/-- The state of the program when it begins to multiply. -/
theorem pj_start {w W : World} {va : Value} (D : Duo w va W) : PwJ w (W.heap.size + 1 + 1) va (.slice (some ⟨W.heap.size + 1, 0, none⟩) 1 1) (fun _ => .slice (some ⟨W.heap.size, 0, none⟩) 0 0) [[]] (((W.alloc (.cells #[] 2)).alloc (.cells #[.slice (some ⟨W.heap.size, 0, none⟩) 0 0] 65)).alloc (.cells #[.slice (some ⟨W.heap.size + 1, 0, none⟩) 1 1] 45)) := by
  have P := pw_start D
  have bx : Below ((W.alloc (.cells #[] 2)).alloc (.cells #[.slice (some ⟨W.heap.size, 0, none⟩) 0 0] 65)).heap.size ((W.alloc (.cells #[] 2)).alloc (.cells #[.slice (some ⟨W.heap.size, 0, none⟩) 0 0] 65)) (((W.alloc (.cells #[] 2)).alloc (.cells #[.slice (some ⟨W.heap.size, 0, none⟩) 0 0] 65)).alloc (.cells #[.slice (some ⟨W.heap.size + 1, 0, none⟩) 1 1] 45)) := (Below.refl _ _).alloc (Nat.le_refl _) _
  have B := Box1.new ((W.alloc (.cells #[] 2)).alloc (.cells #[.slice (some ⟨W.heap.size, 0, none⟩) 0 0] 65)) 45 (.slice (some ⟨W.heap.size + 1, 0, none⟩) 1 1)
  rw [World.size_alloc, World.size_alloc] at B
  exact ⟨⟨P.bel.step1 bx, P.bA.up bx, P.bR.up bx⟩, by have := D.size; omega, B, Fam.below P.fam bx, P.sep⟩
theorem PwJ.next {w w5 wr : World} {p : Nat} {va S V : Value} {VS U : Nat → Value} {L M : List (List Int)} (h : PwJ w p va S VS L wr) (b : Below wr.heap.size wr w5) (f : FamL w5 wr.heap.size V U M) (s : Sep M.length U) : PwJ w p va V U M (w5.setCell ⟨p, 0, none⟩ V) := by
  have hlt := h.bP.lt
  have hp := h.hp
  have D5 := h.duo.up b
  refine ⟨⟨D5.bel.setCell (p := ⟨p, 0, none⟩) (by simp; omega) V, (heap_setCell_other _ _ _ _ (by simp; omega)).trans D5.bA, (heap_setCell_other _ _ _ _ (by simp; omega)).trans D5.bR⟩, hp, (h.bP.up b).set V, ?_, s⟩
  exact (Fam.same f fun q hq hlt => heap_setCell_other _ _ _ _ (by simp; omega)).base (by omega)
end Go.Proofs.Ytnmilkehggjpfaa.Ml
end
section
namespace Go.Proofs.Ytnmilkehggjpfaa.Ml
open Go.RowKit
set_option linter.unusedVariables false
set_option maxRecDepth 100000

/-- The terms of the element for which a word stands. -/
noncomputable def wT : List Int → List (List Int)
  | [] => [[]]
  | n :: l => prodT (rowsOf [[n]]) (rowsOf (wT l)) 1 (wT l).length
/-- A word: letters of at least 1, and their sum at most 40. -/
def okW (l : List Int) : Prop := (∀ z ∈ l, 1 ≤ z) ∧ l.sum ≤ 40
theorem okW_tail {n : Int} {l : List Int} (h : okW (n :: l)) : okW l := ⟨fun z hz => h.1 z (List.mem_cons_of_mem _ hz), by
  have h1 := h.1 n List.mem_cons_self
  have h2 := h.2
  rw [List.sum_cons] at h2
  omega⟩
theorem okW_nonneg : ∀ {l : List Int}, (∀ z ∈ l, 1 ≤ z) → 0 ≤ l.sum
  | [], _ => by simp
  | n :: l, h => by
    have h1 := h n List.mem_cons_self
    have h2 := okW_nonneg (l := l) fun z hz => h z (List.mem_cons_of_mem _ hz)
    rw [List.sum_cons]
    omega
theorem okW_head {n : Int} {l : List Int} (h : okW (n :: l)) : 1 ≤ n ∧ n ≤ 40 ∧ n + l.sum ≤ 40 := by
  have h1 := h.1 n List.mem_cons_self
  have h2 := h.2
  have h3 := okW_nonneg fun z hz => h.1 z (List.mem_cons_of_mem _ hz)
  rw [List.sum_cons] at h2
  omega
theorem good_one {n : Int} (h1 : 1 ≤ n) (h2 : n ≤ 40) : goodE [n] ∧ dgL [n] = n := by
  have hE : isE [n] := isE_of (by simp) (fun z hz => by rw [List.mem_singleton.1 hz]; omega) (.inr (by simp; omega))
  have hd : dgL [n] = n := by
    rw [dgL_wt hE, wt5 [n] (by simp)]
    simp
  exact ⟨⟨hE, by rw [hd]; exact h2⟩, hd⟩
theorem ok_one {n : Int} (h1 : 1 ≤ n) (h2 : n ≤ 40) : okMl (rowsOf [[n]]) 1 :=
  okMl_of (L := [[n]]) (List.pairwise_singleton _ _) n fun x hx => by rw [List.mem_singleton.1 hx]; exact good_one h1 h2
structure WOk (l : List Int) : Prop where
  el : okMl (rowsOf (wT l)) (wT l).length
  deg : 0 < (wT l).length → dgL (rowsOf (wT l) 0) = l.sum
theorem w_fac {n : Int} {l : List Int} (h : okW (n :: l)) (hl : WOk l) : Fac (rowsOf [[n]]) (rowsOf (wT l)) 1 (wT l).length := by
  have hn := okW_head h
  refine ⟨ok_one hn.1 hn.2.1, hl.el, fun _ b => ?_⟩
  rw [hl.deg b]
  show dgL [n] + _ ≤ 40
  rw [(good_one hn.1 hn.2.1).2]
  exact hn.2.2
theorem w_ok : ∀ {l : List Int}, okW l → WOk l
  | [], _ => ⟨okMl_of (L := [[]]) (List.pairwise_singleton _ _) 0 fun x hx => by rw [List.mem_singleton.1 hx]; exact good_nil, fun _ => good_nil.2⟩
  | n :: l, h => by
    have hl := w_ok (okW_tail h)
    have hF := w_fac h hl
    have hn := okW_head h
    refine ⟨hF.el, fun h0 => ?_⟩
    show dgL (rowsOf (prodT _ _ _ _) 0) = _
    rw [hF.deg h0, List.sum_cons]
    show dgL [n] + _ = _
    rw [(good_one hn.1 hn.2.1).2]
    by_cases c : 0 < (wT l).length
    · rw [hl.deg c]
    · exfalso
      have e : (wT l).length = 0 := by omega
      have hz : prodT (rowsOf [[n]]) (rowsOf (wT l)) 1 (wT l).length = [] := by
        rw [e]
        rfl
      change 0 < (prodT (rowsOf [[n]]) (rowsOf (wT l)) 1 (wT l).length).length at h0
      rw [hz] at h0
      simp at h0

/-- The world when the lists [[n]] were made. -/
def wSq (W : World) (n : Int) : World := (W.alloc (.cells #[.int .i64 n] 2)).alloc (.cells #[.slice (some ⟨W.heap.size, 0, none⟩) 1 1] 65)
theorem wSq_below (W : World) (n : Int) : Below W.heap.size W (wSq W n) := ((Below.refl _ W).alloc (Nat.le_refl _) _).alloc (by simp) _
theorem wSq_fam (W : World) (n : Int) : FamL (wSq W n) W.heap.size (.slice (some ⟨W.heap.size + 1, 0, none⟩) 1 1) (fun _ => .slice (some ⟨W.heap.size, 0, none⟩) 1 1) [[n]] := by
  have h0 : (W.alloc (.cells #[.int .i64 n] 2)).ownsRow W.heap.size 2 1 (.slice (some ⟨W.heap.size, 0, none⟩) 1 1) [n].length ([n].map (Value.int .i64)) :=
    ⟨rfl, .inr ⟨W.heap.size, 1, #[.int .i64 n], rfl, Nat.le_refl _, heap_alloc_new W _, Nat.le_refl _, by unfold maxLen; omega, rfl, rfl⟩⟩
  have F := one_famP (B := W.heap.size) (x := [n]) h0 (by simp)
  rw [World.size_alloc] at F
  exact F

/-- What the loop of spec.l05Word keeps. -/
structure WdI (w : World) (S : Value) (VS : Nat → Value) (L : List (List Int)) (W : World) : Prop where
  bel : Below w.heap.size w W
  fam : FamL W w.heap.size S VS L
  sep : Sep L.length VS
theorem wd_start (w : World) : WdI w (.slice (some ⟨w.heap.size + 1, 0, none⟩) 1 1) (fun _ => .slice (some ⟨w.heap.size, 0, none⟩) 0 0) [[]] ((w.alloc (.cells #[] 2)).alloc (.cells #[.slice (some ⟨w.heap.size, 0, none⟩) 0 0] 65)) := by
  have b2 : Below w.heap.size w ((w.alloc (.cells #[] 2)).alloc (.cells #[.slice (some ⟨w.heap.size, 0, none⟩) 0 0] 65)) := ((Below.refl _ w).alloc (Nat.le_refl _) _).alloc (by simp) _
  have h0 : (w.alloc (.cells #[] 2)).ownsRow w.heap.size 2 1 (.slice (some ⟨w.heap.size, 0, none⟩) 0 0) ([] : List Int).length (([] : List Int).map (Value.int .i64)) := World.ownsRow_made w #[] 0 (Nat.le_refl _) (Nat.zero_le _) (by simp)
  have F := one_famP (B := w.heap.size) (x := []) h0 (by simp)
  rw [World.size_alloc] at F
  exact ⟨b2, F, fun i j hi hj hij => by simp at hi hj; omega⟩

set_option maxHeartbeats 1000000 in
theorem l05Word_any (v : Value) (n : Nat) (G : Nat → Int) (w : World) (hr : RdI w v n G) (hok : okW ((List.range n).map G)) (hn : n ≤ 1000) :
    Calls Try.prog 85 #[v] w (TermsPost (wT ((List.range n).map G)) w) := by
  obtain ⟨a, cap, rfl, _, hc⟩ := hr
  have HC : Hid (∀ i, i < n → ∃ b off, a = some ⟨b, off, none⟩ ∧ w.cell? ⟨b, off + i, none⟩ = some (.int .i64 (G i))) := Lib.hid fun i hi => by
    obtain ⟨b, off, rfl, h⟩ := hc.resolve_left (by omega)
    exact ⟨b, off, rfl, h i hi⟩
  have HOK := Lib.hid hok
  have P0 := Lib.hid (wd_start w)
  have hd0 : Hid (wT (((List.range n).map G).drop n) = [[]]) := Lib.hid (by rw [List.drop_of_length_le (by simp)]; rfl)
  have hw0 : wrap64 ((n : Int) - 1) = (n : Int) - 1 := by unfold wrap64; omega
  clear hc hok
  go_enter Try.func85, Try.ntmps85
  go_wp2_with fail
  go_loopw [3, 4] (fun S kv wr => ∃ (j : Nat) (VS : Nat → Value), j ≤ n ∧ kv = .int .i64 ((j : Int) - 1) ∧ Hid (WdI w S VS (wT (((List.range n).map G).drop j)) wr)) (fun _ kv _ => (intOf kv + 1).toNat)
  case atStart => exact ⟨n, _, Nat.le_refl _, rfl, by rw [hd0.out]; exact P0⟩
  case round =>
    clear P0 hd0 hw0
    obtain ⟨j, VS, hj, rfl, hI⟩ := hrel
    by_cases h0 : 0 < j
    · obtain ⟨i, rfl⟩ : ∃ i, j = i + 1 := ⟨j - 1, by omega⟩
      obtain ⟨b, off, rfl, hcell⟩ := HC.out i (by omega)
      have c1 : wr.cell? ⟨b, off + i, none⟩ = some (.int .i64 (G i)) := (hI.out.bel.cell (p := ⟨b, off + i, none⟩) (World.block_lt_of_cell? w _ hcell)).trans hcell
      have hdr : ((List.range n).map G).drop i = G i :: ((List.range n).map G).drop (i + 1) := by
        rw [List.drop_eq_getElem_cons (by simp; omega)]
        simp
      have okd : ∀ k, okW (((List.range n).map G).drop k) := fun k => by
        refine ⟨fun z hz => HOK.out.1 z (List.mem_of_mem_drop hz), ?_⟩
        have e1 := HOK.out.2
        have e2 : ((List.range n).map G).sum = (((List.range n).map G).take k).sum + (((List.range n).map G).drop k).sum := by rw [← List.sum_append, List.take_append_drop]
        have e3 := okW_nonneg fun z hz => HOK.out.1 z (List.mem_of_mem_take (i := k) hz)
        omega
      have o1 := okd i
      rw [hdr] at o1
      have FC := w_fac o1 (w_ok (okW_tail o1))
      obtain ⟨sa, sc, rfl, _, _⟩ := hI.out.fam.head
      have ST : Hid (Calls Try.prog 117 #[.slice (some ⟨wr.heap.size + 1, 0, none⟩) 1 1, .slice sa (wT (((List.range n).map G).drop (i + 1))).length sc] (wSq wr (G i)) (TermsPost (prodT (rowsOf [[G i]]) (rowsOf (wT (((List.range n).map G).drop (i + 1)))) 1 (wT (((List.range n).map G).drop (i + 1))).length) (wSq wr (G i)))) :=
        Lib.hid (specTimes FC _ _ _ VS _ _ (wSq wr (G i)) (wSq_fam wr (G i)) (Fam.below hI.out.fam (wSq_below wr (G i))))
      have HT : Hid (wT (((List.range n).map G).drop i) = prodT (rowsOf [[G i]]) (rowsOf (wT (((List.range n).map G).drop (i + 1)))) 1 (wT (((List.range n).map G).drop (i + 1))).length) := Lib.hid (by rw [hdr]; rfl)
      have BI := Lib.hid (hI.out.bel.step1 (wSq_below wr (G i)))
      have hj0 : (0 : Int) ≤ ((i + 1 : Nat) : Int) - 1 := by omega
      have hji : ((i + 1 : Nat) : Int) - 1 = (i : Int) := by omega
      rw [hji] at hj0 ⊢
      have hin : (i : Int) < (n : Int) := by omega
      have hwi : wrap64 ((i : Int) - 1) = (i : Int) - 1 := by unfold wrap64; omega
      generalize (wT (((List.range n).map G).drop (i + 1))).length = q at *
      clear hcell hdr okd o1 FC hI hji
      go_wp2_with fail
      refine ST.out.mono ?_
      rintro e w5 ⟨V5, VS5, rfl, f5, s5, b5⟩
      have P5 : Hid (WdI w V5 VS5 (wT (((List.range n).map G).drop i)) w5) := Lib.hid ⟨BI.out.step1 b5, by rw [HT.out]; exact Fam.base f5 BI.out.size, by rw [HT.out]; exact s5⟩
      clear f5 s5 b5 ST
      go_wp2_with fail
      go_roundw
      case rel => exact ⟨i, VS5, by omega, by first | rfl | exact congrArg (Value.int .i64) hwi, P5⟩
      case measure => simp [intOf]
    · obtain rfl : j = 0 := by omega
      have hj0 : ¬ (0 : Int) ≤ ((0 : Nat) : Int) - 1 := by omega
      go_wp2_with fail
      go_ret
      exact ⟨_, VS, rfl, hI.out.fam, hI.out.sep, hI.out.bel⟩


set_option maxHeartbeats 1000000 in
theorem squareBefore_any (n : Int) (a : Option Addr) (q cap : Nat) (L : List (List Int)) (w : World)
    (S : Hid (∀ wx, Below w.heap.size w wx → Calls Try.prog 116 #[.agg #[.slice (some ⟨wx.heap.size + 1, 0, none⟩) 1 1], .agg #[.slice a q cap]] (wSq wx n) (ResT L (wSq wx n)))) :
    Calls Try.prog 83 #[.int .i64 n, .agg #[.slice a q cap]] w (ResT L w) := by
  have t2 := Try.underlying45
  obtain ⟨w1, hw1⟩ : ∃ w1, w1 = ((w.alloc (.cells #[.slice a q cap] 45)).alloc (.cells #[.slice none 0 0] 45)) := ⟨_, rfl⟩
  have D1 : Hid (Duo w (.slice a q cap) w1) := Lib.hid (by rw [hw1]; exact Duo.start _ _)
  go_enter Try.func83, Try.ntmps83
  go_upto_region 1 with fail
  rw [← hw1]
  clear hw1
  have d0 := D1.out.bA.c
  have ST := S.out w1 D1.out.bel
  have HW : Hid (∀ x, (w1.alloc (.cells #[.int .i64 n] 2)).alloc (.cells #[.slice (some ⟨w1.heap.size, 0, none⟩) 1 1] 65) = x → x = wSq w1 n) := Lib.hid fun x h => h.symm
  have ST := Lib.hid ST
  have d2 : ((w1.alloc (.cells #[.int .i64 n] 2)).alloc (.cells #[.slice (some ⟨w1.heap.size, 0, none⟩) 1 1] 65)).cell? ⟨w.heap.size, 0, none⟩ = some (.slice a q cap) := (D1.out.bA.up (wSq_below w1 n)).c
  have hlt1 := D1.out.bA.lt
  go_wp2_with fail
  clear d2
  generalize hg : (w1.alloc (.cells #[.int .i64 n] 2)).alloc (.cells #[.slice (some ⟨w1.heap.size, 0, none⟩) 1 1] 65) = wg
  obtain rfl := HW.out wg hg
  clear HW hg
  refine ST.out.mono ?_
  rintro e w5 ⟨V, VS, rfl, hF, hS, hb5⟩
  obtain ⟨av, cv, rfl, _, _⟩ := hF.head
  have hsz := D1.out.size
  have b15 := (wSq_below w1 n).step1 hb5
  have HF := Lib.hid (Fam.base hF (wSq_below w1 n).size)
  have HS := Lib.hid hS
  have D5 := Lib.hid (D1.out.up b15)
  clear hF hS hb5 b15 d0 ST
  have dR := D5.out.bR.c
  have fR := D5.out.bR.fr 0
  have FIN := fin2 (w := w) HF.out D5.out.bel (by omega) D5.out.bR
  go_wp2_with fail
  refine bodyPost_ret (results_cell_row rfl _ _ (w.heap.size + 1) 45 _ (0, 0) _ rfl FIN.1 t2 rfl (by kernel_rfl)) rfl ?_
  exact ⟨_, _, rfl, FIN.2.1, HS.out, FIN.2.2⟩
end Go.Proofs.Ytnmilkehggjpfaa.Ml
end
section
namespace Go.Proofs.Ytnmilkehggjpfaa
set_option maxRecDepth 100000

/-- The parity of the binomial number, by digits. -/
def bpar (n k : Nat) : Nat := if n &&& k = k then 1 else 0

theorem and_step (n k : Nat) : (n &&& k = k) ↔ (n % 2 &&& k % 2 = k % 2) ∧ (n / 2 &&& k / 2 = k / 2) := by
  have h1 : (n &&& k) / 2 = n / 2 &&& k / 2 := Nat.and_div_two
  have h2 : (n &&& k) % 2 = n % 2 &&& k % 2 := by
    have := Nat.and_mod_two_pow (a := n) (b := k) (n := 1)
    simpa using this
  constructor
  · intro h
    rw [h] at h1 h2
    exact ⟨h2.symm, h1.symm⟩
  · rintro ⟨h3, h4⟩
    rw [h3] at h2
    rw [h4] at h1
    omega

theorem bpar_step (a b i j : Nat) (hi : i < 2) (hj : j < 2) : bpar (2 * a + i) (2 * b + j) = if i &&& j = j then bpar a b else 0 := by
  unfold bpar
  have e := and_step (2 * a + i) (2 * b + j)
  rw [show (2 * a + i) % 2 = i by omega, show (2 * b + j) % 2 = j by omega, show (2 * a + i) / 2 = a by omega, show (2 * b + j) / 2 = b by omega] at e
  by_cases h1 : i &&& j = j
  · rw [if_pos h1]
    by_cases h2 : a &&& b = b
    · rw [if_pos (e.2 ⟨h1, h2⟩), if_pos h2]
    · rw [if_neg (fun h => h2 (e.1 h).2), if_neg h2]
  · rw [if_neg h1, if_neg (fun h => h1 (e.1 h).1)]

theorem bpar_oo (a b : Nat) : bpar (2 * a + 1) (2 * b + 1) = bpar a b := bpar_step a b 1 1 (by omega) (by omega)
theorem bpar_oe (a b : Nat) : bpar (2 * a + 1) (2 * b) = bpar a b := bpar_step a b 1 0 (by omega) (by omega)
theorem bpar_eo (a b : Nat) : bpar (2 * a) (2 * b + 1) = 0 := bpar_step a b 0 1 (by omega) (by omega)
theorem bpar_ee (a b : Nat) : bpar (2 * a) (2 * b) = bpar a b := bpar_step a b 0 0 (by omega) (by omega)

theorem pascal : ∀ n k : Nat, (bpar n (k + 1) + bpar n k) % 2 = bpar (n + 1) (k + 1) := by
  intro n
  induction n using Nat.strongRecOn with
  | _ n ih =>
    intro k
    obtain ⟨a, ha | ha⟩ : ∃ a, n = 2 * a ∨ n = 2 * a + 1 := ⟨n / 2, by omega⟩
    · obtain ⟨b, hb | hb⟩ : ∃ b, k = 2 * b ∨ k = 2 * b + 1 := ⟨k / 2, by omega⟩
      · subst ha hb
        rw [bpar_eo, bpar_ee, bpar_oo]
        unfold bpar
        split <;> rfl
      · subst ha hb
        rw [show 2 * b + 1 + 1 = 2 * (b + 1) by omega, bpar_ee, bpar_eo, bpar_oe]
        unfold bpar
        split <;> rfl
    · obtain ⟨b, hb | hb⟩ : ∃ b, k = 2 * b ∨ k = 2 * b + 1 := ⟨k / 2, by omega⟩
      · subst ha hb
        rw [bpar_oo, bpar_oe, show 2 * a + 1 + 1 = 2 * (a + 1) by omega, bpar_eo]
        omega
      · subst ha hb
        rw [show 2 * b + 1 + 1 = 2 * (b + 1) by omega, bpar_oe, bpar_oo, show 2 * a + 1 + 1 = 2 * (a + 1) by omega, bpar_ee]
        exact ih a (by omega) b
end Go.Proofs.Ytnmilkehggjpfaa
end
