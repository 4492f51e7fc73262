/-
  Joined: YPlain, KOwn.
-/
import Derived.Test.YtnfhfilconcajaaZxactSquareOn17
import Derived.Test.YtnfhfilconcajaaZxactSquareOn07
import Derived.Test.YtnfhfilconcajaaZxactSquareOn04
import Derived.Laws.AppendOwnNone
section
namespace Go.Proofs.Ytnfhfilconcajaa
open Go.RowKit
set_option linter.unusedVariables false
set_option maxRecDepth 100000

/-- What occurs an odd number of times, in order. -/
def oddY : List (List Int) → List (List Int)
  | [] => []
  | x :: l => mrg [x] (oddY l)
theorem oddY_spec : ∀ l : List (List Int), Asc (oddY l) ∧ ∀ z, z ∈ oddY l ↔ par l z
  | [] => ⟨List.Pairwise.nil, fun z => by simp [oddY, par]⟩
  | x :: l => by
    obtain ⟨h1, h2⟩ := oddY_spec l
    obtain ⟨k1, k2⟩ := mrg_spec [x] (oddY l) (List.pairwise_singleton _ _) h1
    refine ⟨k1, fun z => ?_⟩
    rw [oddY, k2, h2]
    show _ ↔ (x = z ∧ ¬ par l z) ∨ (x ≠ z ∧ par l z)
    by_cases e : x = z
    · subst e; simp
    · have : z ∉ [x] := by simp; exact fun h => e h.symm
      simp [this, e]
theorem oddY_eq {l : List (List Int)} {zs : List (List Int)} (ha : Asc zs) (h : ∀ z, z ∈ zs ↔ par l z) : zs = oddY l :=
  asc_ext _ _ ha (oddY_spec l).1 fun z => by rw [h, (oddY_spec l).2]
theorem oddY_mem {l : List (List Int)} {z : List Int} (h : z ∈ oddY l) : z ∈ l := par_mem _ _ (((oddY_spec l).2 z).1 h)
theorem oddY_par {l l' : List (List Int)} (h : ∀ z, par l z ↔ par l' z) : oddY l = oddY l' := oddY_eq (oddY_spec l).1 fun z => by rw [(oddY_spec l).2, h]
theorem oddY_asc {l : List (List Int)} (h : Asc l) : oddY l = l := (oddY_eq h fun z => by rw [par_nodup l h.nodup]).symm
theorem par_oddY (l : List (List Int)) (z : List Int) : par (oddY l) z ↔ par l z := by rw [par_nodup _ (oddY_spec l).1.nodup, (oddY_spec l).2]

/-- Four exponents with the sum d. -/
def Mono4 (d : Nat) (x : List Int) : Prop := ∃ a b c f : Nat, x = [(a : Int), (b : Int), (c : Int), (f : Int)] ∧ a + b + c + f = d
theorem Mono4.len {d : Nat} {x : List Int} (h : Mono4 d x) : x.length = 4 := by obtain ⟨a, b, c, f, rfl, _⟩ := h; rfl
theorem mono4_is (d a b c : Nat) (h : a + b + c ≤ d) : Mono4 d (mono4 d a b c) := ⟨a, b, c, d - a - b - c, by unfold mono4; rw [show ((d : Int) - a - b - c) = ((d - a - b - c : Nat) : Int) by omega], by omega⟩
/-- The place of four exponents. -/
def ix4 : List Int → Nat
  | [a, b, c, _] => ixM a.toNat b.toNat c.toNat
  | _ => 0
theorem ix4_mono (d a b c : Nat) : ix4 (mono4 d a b c) = ixM a b c := rfl
theorem Mono4.eq {d : Nat} {x : List Int} (h : Mono4 d x) : ∃ a b c : Nat, a + b + c ≤ d ∧ x = mono4 d a b c ∧ ix4 x = ixM a b c := by
  obtain ⟨a, b, c, f, rfl, e⟩ := h
  exact ⟨a, b, c, by omega, by unfold mono4; rw [show ((d : Int) - a - b - c) = (f : Int) by omega], rfl⟩
theorem ix4_inj {d : Nat} (hd : d ≤ 40) (x y : List Int) (hx : Mono4 d x) (hy : Mono4 d y) (e : ix4 x = ix4 y) : x = y := by
  obtain ⟨a, b, c, h1, rfl, e1⟩ := hx.eq
  obtain ⟨a', b', c', h2, rfl, e2⟩ := hy.eq
  rw [e1, e2] at e
  unfold ixM at e
  have ha : a = a' := by omega
  subst ha
  have hb : b = b' := by omega
  subst hb
  have hc : c = c' := by omega
  subst hc
  rfl
theorem par_oddN (i : Nat) : ∀ l : List Nat, oddN l i = true ↔ par l i
  | [] => by simp [par, oddN]
  | x :: l => by
    have ih := par_oddN i l
    show _ ↔ (x = i ∧ ¬ par l i) ∨ (x ≠ i ∧ par l i)
    rw [← ih]
    unfold oddN
    rw [List.count_cons]
    by_cases e : x = i
    · subst e
      simp
      omega
    · have : (x == i) = false := by rw [beq_eq_false_iff_ne]; exact e
      simp [e, this]

theorem mem_monL (N : List Nat) (d : Nat) (x : List Int) : x ∈ monL N d ↔ ∃ a b c, a + b + c ≤ d ∧ oddN N (ixM a b c) = true ∧ x = mono4 d a b c := by
  unfold monL rowA rowB rowC
  simp only [List.mem_flatMap, List.mem_range, List.mem_map, List.mem_filter]
  constructor
  · rintro ⟨a, ha, b, hb, c, ⟨hc, ho⟩, rfl⟩
    exact ⟨a, b, c, by omega, ho, rfl⟩
  · rintro ⟨a, b, c, h, ho, rfl⟩
    exact ⟨a, by omega, b, by omega, c, ⟨by omega, ho⟩, rfl⟩
theorem lexLt_cons_ne {a b : Int} {l l' : List Int} (h : a < b) : lexLt (a :: l) (b :: l') = true := by
  rw [lexLt, if_neg (by omega)]
  exact decide_eq_true h
theorem lexLt_cons_eq (a : Int) (l l' : List Int) : lexLt (a :: l) (a :: l') = lexLt l l' := by rw [lexLt, if_pos rfl]
theorem range_lt (n : Nat) : (List.range n).Pairwise (· < ·) := List.pairwise_lt_range
theorem asc_monL (N : List Nat) (d : Nat) : Asc (monL N d) := by
  unfold monL rowA Asc
  rw [List.pairwise_flatMap]
  refine ⟨fun a _ => ?_, (range_lt _).imp ?_⟩
  · unfold rowB
    rw [List.pairwise_flatMap]
    refine ⟨fun b _ => ?_, (range_lt _).imp ?_⟩
    · unfold rowC
      rw [List.pairwise_map]
      refine ((range_lt _).filter _).imp ?_
      intro c c' h
      unfold mono4
      rw [lexLt_cons_eq, lexLt_cons_eq]
      exact lexLt_cons_ne (by omega)
    · intro b b' h x hx y hy
      obtain ⟨c, _, rfl⟩ := List.mem_map.1 hx
      obtain ⟨c', _, rfl⟩ := List.mem_map.1 hy
      unfold mono4
      rw [lexLt_cons_eq]
      exact lexLt_cons_ne (by omega)
  · intro a a' h x hx y hy
    obtain ⟨b, _, hx⟩ := List.mem_flatMap.1 hx
    obtain ⟨b', _, hy⟩ := List.mem_flatMap.1 hy
    obtain ⟨c, _, rfl⟩ := List.mem_map.1 hx
    obtain ⟨c', _, rfl⟩ := List.mem_map.1 hy
    exact lexLt_cons_ne (by omega)
/-- The table of a sum tells what occurs an odd number of times. -/
theorem monL_odd (T : List (List Int)) (d : Nat) (hd : d ≤ 40) (h : ∀ t ∈ T, Mono4 d t) : monL (T.map ix4) d = oddY T := by
  refine oddY_eq (asc_monL _ _) fun z => ?_
  rw [mem_monL]
  constructor
  · rintro ⟨a, b, c, hs, ho, rfl⟩
    have h1 := (par_oddN _ _).1 ho
    rw [← ix4_mono d a b c] at h1
    exact (par_map ix4 (Mono4 d) (ix4_inj hd) _ (mono4_is d a b c hs) T h).1 h1
  · intro hp
    have hz := h z (par_mem _ _ hp)
    obtain ⟨a, b, c, hs, e, e2⟩ := hz.eq
    refine ⟨a, b, c, hs, ?_, e⟩
    rw [par_oddN, ← e2]
    exact (par_map ix4 (Mono4 d) (ix4_inj hd) _ hz T h).2 hp
theorem monL_nil (d : Nat) : monL [] d = [] := by
  refine List.eq_nil_iff_forall_not_mem.2 fun x hx => ?_
  obtain ⟨a, b, c, _, ho, _⟩ := (mem_monL [] d x).1 hx
  exact absurd ho (by simp [oddN])
end Go.Proofs.Ytnfhfilconcajaa
end
section
namespace Go.Proofs.Ytnfhfilconcajaa
open Go.RowKit
set_option linter.unusedVariables false
set_option maxRecDepth 100000

theorem ownNil (w : World) :
    Calls Try.prog 84 #[.slice none 0 0] w fun e w' => ∃ u, e = .returned u ∧ w'.ownsRow w.heap.size 2 1 u 0 [] ∧ Below w.heap.size w w' := by
  obtain ⟨i0, hi, hz0, hz1, hz2⟩ := info_parts Try.info2
  go_enter Try.func84, Try.ntmps84
  go_wp2_with (at_builtin; refine wpList_append_own_none rfl _ _ 53 rfl w.heap.size 2 i0 1 Try.underlying53 hi _ 0 [] rfl (World.ownsRow_made w #[] 0 (Nat.le_refl _) (Nat.zero_le _) (by simp)) rfl ?_)
  go_ret
  exact ⟨_, rfl, World.ownsRow_made w #[] 0 (Nat.le_refl _) (Nat.zero_le _) (by simp), (Below.refl _ w).alloc (Nat.le_refl _) _⟩

theorem ownAny (v : Value) (zs : List Int) (B : Nat) (w : World) (hn : zs.length ≤ 1000000) (h : w.ownsRow B 2 1 v zs.length (zs.map (Value.int .i64))) :
    Calls Try.prog 84 #[v] w fun e w' => ∃ u, e = .returned u ∧ w'.ownsRow w.heap.size 2 1 u zs.length (zs.map (Value.int .i64)) ∧ Below w.heap.size w w' := by
  rcases h.2 with ⟨rfl, h0⟩ | ⟨g, cap, cur, rfl, _⟩
  · have hz : zs = [] := List.eq_nil_of_length_eq_zero h0
    subst hz
    exact ownNil w
  · exact (l01Own_any g zs.length cap zs B w hn h).mono fun e w' ⟨u, a, b, _, c⟩ => ⟨u, a, b, c⟩

end Go.Proofs.Ytnfhfilconcajaa
end
