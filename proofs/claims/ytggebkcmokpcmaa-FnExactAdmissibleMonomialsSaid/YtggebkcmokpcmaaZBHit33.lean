/-
  Joined: WPartLaw, YMonB.
-/
import Derived.Test.YtggebkcmokpcmaaZBHit31
import Derived.Test.YtggebkcmokpcmaaZBHit32
import Derived.Test.YtggebkcmokpcmaaZBHit07
section
namespace Go.Proofs.Ytggebkcmokpcmaa
open Go.RowKit
set_option maxRecDepth 100000
set_option linter.unusedVariables false

theorem fam_nil (w : World) (B : Nat) (VS : Nat → Value) : FamL w B (.slice none 0 0) VS [] := ⟨World.ownsRow_nil _ _ _ _, fun i hi => absurd hi (Nat.not_lt_zero _)⟩
theorem sep_zero (VS : Nat → Value) : Sep 0 VS := fun i j hi => absurd hi (Nat.not_lt_zero _)

theorem parts_row (f : Nat) : ∀ (zs : List Int) (d : Nat) (x : List Int), x ∈ parts f zs d → x.length ≤ zs.length + f := by
  induction f with
  | zero =>
    intro zs d x hx
    rw [parts] at hx
    split at hx
    · rw [List.mem_singleton.1 hx]; exact Nat.le_refl _
    · cases hx
  | succ f ih =>
    intro zs d x hx
    by_cases h0 : d = 0
    · subst h0
      rw [parts_zero] at hx
      rw [List.mem_singleton.1 hx]
      omega
    · rw [parts_succ _ _ _ (by omega)] at hx
      obtain ⟨r, _, h⟩ := List.mem_flatMap.1 hx
      have := ih _ _ _ h
      rw [List.length_append, List.length_singleton] at this
      omega

theorem off_bound (L : Nat → Nat) (c m : Nat) (h : ∀ i, i < m → L i ≤ c) : off 1 L m ≤ 1 + ((m * c : Nat) : Int) := by
  induction m with
  | zero => simp [off]
  | succ m ih =>
    have h1 := ih (fun i hi => h i (by omega))
    have h2 := h m (by omega)
    rw [off, Nat.succ_mul]
    omega

theorem rowsOf_len (xss : List (List Int)) (c : Nat) (h : ∀ x ∈ xss, x.length ≤ c) (i : Nat) (hi : i < xss.length) : (rowsOf xss i).length ≤ c := by
  unfold rowsOf
  rw [List.getElem?_eq_getElem hi]
  exact h _ (List.getElem_mem hi)

theorem Fam.low {w : World} {B : Nat} {V : Value} {m : Nat} {VS : Nat → Value} {Y : Nat → List Int} (h : Fam w B V m VS Y) {a b : World} (k : Below w.heap.size a b) (hs : Fam a B V m VS Y) : Fam b B V m VS Y :=
  hs.lowC (fun g hg => (h.out.lt g hg).2) (fun i hi g hg => ((h.inn i hi).lt g hg).2) k

/-- What PartitionsOf returns. -/
def ptOf (a : Int) : List (List Int) := if 0 ≤ a ∧ a ≤ 40 then parts 6 [] a.toNat else []
def pcOf (a : Int) : Int := if 0 ≤ a ∧ a ≤ 40 then 0 else 2
theorem ptOf_len (a : Int) : (ptOf a).length ≤ 200000000000 ∧ ∀ x ∈ ptOf a, x.length ≤ 6 := by
  unfold ptOf
  split
  · rename_i h
    constructor
    · exact Nat.le_trans (parts_len 6 [] a.toNat (by omega)) (by decide)
    · intro x hx
      exact parts_row 6 [] _ x hx
  · exact ⟨Nat.zero_le _, fun x hx => by cases hx⟩

theorem ptOf_off (a : Int) : off 1 (fun i => (rowsOf (ptOf a) i).length) (ptOf a).length ≤ 1152921504606846976 := by
  have h1 := ptOf_len a
  have h2 := off_bound (fun i => (rowsOf (ptOf a) i).length) 6 (ptOf a).length (fun i hi => rowsOf_len _ 6 h1.2 i hi)
  have h3 := h1.1
  omega

/-- What the two functions leave. -/
def SpecRes (w : World) (c : Int) (xss : List (List Int)) (e : Ending) (w' : World) : Prop := ∃ V VS, e = .returned (.tuple #[V, .int .i64 c]) ∧ FamL w' w.heap.size V VS xss ∧ Below w.heap.size w w'
def ImplRes (w : World) (c : Int) (xss : List (List Int)) (e : Ending) (w' : World) : Prop := ∃ V VS, e = .returned (.tuple #[V, .int .i64 c]) ∧ FamL w' w.heap.size V VS xss ∧ Below w.heap.size w w' ∧ Sep xss.length VS

end Go.Proofs.Ytggebkcmokpcmaa
end
section
namespace Go.Proofs.Ytggebkcmokpcmaa
open Go.RowKit
set_option linter.unusedVariables false
set_option maxRecDepth 100000

def moIn (a b : Int) : Prop := (1 ≤ a ∧ a ≤ 4) ∧ 0 ≤ b ∧ b ≤ 40
instance (a b : Int) : Decidable (moIn a b) := inferInstanceAs (Decidable (_ ∧ _))
/-- What MonomialsOf returns. -/
def moOf (a b : Int) : List (List Int) := if moIn a b then (if (ms (a.toNat - 1) b.toNat []).length ≤ 2000 then ms (a.toNat - 1) b.toNat [] else []) else []
def mcOf (a b : Int) : Int := if moIn a b then (if (ms (a.toNat - 1) b.toNat []).length ≤ 2000 then 0 else 3) else 2

theorem moOf_len (a b : Int) : (moOf a b).length ≤ 2000 ∧ ∀ x ∈ moOf a b, x.length ≤ 4 := by
  unfold moOf
  split
  · rename_i h
    split
    · rename_i h2
      refine ⟨h2, fun x hx => ?_⟩
      have := ms_row _ _ _ x hx
      have := h.1
      rw [List.length_nil] at *
      omega
    · exact ⟨Nat.zero_le _, fun x hx => by cases hx⟩
  · exact ⟨Nat.zero_le _, fun x hx => by cases hx⟩
theorem moOf_off (a b : Int) : off 1 (fun i => (rowsOf (moOf a b) i).length) (moOf a b).length ≤ 1152921504606846976 := by
  have h1 := moOf_len a b
  have h2 := off_bound (fun i => (rowsOf (moOf a b) i).length) 4 (moOf a b).length (fun i hi => rowsOf_len _ 4 h1.2 i hi)
  have h3 := h1.1
  omega

theorem l08All_any (f d : Nat) (K D : Int) (w : World) (hK : K = (f : Int) + 1) (hD : D = (d : Int)) (hf : f ≤ 3) (hd : d ≤ 40) :
    Calls Try.prog 52 #[.int .i64 K, .int .i64 D] w fun e w' => ∃ V VS, e = .returned V ∧ FamL w' w.heap.size V VS (ms f d []) ∧ Below w.heap.size w w' := by
  have aB : Below w.heap.size w (w.alloc (.cells #[] 2)) := (Below.refl _ w).alloc (Nat.le_refl _) _
  have O0 : (w.alloc (.cells #[] 2)).ownsRow w.heap.size 2 1 (.slice (some ⟨w.heap.size, 0, none⟩) 0 0) 0 (([] : List Int).map (Value.int .i64)) := World.ownsRow_made w #[] 0 (Nat.le_refl _) (Nat.zero_le _) (by simp)
  have hsz : w.heap.size ≤ (w.alloc (.cells #[] 2)).heap.size := by simp
  have h41 : ([] : List (List Int)).length + 41 ^ f ≤ 200000000000 := by
    rw [List.length_nil, Nat.zero_add]
    exact Nat.le_trans (Nat.pow_le_pow_right (by decide) hf) (by decide)
  have P := Lib.hid (specMs_any f [] d [] w.heap.size w.heap.size (.slice (some ⟨w.heap.size, 0, none⟩) 0 0) (.slice none 0 0) (fun _ => undef) K D 0 _ hK hD rfl hd (by omega) h41 O0 (fam_nil _ _ _) hsz)
  rw [List.nil_append] at P
  generalize ms f d [] = L at *
  clear O0 hsz h41 hK hD hf hd
  have AB := Lib.hid aB
  clear aB
  go_enter Try.func52, Try.ntmps52
  go_wp2_with fail
  refine P.out.mono ?_
  rintro e w1 ⟨V, VS, rfl, hF, hB, _⟩
  have F := Lib.hid hF
  have B := Lib.hid hB
  clear hF hB
  go_wp2
  go_ret
  exact ⟨V, VS, rfl, F.out, AB.out.trans B.out⟩

theorem implMonomialsOf_all (a b : Int) (w : World) :
    Calls Try.prog 73 #[.int .i64 a, .int .i64 b] w (ImplRes w (mcOf a b) (moOf a b)) := by
  by_cases h : moIn a b
  · obtain ⟨⟨h1, h2⟩, h3, h4⟩ := id h
    have h41 : ([] : List (List Int)).length + 41 ^ (a.toNat - 1) ≤ 200000000000 := by
      rw [List.length_nil, Nat.zero_add]
      exact Nat.le_trans (Nat.pow_le_pow_right (by decide) (by omega : a.toNat - 1 ≤ 3)) (by decide)
    have P := Lib.hid (implMs_any (a.toNat - 1) [] b.toNat [] w.heap.size (.slice none 0 0) (.slice none 0 0) (fun _ => undef) a b 0 w (by omega) (by omega) rfl (by omega) (by omega) h41 (World.ownsRow_nil _ _ _ _) (fam_nil _ _ _) (sep_zero _) (fun i hi => absurd hi (Nat.not_lt_zero _)) (Nat.le_refl _))
    have g1 : ¬ a < 1 := by omega
    have g2 : ¬ 4 < a := by omega
    have g3 : ¬ b < 0 := by omega
    have g4 : ¬ 40 < b := by omega
    clear h41
    by_cases hl : (ms (a.toNat - 1) b.toNat []).length ≤ 2000
    · have E1 := Lib.hid (show moOf a b = ms (a.toNat - 1) b.toNat [] by unfold moOf; rw [if_pos h, if_pos hl])
      have E2 := Lib.hid (show mcOf a b = 0 by unfold mcOf; rw [if_pos h, if_pos hl])
      rw [E1.out, E2.out]
      rw [List.nil_append] at P
      generalize ms (a.toNat - 1) b.toNat [] = L at *
      have hl' : ¬ (2000 : Int) < (L.length : Int) := by omega
      clear h
      go_enter Try.func73, Try.ntmps73
      go_wp2_with fail
      refine P.out.mono ?_
      rintro e w1 ⟨V, VS, rfl, hF, hB, _, _, hS, _⟩
      obtain ⟨va, vc, rfl, _⟩ := Fam.head hF
      have F := Lib.hid hF
      have B := Lib.hid hB
      have S := Lib.hid hS
      clear hF hB hS
      go_wp2_with fail
      go_ret2
      exact ⟨_, VS, rfl, F.out, B.out, S.out⟩
    · have E1 := Lib.hid (show moOf a b = [] by unfold moOf; rw [if_pos h, if_neg hl])
      have E2 := Lib.hid (show mcOf a b = 3 by unfold mcOf; rw [if_pos h, if_neg hl])
      rw [E1.out, E2.out]
      rw [List.nil_append] at P
      generalize ms (a.toNat - 1) b.toNat [] = L at *
      have hl' : (2000 : Int) < (L.length : Int) := by omega
      clear h
      go_enter Try.func73, Try.ntmps73
      go_wp2_with fail
      refine P.out.mono ?_
      rintro e w1 ⟨V, VS, rfl, hF, hB, _, _, hS, _⟩
      obtain ⟨va, vc, rfl, _⟩ := Fam.head hF
      have B := Lib.hid hB
      clear hF hB hS
      go_wp2_with fail
      go_ret2
      exact ⟨_, fun _ => undef, rfl, fam_nil _ _ _, B.out, sep_zero _⟩
  · have E1 := Lib.hid (show moOf a b = [] by unfold moOf; rw [if_neg h])
    have E2 := Lib.hid (show mcOf a b = 2 by unfold mcOf; rw [if_neg h])
    rw [E1.out, E2.out]
    have h' : a < 1 ∨ 4 < a ∨ b < 0 ∨ 40 < b := by
      apply Classical.byContradiction
      intro hc
      exact h ⟨by omega, by omega⟩
    clear h
    by_cases g1 : a < 1
    · clear h'
      go_enter Try.func73, Try.ntmps73
      go_wp2_with fail
      go_ret2
      exact ⟨_, fun _ => undef, rfl, fam_nil _ _ _, Below.refl _ _, sep_zero _⟩
    · by_cases g2 : 4 < a
      · clear h'
        go_enter Try.func73, Try.ntmps73
        go_wp2_with fail
        go_ret2
        exact ⟨_, fun _ => undef, rfl, fam_nil _ _ _, Below.refl _ _, sep_zero _⟩
      · by_cases g3 : b < 0
        · clear h'
          go_enter Try.func73, Try.ntmps73
          go_wp2_with fail
          go_ret2
          exact ⟨_, fun _ => undef, rfl, fam_nil _ _ _, Below.refl _ _, sep_zero _⟩
        · have g4 : 40 < b := by omega
          clear h'
          go_enter Try.func73, Try.ntmps73
          go_wp2_with fail
          go_ret2
          exact ⟨_, fun _ => undef, rfl, fam_nil _ _ _, Below.refl _ _, sep_zero _⟩
end Go.Proofs.Ytggebkcmokpcmaa
end
