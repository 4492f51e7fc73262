/-
  Joined: WPartLaw, WParFacts.
-/
import Derived.Test.YtcbfcpngpnlodaaZsisOfProfile36
import Derived.Test.YtcbfcpngpnlodaaZsisOfProfile26
import Derived.Test.YtcbfcpngpnlodaaZsisOfProfile24
section
namespace Go.Proofs.Ytcbfcpngpnlodaa
open Go.RowKit
set_option maxRecDepth 100000
set_option linter.unusedVariables false

theorem fam_nil (w : World) (B : Nat) (VS : Nat → Value) : FamL w B (.slice none 0 0) VS [] := ⟨World.ownsRow_nil _ _ _ _, fun i hi => absurd hi (Nat.not_lt_zero _)⟩
theorem sep_zero (VS : Nat → Value) : Sep 0 VS := fun i j hi => absurd hi (Nat.not_lt_zero _)

theorem parts_row (f : Nat) : ∀ (zs : List Int) (d : Nat) (x : List Int), x ∈ parts f zs d → x.length ≤ zs.length + f := by
  induction f with
  | zero =>
    intro zs d x hx
    rw [parts] at hx
    split at hx
    · rw [List.mem_singleton.1 hx]; exact Nat.le_refl _
    · cases hx
  | succ f ih =>
    intro zs d x hx
    by_cases h0 : d = 0
    · subst h0
      rw [parts_zero] at hx
      rw [List.mem_singleton.1 hx]
      omega
    · rw [parts_succ _ _ _ (by omega)] at hx
      obtain ⟨r, _, h⟩ := List.mem_flatMap.1 hx
      have := ih _ _ _ h
      rw [List.length_append, List.length_singleton] at this
      omega

theorem off_bound (L : Nat → Nat) (c m : Nat) (h : ∀ i, i < m → L i ≤ c) : off 1 L m ≤ 1 + ((m * c : Nat) : Int) := by
  induction m with
  | zero => simp [off]
  | succ m ih =>
    have h1 := ih (fun i hi => h i (by omega))
    have h2 := h m (by omega)
    rw [off, Nat.succ_mul]
    omega

theorem rowsOf_len (xss : List (List Int)) (c : Nat) (h : ∀ x ∈ xss, x.length ≤ c) (i : Nat) (hi : i < xss.length) : (rowsOf xss i).length ≤ c := by
  unfold rowsOf
  rw [List.getElem?_eq_getElem hi]
  exact h _ (List.getElem_mem hi)

theorem Fam.low {w : World} {B : Nat} {V : Value} {m : Nat} {VS : Nat → Value} {Y : Nat → List Int} (h : Fam w B V m VS Y) {a b : World} (k : Below w.heap.size a b) (hs : Fam a B V m VS Y) : Fam b B V m VS Y :=
  hs.lowC (fun g hg => (h.out.lt g hg).2) (fun i hi g hg => ((h.inn i hi).lt g hg).2) k

/-- What PartitionsOf returns. -/
def ptOf (a : Int) : List (List Int) := if 0 ≤ a ∧ a ≤ 40 then parts 6 [] a.toNat else []
def pcOf (a : Int) : Int := if 0 ≤ a ∧ a ≤ 40 then 0 else 2
theorem ptOf_len (a : Int) : (ptOf a).length ≤ 200000000000 ∧ ∀ x ∈ ptOf a, x.length ≤ 6 := by
  unfold ptOf
  split
  · rename_i h
    constructor
    · exact Nat.le_trans (parts_len 6 [] a.toNat (by omega)) (by decide)
    · intro x hx
      exact parts_row 6 [] _ x hx
  · exact ⟨Nat.zero_le _, fun x hx => by cases hx⟩

theorem ptOf_off (a : Int) : off 1 (fun i => (rowsOf (ptOf a) i).length) (ptOf a).length ≤ 1152921504606846976 := by
  have h1 := ptOf_len a
  have h2 := off_bound (fun i => (rowsOf (ptOf a) i).length) 6 (ptOf a).length (fun i hi => rowsOf_len _ 6 h1.2 i hi)
  have h3 := h1.1
  omega

set_option maxRecDepth 100000 in
theorem specPart_zero (B : Nat) (g cap : Nat) (VS : Nat → Value) (w : World) (hF : FamL w B (.slice none 0 0) VS []) (hB : B ≤ w.heap.size)
    (hown : w.ownsRow B 2 1 (.slice (some ⟨g, 0, none⟩) 0 cap) 0 (([] : List Int).map (Value.int .i64))) :
    Calls Try.prog 120 #[.int .i64 0, .slice (some ⟨g, 0, none⟩) 0 cap, .slice none 0 0] w (PartPost B w [[]] none) := by
  obtain ⟨i1, hj, hy0, hy1, hy2⟩ := info_parts Try.infoS
  have HF := Lib.hid hF
  have HO := Lib.hid hown
  clear hF hown
  have E5 : Hid (B ≤ (w.alloc (.cells #[Value.slice (some ⟨g, 0, none⟩) 0 cap] 22)).heap.size) := Lib.hid (by simp; omega)
  go_enter Try.func120, Try.ntmps120
  go_wp2_with (at_builtin; refine wpList_append_own _ rfl (.tmp 18) (.tmp 20) 35 rfl B 22 i1 (.slice none 0 0) 1 24 Try.underlying35 hj hy0 hy1 hy2 rfl (by decide) _ _ _ rfl (HF.out.out.alloc _) ⟨w.heap.size, 0, none⟩ 1 1 [.slice (some ⟨g, 0, none⟩) 0 cap] rfl rfl ?e1 ?e2 ?e3 ?e4 E5.out ?_)
  case e1 =>
    intro j u hj
    match j, hj with
    | 0, hj => simp at hj; subst hj; simp [Addr.add]
  case e2 => intro u hu; simp at hu; subst hu; rfl
  case e3 => unfold maxLen; simp
  case e4 => simp
  intro V3 w3 hV3 hgrow3 _
  have K3 : KeepI none w w3 := (KeepI.below ((Below.refl _ w).alloc (Nat.le_refl _) _) none).trans (KeepI.row (HF.out.out.alloc _) hgrow3 none)
  have N3 := K3.own HO.out (Classical.em _)
  have F3 := Lib.hid (FamL.push HF.out (fun _ _ => Classical.em _) K3 hV3 N3 rfl)
  have B3 : Hid (Below B w w3) := Lib.hid (((Below.refl _ w).alloc hB _).grown hgrow3 E5.out (fun k hk => by cases hk))
  have KK := Lib.hid K3
  clear hV3 hgrow3 K3 N3
  go_wp2
  go_ret
  exact ⟨V3, _, rfl, F3.out, B3.out, KK.out⟩

theorem l01All_any (d : Nat) (w : World) (hd : d ≤ 40) :
    Calls Try.prog 108 #[.int .i64 d] w fun e w' => ∃ V VS, e = .returned V ∧ FamL w' w.heap.size V VS (parts 6 [] d) ∧ Below w.heap.size w w' := by
  have aB : Below w.heap.size w (w.alloc (.cells #[] 2)) := (Below.refl _ w).alloc (Nat.le_refl _) _
  have O0 : (w.alloc (.cells #[] 2)).ownsRow w.heap.size 2 1 (.slice (some ⟨w.heap.size, 0, none⟩) 0 0) 0 (([] : List Int).map (Value.int .i64)) := World.ownsRow_made w #[] 0 (Nat.le_refl _) (Nat.zero_le _) (by simp)
  have hsz : w.heap.size ≤ (w.alloc (.cells #[] 2)).heap.size := by simp
  have P : Calls Try.prog 120 #[.int .i64 (d : Int), .slice (some ⟨w.heap.size, 0, none⟩) 0 0, .slice none 0 0] (w.alloc (.cells #[] 2)) (PartPost w.heap.size (w.alloc (.cells #[] 2)) (parts 6 [] d) none) := by
    by_cases h0 : d = 0
    · subst h0
      rw [parts_zero]
      exact specPart_zero w.heap.size w.heap.size 0 (fun _ => undef) _ (fam_nil _ _ _) hsz O0
    · have hsp6 : d < sp (([] : List Int).length + 6) := by
        have e6 : sp (([] : List Int).length + 6) = 127 := by decide
        rw [e6]; omega
      exact specPart_any 6 [] d [] w.heap.size w.heap.size w.heap.size 0 (.slice none 0 0) (fun _ => undef) d 0 _ rfl rfl (by omega) hd hsp6 (by decide) (by decide) O0 (fam_nil _ _ _) hsz
  have P := Lib.hid P
  clear O0 hsz
  have AB := Lib.hid aB
  clear aB
  go_enter Try.func108, Try.ntmps108
  go_wp2_with fail
  refine P.out.mono ?_
  rintro e w1 ⟨V, VS, rfl, hF, hB, _⟩
  have F := Lib.hid hF
  have B := Lib.hid hB
  clear hF hB
  go_wp2
  go_ret
  exact ⟨V, VS, rfl, F.out, AB.out.trans B.out⟩

/-- What the two functions leave. -/
def SpecRes (w : World) (c : Int) (xss : List (List Int)) (e : Ending) (w' : World) : Prop := ∃ V VS, e = .returned (.tuple #[V, .int .i64 c]) ∧ FamL w' w.heap.size V VS xss ∧ Below w.heap.size w w'
def ImplRes (w : World) (c : Int) (xss : List (List Int)) (e : Ending) (w' : World) : Prop := ∃ V VS, e = .returned (.tuple #[V, .int .i64 c]) ∧ FamL w' w.heap.size V VS xss ∧ Below w.heap.size w w' ∧ Sep xss.length VS

theorem implPartitionsOf_all (a : Int) (w : World) :
    Calls Try.prog 73 #[.int .i64 a] w (ImplRes w (pcOf a) (ptOf a)) := by
  by_cases h : 0 ≤ a ∧ a ≤ 40
  · obtain ⟨n, rfl⟩ := Int.eq_ofNat_of_zero_le h.1
    have E1 := Lib.hid (show ptOf (n : Int) = parts 6 [] n by unfold ptOf; rw [if_pos h]; rfl)
    have E2 := Lib.hid (show pcOf (n : Int) = 0 by unfold pcOf; rw [if_pos h])
    rw [E1.out, E2.out]
    have h1 : (n : Int) ≤ 40 := h.2
    have h0 : (0 : Int) ≤ (n : Int) := h.1
    have P := Lib.hid (implPart_any 6 [] n [] w.heap.size (.slice none 0 0) (.slice none 0 0) (fun _ => undef) n 0 w rfl rfl (by omega) (.inr (by
      have : sp (0 + 6) = 127 := by decide
      rw [List.length_nil, this]; omega)) (by decide) (by decide) (World.ownsRow_nil _ _ _ _) (fam_nil _ _ _) (sep_zero _) (fun i hi => absurd hi (Nat.not_lt_zero _)) (Nat.le_refl _))
    clear h
    go_enter Try.func73, Try.ntmps73
    go_wp2_with fail
    refine P.out.mono ?_
    rintro e w1 ⟨V, VS, rfl, hF, hB, _, _, hS, _⟩
    have F := Lib.hid hF
    have B := Lib.hid hB
    have S := Lib.hid hS
    clear hF hB hS
    go_wp2
    go_ret2
    exact ⟨V, VS, rfl, F.out, B.out, S.out⟩
  · have E1 := Lib.hid (show ptOf a = [] by unfold ptOf; rw [if_neg h])
    have E2 := Lib.hid (show pcOf a = 2 by unfold pcOf; rw [if_neg h])
    rw [E1.out, E2.out]
    by_cases h0 : a < 0
    · go_enter Try.func73, Try.ntmps73
      go_wp2
      go_ret2
      exact ⟨_, fun _ => undef, rfl, fam_nil _ _ _, Below.refl _ _, sep_zero _⟩
    · have h1 : 40 < a := by omega
      clear h
      go_enter Try.func73, Try.ntmps73
      go_wp2
      go_ret2
      exact ⟨_, fun _ => undef, rfl, fam_nil _ _ _, Below.refl _ _, sep_zero _⟩

end Go.Proofs.Ytcbfcpngpnlodaa
end
section
namespace Go.Proofs.Ytcbfcpngpnlodaa
open Go.RowKit
set_option maxRecDepth 100000
set_option linter.unusedVariables false

def okPart (d : Nat) (r : List Int) : Bool :=
  decide (r.length ≤ 10) && (decide (r.length = 0) || decide (r[r.length - 1]?.getD 0 ≠ 0)) && r.all (fun e => decide (0 ≤ e) && decide (e ≤ 40)) && decide (dgr (fun i => r[i]?.getD 0) r.length = (d : Int))
def okParts (d : Nat) : Bool := decide ((cpTo d 6)[d]?.getD 0 = ((parts 6 [] d).length : Int)) && (parts 6 [] d).all (okPart d)

set_option maxRecDepth 100000 in
theorem okParts_all : ∀ d, d < 41 → okParts d = true := by decide +kernel

theorem count_parts (d : Nat) (hd : d ≤ 40) : (cpTo d 301)[d]?.getD 0 = ((parts 6 [] d).length : Int) := by
  have h := okParts_all d (by omega)
  unfold okParts at h
  simp only [Bool.and_eq_true, decide_eq_true_eq] at h
  rw [← cpTo_end d 6 301 (by have : sp 6 = 127 := by decide
                             omega) (by omega)]
  exact h.1

theorem part_rows (d : Nat) (hd : d ≤ 40) (r : List Int) (hr : r ∈ parts 6 [] d) : okExp (fun i => r[i]?.getD 0) r.length ∧ dgr (fun i => r[i]?.getD 0) r.length = (d : Int) := by
  have h := okParts_all d (by omega)
  unfold okParts at h
  simp only [Bool.and_eq_true, List.all_eq_true] at h
  have h2 := h.2 r hr
  unfold okPart at h2
  simp only [Bool.and_eq_true, Bool.or_eq_true, decide_eq_true_eq, List.all_eq_true] at h2
  obtain ⟨⟨⟨h3, h4⟩, h5⟩, h6⟩ := h2
  refine ⟨⟨h3, h4, fun i hi => ?_⟩, h6⟩
  show 0 ≤ r[i]?.getD 0 ∧ r[i]?.getD 0 ≤ 1000000000000
  rw [List.getElem?_eq_getElem hi]
  have h7 := h5 _ (List.getElem_mem hi)
  exact ⟨h7.1, Int.le_trans h7.2 (by decide)⟩
end Go.Proofs.Ytcbfcpngpnlodaa
end
