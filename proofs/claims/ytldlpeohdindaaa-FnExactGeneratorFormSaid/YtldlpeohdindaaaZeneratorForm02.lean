/-
  Joined: WCmp, WOwnB, WArgs, WOwnC.
-/
import Derived.Test.YtldlpeohdindaaaZeneratorForm01
section
namespace Go.Proofs.Ytldlpeohdindaaa
open Go.RowKit
set_option maxRecDepth 100000
set_option linter.unusedVariables false

def lexLt : List Int → List Int → Bool
  | [], [] => false
  | [], _ :: _ => true
  | _ :: _, [] => false
  | a :: l, b :: l' => if a = b then lexLt l l' else decide (a < b)
/-- 1, 0 or -1: greater, equal, less. -/
def lexCmp : List Int → List Int → Int
  | [], [] => 0
  | [], _ :: _ => -1
  | _ :: _, [] => 1
  | a :: l, b :: l' => if a = b then lexCmp l l' else if a < b then -1 else 1

theorem lexCmp_lt : ∀ xs ys, lexCmp xs ys < 0 ↔ lexLt xs ys = true
  | [], [] => by simp [lexCmp, lexLt]
  | [], _ :: _ => by simp [lexCmp, lexLt]
  | _ :: _, [] => by simp [lexCmp, lexLt]
  | a :: l, b :: l' => by
    rw [lexCmp, lexLt]
    by_cases e : a = b
    · rw [if_pos e, if_pos e]; exact lexCmp_lt l l'
    · rw [if_neg e, if_neg e]
      by_cases h : a < b
      · rw [if_pos h]; simp [h]
      · rw [if_neg h]; simp [h]
theorem lexCmp_range : ∀ xs ys, -1 ≤ lexCmp xs ys ∧ lexCmp xs ys ≤ 1
  | [], [] => by simp [lexCmp]
  | [], _ :: _ => by simp [lexCmp]
  | _ :: _, [] => by simp [lexCmp]
  | a :: l, b :: l' => by
    rw [lexCmp]
    by_cases e : a = b
    · rw [if_pos e]; exact lexCmp_range l l'
    · rw [if_neg e]
      by_cases h : a < b
      · rw [if_pos h]; decide
      · rw [if_neg h]; decide

theorem drop_cons (xs : List Int) (k : Nat) (h : k < xs.length) : xs.drop k = (xs[k]?.getD 0) :: xs.drop (k + 1) := by
  rw [List.getElem?_eq_getElem h]
  exact List.drop_eq_getElem_cons h

theorem less_eq (xs ys : List Int) (k : Nat) (hx : k < xs.length) (hy : k < ys.length) (he : xs[k]?.getD 0 = ys[k]?.getD 0) : lexLt (xs.drop k) (ys.drop k) = lexLt (xs.drop (k + 1)) (ys.drop (k + 1)) := by
  rw [drop_cons xs k hx, drop_cons ys k hy, lexLt, if_pos he]
theorem less_ne (xs ys : List Int) (k : Nat) (hx : k < xs.length) (hy : k < ys.length) (he : xs[k]?.getD 0 ≠ ys[k]?.getD 0) : lexLt (xs.drop k) (ys.drop k) = decide (xs[k]?.getD 0 < ys[k]?.getD 0) := by
  rw [drop_cons xs k hx, drop_cons ys k hy, lexLt, if_neg he]
theorem less_end (xs ys : List Int) (k : Nat) (h : ¬ (k < xs.length ∧ k < ys.length)) (hx : k ≤ xs.length) (hy : k ≤ ys.length) : lexLt (xs.drop k) (ys.drop k) = decide (xs.length < ys.length) := by
  by_cases h1 : k < xs.length
  · have e : ys.drop k = [] := List.drop_eq_nil_of_le (by omega)
    rw [e, drop_cons xs k h1, lexLt]
    have : ¬ xs.length < ys.length := by omega
    simp [this]
  · have e : xs.drop k = [] := List.drop_eq_nil_of_le (by omega)
    rw [e]
    by_cases h2 : k < ys.length
    · rw [drop_cons ys k h2, lexLt]
      have : xs.length < ys.length := by omega
      simp [this]
    · have e2 : ys.drop k = [] := List.drop_eq_nil_of_le (by omega)
      rw [e2, lexLt]
      have : ¬ xs.length < ys.length := by omega
      simp [this]

/-- A slice that reads as a list. -/
abbrev RdL (w : World) (v : Value) (xs : List Int) : Prop := RdI w v xs.length (fun j => xs[j]?.getD 0)

theorem l01Less_any (va vb : Value) (xs ys : List Int) (w : World) (ha : RdL w va xs) (hb : RdL w vb ys) :
    Calls Try.prog 61 #[va, vb] w fun e w' => e = .returned (.bool (lexLt xs ys)) ∧ ∃ q, w' = w.drewN q := by
  obtain ⟨aa, capa, rfl, hma, ha⟩ := ha
  obtain ⟨ab, capb, rfl, hmb, hb⟩ := hb
  unfold maxLen at hma hmb
  have HEQ := Lib.hid (less_eq xs ys)
  have HNE := Lib.hid (less_ne xs ys)
  have HEN := Lib.hid (less_end xs ys)
  have HA : Hid (∀ i, i < xs.length → ∃ b off, aa = some ⟨b, off, none⟩ ∧ w.cell? ⟨b, off + i, none⟩ = some (.int .i64 (xs[i]?.getD 0))) := by
    refine Lib.hid fun i hi => ?_
    obtain ⟨b, off, e, hc⟩ := ha.resolve_left (by omega)
    exact ⟨b, off, e, hc i hi⟩
  have HB : Hid (∀ i, i < ys.length → ∃ b off, ab = some ⟨b, off, none⟩ ∧ w.cell? ⟨b, off + i, none⟩ = some (.int .i64 (ys[i]?.getD 0))) := by
    refine Lib.hid fun i hi => ?_
    obtain ⟨b, off, e, hc⟩ := hb.resolve_left (by omega)
    exact ⟨b, off, e, hc i hi⟩
  generalize hr : lexLt xs ys = r
  have HR := Lib.hid hr
  clear hr ha hb
  have HX : Hid (∀ k, (xs.drop k).length = xs.length - k) := Lib.hid (fun k => List.length_drop)
  go_enter Try.func61, Try.ntmps61
  go_wp2
  go_loopw [5] (fun c wr => ∃ k q : Nat, k ≤ xs.length ∧ k ≤ ys.length ∧ c = .int .i64 k ∧ Hid (lexLt (xs.drop k) (ys.drop k) = r) ∧ Hid (wr = w.drewN q)) (fun c _ => xs.length - (intOf c).toNat)
  case atStart => exact ⟨0, 0, Nat.zero_le _, Nat.zero_le _, rfl, Lib.hid (by rw [List.drop_zero, List.drop_zero]; exact HR.out), Lib.hid rfl⟩
  case round =>
    obtain ⟨k, q, hk1, hk2, rfl, hlx, hw⟩ := hrel
    by_cases hlt : k < xs.length ∧ k < ys.length
    · obtain ⟨h1, h2⟩ := hlt
      have h1' : (k : Int) < (xs.length : Int) := by omega
      have h2' : (k : Int) < (ys.length : Int) := by omega
      obtain ⟨ba, oa, ea, ca⟩ := HA.out k h1
      obtain ⟨bb, ob, eb, cb⟩ := HB.out k h2
      have c1 : wr.cell? ⟨ba, oa + k, none⟩ = some (.int .i64 (xs[k]?.getD 0)) := by rw [hw.out]; exact ca
      have c2 : wr.cell? ⟨bb, ob + k, none⟩ = some (.int .i64 (ys[k]?.getD 0)) := by rw [hw.out]; exact cb
      clear ca cb
      by_cases he : xs[k]?.getD 0 = ys[k]?.getD 0
      · have hnx := Lib.hid ((HEQ.out k h1 h2 he).symm.trans hlx.out)
        rw [he] at c1
        generalize ys[k]?.getD 0 = y at c1 c2
        clear he
        go_wp2
        go_quiet (fail)
        go_wp2
        go_roundw
        case rel => exact ⟨k + 1, q + nq, by omega, by omega, by go_num, hnx, Lib.hid (by rw [hw.out]; exact World.drewN_drewN ..)⟩
        case measure => simp [intOf]; omega
      · have hfin := Lib.hid ((HNE.out k h1 h2 he).symm.trans hlx.out)
        have hne : (xs[k]?.getD 0 != ys[k]?.getD 0) = true := by rw [bne_iff_ne]; exact he
        clear he
        generalize xs[k]?.getD 0 = x at c1 hne hfin
        generalize ys[k]?.getD 0 = y at c2 hne hfin
        go_wp2
        go_quiet (fail)
        go_wp2
        go_quiet (fail)
        go_wp2
        go_ret
        exact ⟨by rw [← hfin.out]; rfl, _, by rw [hw.out, World.drewN_drewN, World.drewN_drewN]⟩
    · have hfin := Lib.hid ((HEN.out k hlt hk1 hk2).symm.trans hlx.out)
      by_cases h1 : k < xs.length
      · have h2 : ¬ k < ys.length := fun e => hlt ⟨h1, e⟩
        have h1' : (k : Int) < (xs.length : Int) := by omega
        have h2' : ¬ (k : Int) < (ys.length : Int) := by omega
        clear hlt
        go_wp2
        go_ret
        exact ⟨by rw [← hfin.out]; rfl, q, hw.out⟩
      · have h1' : ¬ (k : Int) < (xs.length : Int) := by omega
        clear hlt
        go_wp2
        go_ret
        exact ⟨by rw [← hfin.out]; rfl, q, hw.out⟩

/-- cmp.Compare at two numbers. -/
def cmpI (x y : Int) : Int := if x = y then 0 else if x < y then -1 else 1
theorem cmpCompare_any (x y : Int) (w : World) :
    Calls Try.prog 73 #[.int .i64 x, .int .i64 y] w fun e w' => e = .returned (.int .i64 (cmpI x y)) ∧ w = w' := by
  by_cases h1 : x < y
  · have E := Lib.hid (show cmpI x y = -1 by unfold cmpI; rw [if_neg (by omega), if_pos h1])
    go_enter Try.func73, Try.ntmps73
    go_wp2
    go_ret
    exact ⟨by rw [E.out]; rfl, rfl⟩
  · by_cases h2 : y < x
    · have E := Lib.hid (show cmpI x y = 1 by unfold cmpI; rw [if_neg (by omega), if_neg h1])
      go_enter Try.func73, Try.ntmps73
      go_wp2
      go_ret
      exact ⟨by rw [E.out]; rfl, rfl⟩
    · have E := Lib.hid (show cmpI x y = 0 by unfold cmpI; rw [if_pos (by omega)])
      go_enter Try.func73, Try.ntmps73
      go_wp2
      go_ret
      exact ⟨by rw [E.out]; rfl, rfl⟩

theorem cmp_eq (xs ys : List Int) (k : Nat) (hx : k < xs.length) (hy : k < ys.length) (he : xs[k]?.getD 0 = ys[k]?.getD 0) : lexCmp (xs.drop k) (ys.drop k) = lexCmp (xs.drop (k + 1)) (ys.drop (k + 1)) := by
  rw [drop_cons xs k hx, drop_cons ys k hy, lexCmp, if_pos he]
theorem cmp_ne (xs ys : List Int) (k : Nat) (hx : k < xs.length) (hy : k < ys.length) (he : xs[k]?.getD 0 ≠ ys[k]?.getD 0) : lexCmp (xs.drop k) (ys.drop k) = cmpI (xs[k]?.getD 0) (ys[k]?.getD 0) := by
  rw [drop_cons xs k hx, drop_cons ys k hy, lexCmp, if_neg he]
  unfold cmpI
  rw [if_neg he]
theorem cmp_over (xs ys : List Int) (k : Nat) (hx : k < xs.length) (hy : ¬ k < ys.length) : lexCmp (xs.drop k) (ys.drop k) = 1 := by
  rw [drop_cons xs k hx, show ys.drop k = [] from List.drop_eq_nil_of_le (by omega), lexCmp]
theorem cmp_end (xs ys : List Int) (k : Nat) (hx : ¬ k < xs.length) (hk : k ≤ xs.length) (hy : k ≤ ys.length) : lexCmp (xs.drop k) (ys.drop k) = if xs.length < ys.length then -1 else 0 := by
  rw [show xs.drop k = [] from List.drop_eq_nil_of_le (by omega)]
  by_cases h2 : k < ys.length
  · rw [drop_cons ys k h2, lexCmp, if_pos (by omega)]
  · rw [show ys.drop k = [] from List.drop_eq_nil_of_le (by omega), lexCmp, if_neg (by omega)]

theorem slicesCompare_any (va vb : Value) (xs ys : List Int) (w : World) (ha : RdL w va xs) (hb : RdL w vb ys) :
    Calls Try.prog 57 #[va, vb] w fun e w' => e = .returned (.int .i64 (lexCmp xs ys)) ∧ w = w' := by
  obtain ⟨aa, capa, rfl, hma, ha⟩ := ha
  obtain ⟨ab, capb, rfl, hmb, hb⟩ := hb
  unfold maxLen at hma hmb
  have HEQ := Lib.hid (cmp_eq xs ys)
  have HNE := Lib.hid (cmp_ne xs ys)
  have HOV := Lib.hid (cmp_over xs ys)
  have HEN := Lib.hid (cmp_end xs ys)
  have HA : Hid (∀ i, i < xs.length → ∃ b off, aa = some ⟨b, off, none⟩ ∧ w.cell? ⟨b, off + i, none⟩ = some (.int .i64 (xs[i]?.getD 0))) := by
    refine Lib.hid fun i hi => ?_
    obtain ⟨b, off, e, hc⟩ := ha.resolve_left (by omega)
    exact ⟨b, off, e, hc i hi⟩
  have HB : Hid (∀ i, i < ys.length → ∃ b off, ab = some ⟨b, off, none⟩ ∧ w.cell? ⟨b, off + i, none⟩ = some (.int .i64 (ys[i]?.getD 0))) := by
    refine Lib.hid fun i hi => ?_
    obtain ⟨b, off, e, hc⟩ := hb.resolve_left (by omega)
    exact ⟨b, off, e, hc i hi⟩
  generalize hr : lexCmp xs ys = r
  have HR := Lib.hid hr
  clear hr ha hb
  go_enter Try.func57, Try.ntmps57
  go_wp2
  go_loop [5, 6, 7, 8, 11] (fun _ _ _ _ c => ∃ k : Nat, k ≤ xs.length ∧ k ≤ ys.length ∧ c = .int .i64 k ∧ Hid (lexCmp (xs.drop k) (ys.drop k) = r)) (fun _ _ _ _ c => xs.length - (intOf c).toNat)
  case atStart => exact ⟨0, Nat.zero_le _, Nat.zero_le _, rfl, Lib.hid (by rw [List.drop_zero, List.drop_zero]; exact HR.out)⟩
  case round =>
    obtain ⟨k, hk1, hk2, rfl, hlx⟩ := hrel
    by_cases h1 : k < xs.length
    · have h1' : (k : Int) < (xs.length : Int) := by omega
      obtain ⟨ba, oa, rfl, ca⟩ := HA.out k h1
      by_cases h2 : k < ys.length
      · have h2' : (k : Int) < (ys.length : Int) := by omega
        obtain ⟨bb, ob, rfl, cb⟩ := HB.out k h2
        by_cases he : xs[k]?.getD 0 = ys[k]?.getD 0
        · have hnx := Lib.hid ((HEQ.out k h1 h2 he).symm.trans hlx.out)
          have E : cmpI (xs[k]?.getD 0) (ys[k]?.getD 0) = 0 := by unfold cmpI; rw [if_pos he]
          have C := cmpCompare_any (xs[k]?.getD 0) (ys[k]?.getD 0) w
          rw [E] at C
          have C := Lib.hid C
          clear he E
          generalize xs[k]?.getD 0 = x at ca C
          generalize ys[k]?.getD 0 = y at cb C
          go_wp2_with (go_at_call 73; refine C.out.mono ?_; rintro e w' ⟨rfl, rfl⟩)
          go_round
          case rel => exact ⟨k + 1, by omega, by omega, by go_num, hnx⟩
          case measure => simp [intOf]; omega
        · have hfin := Lib.hid ((HNE.out k h1 h2 he).symm.trans hlx.out)
          have C := cmpCompare_any (xs[k]?.getD 0) (ys[k]?.getD 0) w
          have hne : (cmpI (xs[k]?.getD 0) (ys[k]?.getD 0) != 0) = true := by
            unfold cmpI
            rw [if_neg he]
            by_cases h : xs[k]?.getD 0 < ys[k]?.getD 0
            · rw [if_pos h]; rfl
            · rw [if_neg h]; rfl
          have C := Lib.hid C
          clear he
          generalize xs[k]?.getD 0 = x at ca C hne hfin
          generalize ys[k]?.getD 0 = y at cb C hne hfin
          generalize cmpI x y = z at C hne hfin
          go_wp2_with (go_at_call 73; refine C.out.mono ?_; rintro e w' ⟨rfl, rfl⟩)
          go_ret
          exact ⟨by rw [← hfin.out]; rfl, rfl⟩
      · have hfin := Lib.hid ((HOV.out k h1 h2).symm.trans hlx.out)
        have h2' : ¬ (k : Int) < (ys.length : Int) := by omega
        generalize xs[k]?.getD 0 = x at ca
        go_wp2
        go_ret
        exact ⟨by rw [← hfin.out]; rfl, rfl⟩
    · have hfin := Lib.hid ((HEN.out k h1 hk1 hk2).symm.trans hlx.out)
      have h1' : ¬ (k : Int) < (xs.length : Int) := by omega
      by_cases h3 : xs.length < ys.length
      · have h3' : (xs.length : Int) < (ys.length : Int) := by omega
        go_wp2
        go_ret
        exact ⟨by rw [← hfin.out, if_pos h3]; rfl, rfl⟩
      · have h3' : ¬ (xs.length : Int) < (ys.length : Int) := by omega
        go_wp2
        go_ret
        exact ⟨by rw [← hfin.out, if_neg h3]; rfl, rfl⟩
end Go.Proofs.Ytldlpeohdindaaa
end
section
namespace Go.Proofs.Ytldlpeohdindaaa
set_option maxRecDepth 100000
set_option linter.unusedVariables false
open Go.RowKit

theorem Try.info2 : (Try.prog.info? 2).map (fun i => (i.zero, i.size, i.bytes)) = some (some (.int .i64 0), 1, 8) := by kernel_rfl

theorem own_below {w w' : World} {B : Nat} {v : Value} {n : Nat} {xs : List Value} {e : TypeId} {s : Nat} (h : w.ownsRow B e s v n xs) (k : Below w.heap.size w w') : w'.ownsRow B e s v n xs := by
  refine ⟨h.1, ?_⟩
  rcases h.2 with hn | ⟨g, cap, cur, rfl, hb, hg, rest⟩
  · exact .inl hn
  · refine .inr ⟨g, cap, cur, rfl, hb, ?_, rest⟩
    rw [k.block g (Array.getElem?_eq_some_iff.1 hg).1]
    exact hg

theorem own_drewN {w : World} {B : Nat} {v : Value} {n : Nat} {xs : List Value} {e : TypeId} {s : Nat} (h : w.ownsRow B e s v n xs) (q : Nat) : (w.drewN q).ownsRow B e s v n xs := h

theorem own_base {w : World} {B B' : Nat} {v : Value} {n : Nat} {xs : List Value} {e : TypeId} {s : Nat} (h : w.ownsRow B e s v n xs) (hb : B' ≤ B) : w.ownsRow B' e s v n xs := by
  refine ⟨h.1, ?_⟩
  rcases h.2 with hn | ⟨g, cap, cur, rfl, hb2, rest⟩
  · exact .inl hn
  · exact .inr ⟨g, cap, cur, rfl, Nat.le_trans hb hb2, rest⟩

theorem own_apart {w w' : World} {B m n : Nat} {v v' : Value} {xs ys : List Value} {e e' : TypeId} {s s' : Nat} (h : w.ownsRow B e s v n xs) (k : w'.ownsRow w.heap.size e' s' v' m ys) : v.ownBlock = none ∨ v.ownBlock ≠ v'.ownBlock := by
  cases hv : v.ownBlock with
  | none => exact .inl rfl
  | some a =>
    refine .inr fun he => ?_
    have h1 := (h.lt a hv).2
    have h2 := (k.lt a he.symm).1
    omega

theorem rd_of_own {w : World} {B : Nat} {v : Value} {zs : List Int} {n : Nat} (h : w.ownsRow B 2 1 v n (zs.map (Value.int .i64))) (hn : n = zs.length) : RdI w v n (fun i => zs[i]?.getD 0) := by
  subst hn
  rcases h.2 with ⟨rfl, h0⟩ | ⟨g, cap, cur, rfl, hb, hg, h1, h2, h3, h4⟩
  · exact ⟨none, 0, by rw [h0], by rw [h0]; exact Nat.zero_le _, .inl h0⟩
  · refine ⟨_, cap, rfl, Nat.le_trans h1 h2, ?_⟩
    by_cases h0 : zs.length = 0
    · exact .inl h0
    · refine .inr ⟨g, 0, rfl, fun i hi => ?_⟩
      rw [Nat.zero_add, h.cellAt i (by omega), List.getElem?_map]
      simp [hi]

end Go.Proofs.Ytldlpeohdindaaa
end
section
namespace Go.Proofs.Ytldlpeohdindaaa
open Go.RowKit
set_option maxRecDepth 100000
set_option linter.unusedVariables false

/-- A slice that came in: its n elements are G 0, G 1, .., each an int of the kind k. -/
def IsRow (k : IntKind) (w : World) (a : Option Addr) (n cap : Nat) (zs : List Int) : Prop :=
  (a = none ∧ n = 0 ∧ cap = 0 ∧ zs = []) ∨
  ∃ x, a = some x ∧ n ≤ cap ∧ cap ≤ maxLen ∧ zs.length = cap ∧ (∀ i, i < zs.length → w.cell? (x.add i) = some (.int k (zs.getD i 0))) ∧ ∀ z ∈ zs, (Lit.int k z).wf = true

theorem IsRow.rd {w : World} {a : Option Addr} {n cap : Nat} {zs : List Int} (h : IsRow .i64 w a n cap zs) : RdI w (.slice a n cap) n (fun i => zs.getD i 0) := by
  rcases h with ⟨rfl, rfl, rfl, _⟩ | ⟨x, rfl, h1, h2, h3, h4, _⟩
  · exact ⟨none, 0, rfl, Nat.zero_le _, .inl rfl⟩
  · refine ⟨_, cap, rfl, Nat.le_trans h1 h2, ?_⟩
    by_cases h0 : n = 0
    · exact .inl h0
    · obtain ⟨b, off, spot⟩ := x
      have hc := h4 0 (by omega)
      have hs : spot = none := by simpa [Addr.add] using World.cell?_spot hc
      subst hs
      refine .inr ⟨b, off, rfl, fun i hi => ?_⟩
      have h5 := h4 i (by omega)
      have e : (⟨b, off, none⟩ : Addr).add i = ⟨b, off + i, none⟩ := by
        by_cases h6 : i = 0
        · subst h6; simp [Addr.add]
        · simp [Addr.add, h6]
      rw [← e]
      exact h5

theorem IsRow.bounds {w : World} {a : Option Addr} {n cap : Nat} {zs : List Int} (h : IsRow .i64 w a n cap zs) (i : Nat) : -9223372036854775808 ≤ zs.getD i 0 ∧ zs.getD i 0 ≤ 9223372036854775807 := by
  have hd : ∀ z ∈ zs, (Lit.int .i64 z).wf = true := by
    rcases h with ⟨_, _, _, rfl⟩ | ⟨x, _, _, _, _, _, h⟩
    · intro z hz; simp at hz
    · exact h
  by_cases hi : i < zs.length
  · have hm : zs.getD i 0 ∈ zs := by
      rw [List.getD_eq_getElem?_getD, List.getElem?_eq_getElem hi]
      exact List.getElem_mem hi
    exact i64_bounds (hd _ hm)
  · rw [List.getD_eq_getElem?_getD, List.getElem?_eq_none (by omega)]
    simp

theorem RdI.below {w w' : World} {v : Value} {n : Nat} {G : Nat → Int} (h : RdI w v n G) (k : Below w.heap.size w w') : RdI w' v n G := by
  obtain ⟨a, cap, rfl, hm, hc⟩ := h
  refine ⟨a, cap, rfl, hm, ?_⟩
  rcases hc with h0 | ⟨b, off, rfl, hc⟩
  · exact .inl h0
  · refine .inr ⟨b, off, rfl, fun i hi => ?_⟩
    have h1 := hc i hi
    exact (k.cell (p := ⟨b, off + i, none⟩) (World.block_lt_of_cell? w _ h1)).trans h1

theorem RdI.drewN {w : World} {v : Value} {n : Nat} {G : Nat → Int} (h : RdI w v n G) (q : Nat) : RdI (w.drewN q) v n G := h

theorem RdI.congr {w : World} {v : Value} {n : Nat} {G G' : Nat → Int} (h : RdI w v n G) (e : ∀ i, i < n → G i = G' i) : RdI w v n G' := by
  obtain ⟨a, cap, rfl, hm, hc⟩ := h
  refine ⟨a, cap, rfl, hm, ?_⟩
  rcases hc with h0 | ⟨b, off, rfl, hc⟩
  · exact .inl h0
  · exact .inr ⟨b, off, rfl, fun i hi => by rw [hc i hi, e i hi]⟩

/-- n numbers, the first j of which are G 0, .. and the others 0. -/
def cpy (G : Nat → Int) (n j : Nat) : List Int := (List.range n).map fun i => if i < j then G i else 0
theorem cpy_length (G : Nat → Int) (n j : Nat) : (cpy G n j).length = n := by simp [cpy]
theorem cpy_set (G : Nat → Int) (n j : Nat) : (cpy G n j).set j (G j) = cpy G n (j + 1) := by
  apply List.ext_getElem
  · simp [cpy]
  · intro i h1 h2
    simp only [cpy, List.getElem_set, List.getElem_map, List.getElem_range]
    by_cases e : j = i
    · subst e; rw [if_pos rfl, if_pos (by omega)]
    · rw [if_neg e]
      by_cases h : i < j
      · rw [if_pos h, if_pos (by omega)]
      · rw [if_neg h, if_neg (by omega)]
theorem cpy_zero (G : Nat → Int) (n : Nat) : cpy G n 0 = List.replicate n 0 := by
  apply List.ext_getElem
  · simp [cpy]
  · intro i h1 h2; simp [cpy]
theorem cpy_get (G : Nat → Int) (n i : Nat) (h : i < n) : (cpy G n n)[i]?.getD 0 = G i := by
  simp [cpy, h]

theorem made_list0 (n : Nat) : (madeCells (Value.cells (.int .i64 0)) (n * 1)).toList = (List.replicate n (0 : Int)).map (Value.int .i64) := by
  rw [Nat.mul_one, List.map_replicate]
  exact toList_madeCells_one _ _

theorem own_at {w : World} {B g n cap : Nat} {xs : List Int} (h : w.ownsRow B 2 1 (.slice (some ⟨g, 0, none⟩) n cap) n (xs.map (Value.int .i64))) (j : Nat) (hj : j < n) : w.cell? ⟨g, j, none⟩ = some (.int .i64 (xs[j]?.getD 0)) := by
  have hl := h.1
  rw [List.length_map] at hl
  rw [h.cellAt j (by omega), List.getElem?_map, List.getElem?_eq_getElem (by omega)]
  rfl

/-- The copy: in new memory; it owns the numbers and reads as they do. -/
theorem toInt64S_any (v : Value) (n : Nat) (G : Nat → Int) (w : World) (hn : n ≤ 17592186044416) (h : RdI w v n G) :
    Calls Try.prog 47 #[v] w fun e w' => ∃ u, e = .returned u ∧ w'.ownsRow w.heap.size 2 1 u n ((cpy G n n).map (Value.int .i64)) ∧ Below w.heap.size w w' := by
  obtain ⟨i0, hi, hz0, hz1, hz2⟩ := info_parts Try.info2
  obtain ⟨a, cap, rfl, hm, hc⟩ := h
  by_cases h0 : n = 0
  · subst h0
    clear hc
    go_enter Try.func47, Try.ntmps47
    go_wp2_with (at_make; refine wpList_make_full _ rfl _ _ 46 rfl w.heap.size 2 i0 (.int .i64 0) 1 Try.underlying46 hi hz0 hz1 .i64 .i64 0 0 0 rfl rfl rfl rfl (by omega) (by unfold maxLen; omega) (Nat.le_refl _) ?_; intro w1 hown hgrow; rw [made_list0, ← cpy_zero G 0] at hown; have H1 := Lib.hid hown; have G1 := Lib.hid hgrow; clear hown hgrow)
    refine wp_loop_rounds 1 ?_
    rw [rounds_succ]
    go_wp2
    go_ret
    exact ⟨_, rfl, H1.out, (Below.refl _ w).grown G1.out (Nat.le_refl _) (by intro k hk; cases hk)⟩
  · obtain ⟨b, off, rfl, hc'⟩ := hc.resolve_left h0
    have HC := Lib.hid hc'
    have hlt0 : ∀ i, i < n → b < w.heap.size := fun i hi => World.block_lt_of_cell? w ⟨b, off + i, none⟩ (hc' i hi)
    have hbl := hlt0 0 (by omega)
    clear hc hc' hlt0 h0
    go_enter Try.func47, Try.ntmps47
    go_wp2_with (at_make; refine wpList_make_full _ rfl _ _ 46 rfl w.heap.size 2 i0 (.int .i64 0) 1 Try.underlying46 hi hz0 hz1 .i64 .i64 (n : Int) (n : Int) n rfl rfl rfl rfl (by rw [hz2]; omega) hm (Nat.le_refl _) ?_; intro w1 hown hgrow; rw [made_list0, ← cpy_zero G n] at hown; have H1 := Lib.hid hown; have G1 := Lib.hid hgrow; clear hown hgrow)
    unfold maxLen at hm
    have B1 : Below w.heap.size w w1 := (Below.refl _ w).grown G1.out (Nat.le_refl _) (by intro k hk; cases hk)
    clear G1
    go_loopw [4] (fun c wr => ∃ j : Nat, j ≤ n ∧ c = .int .i64 j ∧ Hid (wr.ownsRow w.heap.size 2 1 (.slice (some ⟨w.heap.size, 0, none⟩) n n) n ((cpy G n j).map (Value.int .i64))) ∧ Below w.heap.size w wr) (fun c _ => n - (intOf c).toNat)
    case atStart => exact ⟨0, by omega, rfl, H1, B1⟩
    case round =>
      clear H1 B1
      obtain ⟨j, hj, rfl, ho, hb⟩ := hrel
      by_cases hlt : j < n
      · have hlt' : (j : Int) < (n : Int) := by omega
        have c1 : wr.cell? ⟨b, off + j, none⟩ = some (.int .i64 (G j)) := (hb.cell (p := ⟨b, off + j, none⟩) hbl).trans (HC.out j hlt)
        have c2 := own_at ho.out j hlt
        have f2 := ho.out.frozenAt j
        have hst := ho.out.stored j (.int .i64 (G j))
        rw [← List.map_set, cpy_set] at hst
        have HS := Lib.hid hst
        generalize (cpy G n j)[j]?.getD 0 = z at c2
        clear hst ho
        go_wp2
        go_roundw
        case rel => exact ⟨j + 1, by omega, by go_num, Lib.hid HS.out.1, hb.setCell (Nat.le_refl _) _⟩
        case measure => simp [intOf]; omega
      · obtain rfl : j = n := by omega
        go_wp2
        go_ret
        exact ⟨_, rfl, ho.out, hb⟩
end Go.Proofs.Ytldlpeohdindaaa
end
section
namespace Go.Proofs.Ytldlpeohdindaaa
open Go.RowKit
set_option maxRecDepth 100000
set_option linter.unusedVariables false

theorem own_sameblock {w w' : World} {B : Nat} {v : Value} {n : Nat} {xs : List Value} {e : TypeId} {s : Nat} (h : w.ownsRow B e s v n xs)
    (k : ∀ g, v.ownBlock = some g → w'.heap[g]? = w.heap[g]?) : w'.ownsRow B e s v n xs := by
  refine ⟨h.1, ?_⟩
  rcases h.2 with hn | ⟨g, cap, cur, rfl, hb, hg, rest⟩
  · exact .inl hn
  · refine .inr ⟨g, cap, cur, rfl, hb, ?_, rest⟩
    rw [k g rfl]
    exact hg

/-- Two rows of different element types lie in different blocks. -/
theorem own_types {w : World} {B B' : Nat} {v v' : Value} {n n' : Nat} {xs xs' : List Value} {e e' : TypeId} {s s' : Nat} (h : w.ownsRow B e s v n xs) (h' : w.ownsRow B' e' s' v' n' xs') (he : e ≠ e') :
    v.ownBlock = none ∨ v.ownBlock ≠ v'.ownBlock := by
  rcases h.2 with ⟨rfl, _⟩ | ⟨g, cap, cur, rfl, _, hg, _⟩
  · exact .inl rfl
  · refine .inr fun e0 => ?_
    rcases h'.2 with ⟨rfl, _⟩ | ⟨g', cap', cur', rfl, _, hg', _⟩
    · cases e0
    · simp only [Value.ownBlock, Option.some.injEq] at e0
      subst e0
      rw [hg] at hg'
      cases hg'
      exact he rfl

end Go.Proofs.Ytldlpeohdindaaa
end
