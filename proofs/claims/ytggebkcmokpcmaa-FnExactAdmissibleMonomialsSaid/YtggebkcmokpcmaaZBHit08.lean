/-
  Joined: WCmp.
-/
import Derived.Test.YtggebkcmokpcmaaZBHit01
section
namespace Go.Proofs.Ytggebkcmokpcmaa
open Go.RowKit
set_option maxRecDepth 100000
set_option linter.unusedVariables false

def lexLt : List Int → List Int → Bool
  | [], [] => false
  | [], _ :: _ => true
  | _ :: _, [] => false
  | a :: l, b :: l' => if a = b then lexLt l l' else decide (a < b)
/-- 1, 0 or -1: greater, equal, less. -/
def lexCmp : List Int → List Int → Int
  | [], [] => 0
  | [], _ :: _ => -1
  | _ :: _, [] => 1
  | a :: l, b :: l' => if a = b then lexCmp l l' else if a < b then -1 else 1

theorem lexCmp_lt : ∀ xs ys, lexCmp xs ys < 0 ↔ lexLt xs ys = true
  | [], [] => by simp [lexCmp, lexLt]
  | [], _ :: _ => by simp [lexCmp, lexLt]
  | _ :: _, [] => by simp [lexCmp, lexLt]
  | a :: l, b :: l' => by
    rw [lexCmp, lexLt]
    by_cases e : a = b
    · rw [if_pos e, if_pos e]; exact lexCmp_lt l l'
    · rw [if_neg e, if_neg e]
      by_cases h : a < b
      · rw [if_pos h]; simp [h]
      · rw [if_neg h]; simp [h]
theorem lexCmp_range : ∀ xs ys, -1 ≤ lexCmp xs ys ∧ lexCmp xs ys ≤ 1
  | [], [] => by simp [lexCmp]
  | [], _ :: _ => by simp [lexCmp]
  | _ :: _, [] => by simp [lexCmp]
  | a :: l, b :: l' => by
    rw [lexCmp]
    by_cases e : a = b
    · rw [if_pos e]; exact lexCmp_range l l'
    · rw [if_neg e]
      by_cases h : a < b
      · rw [if_pos h]; decide
      · rw [if_neg h]; decide

theorem drop_cons (xs : List Int) (k : Nat) (h : k < xs.length) : xs.drop k = (xs[k]?.getD 0) :: xs.drop (k + 1) := by
  rw [List.getElem?_eq_getElem h]
  exact List.drop_eq_getElem_cons h

theorem less_eq (xs ys : List Int) (k : Nat) (hx : k < xs.length) (hy : k < ys.length) (he : xs[k]?.getD 0 = ys[k]?.getD 0) : lexLt (xs.drop k) (ys.drop k) = lexLt (xs.drop (k + 1)) (ys.drop (k + 1)) := by
  rw [drop_cons xs k hx, drop_cons ys k hy, lexLt, if_pos he]
theorem less_ne (xs ys : List Int) (k : Nat) (hx : k < xs.length) (hy : k < ys.length) (he : xs[k]?.getD 0 ≠ ys[k]?.getD 0) : lexLt (xs.drop k) (ys.drop k) = decide (xs[k]?.getD 0 < ys[k]?.getD 0) := by
  rw [drop_cons xs k hx, drop_cons ys k hy, lexLt, if_neg he]
theorem less_end (xs ys : List Int) (k : Nat) (h : ¬ (k < xs.length ∧ k < ys.length)) (hx : k ≤ xs.length) (hy : k ≤ ys.length) : lexLt (xs.drop k) (ys.drop k) = decide (xs.length < ys.length) := by
  by_cases h1 : k < xs.length
  · have e : ys.drop k = [] := List.drop_eq_nil_of_le (by omega)
    rw [e, drop_cons xs k h1, lexLt]
    have : ¬ xs.length < ys.length := by omega
    simp [this]
  · have e : xs.drop k = [] := List.drop_eq_nil_of_le (by omega)
    rw [e]
    by_cases h2 : k < ys.length
    · rw [drop_cons ys k h2, lexLt]
      have : xs.length < ys.length := by omega
      simp [this]
    · have e2 : ys.drop k = [] := List.drop_eq_nil_of_le (by omega)
      rw [e2, lexLt]
      have : ¬ xs.length < ys.length := by omega
      simp [this]

/-- A slice that reads as a list. -/
abbrev RdL (w : World) (v : Value) (xs : List Int) : Prop := RdI w v xs.length (fun j => xs[j]?.getD 0)

theorem l01Less_any (va vb : Value) (xs ys : List Int) (w : World) (ha : RdL w va xs) (hb : RdL w vb ys) :
    Calls Try.prog 72 #[va, vb] w fun e w' => e = .returned (.bool (lexLt xs ys)) ∧ ∃ q, w' = w.drewN q := by
  obtain ⟨aa, capa, rfl, hma, ha⟩ := ha
  obtain ⟨ab, capb, rfl, hmb, hb⟩ := hb
  unfold maxLen at hma hmb
  have HEQ := Lib.hid (less_eq xs ys)
  have HNE := Lib.hid (less_ne xs ys)
  have HEN := Lib.hid (less_end xs ys)
  have HA : Hid (∀ i, i < xs.length → ∃ b off, aa = some ⟨b, off, none⟩ ∧ w.cell? ⟨b, off + i, none⟩ = some (.int .i64 (xs[i]?.getD 0))) := by
    refine Lib.hid fun i hi => ?_
    obtain ⟨b, off, e, hc⟩ := ha.resolve_left (by omega)
    exact ⟨b, off, e, hc i hi⟩
  have HB : Hid (∀ i, i < ys.length → ∃ b off, ab = some ⟨b, off, none⟩ ∧ w.cell? ⟨b, off + i, none⟩ = some (.int .i64 (ys[i]?.getD 0))) := by
    refine Lib.hid fun i hi => ?_
    obtain ⟨b, off, e, hc⟩ := hb.resolve_left (by omega)
    exact ⟨b, off, e, hc i hi⟩
  generalize hr : lexLt xs ys = r
  have HR := Lib.hid hr
  clear hr ha hb
  have HX : Hid (∀ k, (xs.drop k).length = xs.length - k) := Lib.hid (fun k => List.length_drop)
  go_enter Try.func72, Try.ntmps72
  go_wp2
  go_loopw [5] (fun c wr => ∃ k q : Nat, k ≤ xs.length ∧ k ≤ ys.length ∧ c = .int .i64 k ∧ Hid (lexLt (xs.drop k) (ys.drop k) = r) ∧ Hid (wr = w.drewN q)) (fun c _ => xs.length - (intOf c).toNat)
  case atStart => exact ⟨0, 0, Nat.zero_le _, Nat.zero_le _, rfl, Lib.hid (by rw [List.drop_zero, List.drop_zero]; exact HR.out), Lib.hid rfl⟩
  case round =>
    obtain ⟨k, q, hk1, hk2, rfl, hlx, hw⟩ := hrel
    by_cases hlt : k < xs.length ∧ k < ys.length
    · obtain ⟨h1, h2⟩ := hlt
      have h1' : (k : Int) < (xs.length : Int) := by omega
      have h2' : (k : Int) < (ys.length : Int) := by omega
      obtain ⟨ba, oa, ea, ca⟩ := HA.out k h1
      obtain ⟨bb, ob, eb, cb⟩ := HB.out k h2
      have c1 : wr.cell? ⟨ba, oa + k, none⟩ = some (.int .i64 (xs[k]?.getD 0)) := by rw [hw.out]; exact ca
      have c2 : wr.cell? ⟨bb, ob + k, none⟩ = some (.int .i64 (ys[k]?.getD 0)) := by rw [hw.out]; exact cb
      clear ca cb
      by_cases he : xs[k]?.getD 0 = ys[k]?.getD 0
      · have hnx := Lib.hid ((HEQ.out k h1 h2 he).symm.trans hlx.out)
        rw [he] at c1
        generalize ys[k]?.getD 0 = y at c1 c2
        clear he
        go_wp2
        go_quiet (fail)
        go_wp2
        go_roundw
        case rel => exact ⟨k + 1, q + nq, by omega, by omega, by go_num, hnx, Lib.hid (by rw [hw.out]; exact World.drewN_drewN ..)⟩
        case measure => simp [intOf]; omega
      · have hfin := Lib.hid ((HNE.out k h1 h2 he).symm.trans hlx.out)
        have hne : (xs[k]?.getD 0 != ys[k]?.getD 0) = true := by rw [bne_iff_ne]; exact he
        clear he
        generalize xs[k]?.getD 0 = x at c1 hne hfin
        generalize ys[k]?.getD 0 = y at c2 hne hfin
        go_wp2
        go_quiet (fail)
        go_wp2
        go_quiet (fail)
        go_wp2
        go_ret
        exact ⟨by rw [← hfin.out]; rfl, _, by rw [hw.out, World.drewN_drewN, World.drewN_drewN]⟩
    · have hfin := Lib.hid ((HEN.out k hlt hk1 hk2).symm.trans hlx.out)
      by_cases h1 : k < xs.length
      · have h2 : ¬ k < ys.length := fun e => hlt ⟨h1, e⟩
        have h1' : (k : Int) < (xs.length : Int) := by omega
        have h2' : ¬ (k : Int) < (ys.length : Int) := by omega
        clear hlt
        go_wp2
        go_ret
        exact ⟨by rw [← hfin.out]; rfl, q, hw.out⟩
      · have h1' : ¬ (k : Int) < (xs.length : Int) := by omega
        clear hlt
        go_wp2
        go_ret
        exact ⟨by rw [← hfin.out]; rfl, q, hw.out⟩

/-- cmp.Compare at two numbers. -/
def cmpI (x y : Int) : Int := if x = y then 0 else if x < y then -1 else 1
theorem cmpCompare_any (x y : Int) (w : World) :
    Calls Try.prog 111 #[.int .i64 x, .int .i64 y] w fun e w' => e = .returned (.int .i64 (cmpI x y)) ∧ w = w' := by
  by_cases h1 : x < y
  · have E := Lib.hid (show cmpI x y = -1 by unfold cmpI; rw [if_neg (by omega), if_pos h1])
    go_enter Try.func111, Try.ntmps111
    go_wp2
    go_ret
    exact ⟨by rw [E.out]; rfl, rfl⟩
  · by_cases h2 : y < x
    · have E := Lib.hid (show cmpI x y = 1 by unfold cmpI; rw [if_neg (by omega), if_neg h1])
      go_enter Try.func111, Try.ntmps111
      go_wp2
      go_ret
      exact ⟨by rw [E.out]; rfl, rfl⟩
    · have E := Lib.hid (show cmpI x y = 0 by unfold cmpI; rw [if_pos (by omega)])
      go_enter Try.func111, Try.ntmps111
      go_wp2
      go_ret
      exact ⟨by rw [E.out]; rfl, rfl⟩

theorem cmp_eq (xs ys : List Int) (k : Nat) (hx : k < xs.length) (hy : k < ys.length) (he : xs[k]?.getD 0 = ys[k]?.getD 0) : lexCmp (xs.drop k) (ys.drop k) = lexCmp (xs.drop (k + 1)) (ys.drop (k + 1)) := by
  rw [drop_cons xs k hx, drop_cons ys k hy, lexCmp, if_pos he]
theorem cmp_ne (xs ys : List Int) (k : Nat) (hx : k < xs.length) (hy : k < ys.length) (he : xs[k]?.getD 0 ≠ ys[k]?.getD 0) : lexCmp (xs.drop k) (ys.drop k) = cmpI (xs[k]?.getD 0) (ys[k]?.getD 0) := by
  rw [drop_cons xs k hx, drop_cons ys k hy, lexCmp, if_neg he]
  unfold cmpI
  rw [if_neg he]
theorem cmp_over (xs ys : List Int) (k : Nat) (hx : k < xs.length) (hy : ¬ k < ys.length) : lexCmp (xs.drop k) (ys.drop k) = 1 := by
  rw [drop_cons xs k hx, show ys.drop k = [] from List.drop_eq_nil_of_le (by omega), lexCmp]
theorem cmp_end (xs ys : List Int) (k : Nat) (hx : ¬ k < xs.length) (hk : k ≤ xs.length) (hy : k ≤ ys.length) : lexCmp (xs.drop k) (ys.drop k) = if xs.length < ys.length then -1 else 0 := by
  rw [show xs.drop k = [] from List.drop_eq_nil_of_le (by omega)]
  by_cases h2 : k < ys.length
  · rw [drop_cons ys k h2, lexCmp, if_pos (by omega)]
  · rw [show ys.drop k = [] from List.drop_eq_nil_of_le (by omega), lexCmp, if_neg (by omega)]

theorem slicesCompare_any (va vb : Value) (xs ys : List Int) (w : World) (ha : RdL w va xs) (hb : RdL w vb ys) :
    Calls Try.prog 101 #[va, vb] w fun e w' => e = .returned (.int .i64 (lexCmp xs ys)) ∧ w = w' := by
  obtain ⟨aa, capa, rfl, hma, ha⟩ := ha
  obtain ⟨ab, capb, rfl, hmb, hb⟩ := hb
  unfold maxLen at hma hmb
  have HEQ := Lib.hid (cmp_eq xs ys)
  have HNE := Lib.hid (cmp_ne xs ys)
  have HOV := Lib.hid (cmp_over xs ys)
  have HEN := Lib.hid (cmp_end xs ys)
  have HA : Hid (∀ i, i < xs.length → ∃ b off, aa = some ⟨b, off, none⟩ ∧ w.cell? ⟨b, off + i, none⟩ = some (.int .i64 (xs[i]?.getD 0))) := by
    refine Lib.hid fun i hi => ?_
    obtain ⟨b, off, e, hc⟩ := ha.resolve_left (by omega)
    exact ⟨b, off, e, hc i hi⟩
  have HB : Hid (∀ i, i < ys.length → ∃ b off, ab = some ⟨b, off, none⟩ ∧ w.cell? ⟨b, off + i, none⟩ = some (.int .i64 (ys[i]?.getD 0))) := by
    refine Lib.hid fun i hi => ?_
    obtain ⟨b, off, e, hc⟩ := hb.resolve_left (by omega)
    exact ⟨b, off, e, hc i hi⟩
  generalize hr : lexCmp xs ys = r
  have HR := Lib.hid hr
  clear hr ha hb
  go_enter Try.func101, Try.ntmps101
  go_wp2
  go_loop [5, 6, 7, 8, 11] (fun _ _ _ _ c => ∃ k : Nat, k ≤ xs.length ∧ k ≤ ys.length ∧ c = .int .i64 k ∧ Hid (lexCmp (xs.drop k) (ys.drop k) = r)) (fun _ _ _ _ c => xs.length - (intOf c).toNat)
  case atStart => exact ⟨0, Nat.zero_le _, Nat.zero_le _, rfl, Lib.hid (by rw [List.drop_zero, List.drop_zero]; exact HR.out)⟩
  case round =>
    obtain ⟨k, hk1, hk2, rfl, hlx⟩ := hrel
    by_cases h1 : k < xs.length
    · have h1' : (k : Int) < (xs.length : Int) := by omega
      obtain ⟨ba, oa, rfl, ca⟩ := HA.out k h1
      by_cases h2 : k < ys.length
      · have h2' : (k : Int) < (ys.length : Int) := by omega
        obtain ⟨bb, ob, rfl, cb⟩ := HB.out k h2
        by_cases he : xs[k]?.getD 0 = ys[k]?.getD 0
        · have hnx := Lib.hid ((HEQ.out k h1 h2 he).symm.trans hlx.out)
          have E : cmpI (xs[k]?.getD 0) (ys[k]?.getD 0) = 0 := by unfold cmpI; rw [if_pos he]
          have C := cmpCompare_any (xs[k]?.getD 0) (ys[k]?.getD 0) w
          rw [E] at C
          have C := Lib.hid C
          clear he E
          generalize xs[k]?.getD 0 = x at ca C
          generalize ys[k]?.getD 0 = y at cb C
          go_wp2_with (go_at_call 111; refine C.out.mono ?_; rintro e w' ⟨rfl, rfl⟩)
          go_round
          case rel => exact ⟨k + 1, by omega, by omega, by go_num, hnx⟩
          case measure => simp [intOf]; omega
        · have hfin := Lib.hid ((HNE.out k h1 h2 he).symm.trans hlx.out)
          have C := cmpCompare_any (xs[k]?.getD 0) (ys[k]?.getD 0) w
          have hne : (cmpI (xs[k]?.getD 0) (ys[k]?.getD 0) != 0) = true := by
            unfold cmpI
            rw [if_neg he]
            by_cases h : xs[k]?.getD 0 < ys[k]?.getD 0
            · rw [if_pos h]; rfl
            · rw [if_neg h]; rfl
          have C := Lib.hid C
          clear he
          generalize xs[k]?.getD 0 = x at ca C hne hfin
          generalize ys[k]?.getD 0 = y at cb C hne hfin
          generalize cmpI x y = z at C hne hfin
          go_wp2_with (go_at_call 111; refine C.out.mono ?_; rintro e w' ⟨rfl, rfl⟩)
          go_ret
          exact ⟨by rw [← hfin.out]; rfl, rfl⟩
      · have hfin := Lib.hid ((HOV.out k h1 h2).symm.trans hlx.out)
        have h2' : ¬ (k : Int) < (ys.length : Int) := by omega
        generalize xs[k]?.getD 0 = x at ca
        go_wp2
        go_ret
        exact ⟨by rw [← hfin.out]; rfl, rfl⟩
    · have hfin := Lib.hid ((HEN.out k h1 hk1 hk2).symm.trans hlx.out)
      have h1' : ¬ (k : Int) < (xs.length : Int) := by omega
      by_cases h3 : xs.length < ys.length
      · have h3' : (xs.length : Int) < (ys.length : Int) := by omega
        go_wp2
        go_ret
        exact ⟨by rw [← hfin.out, if_pos h3]; rfl, rfl⟩
      · have h3' : ¬ (xs.length : Int) < (ys.length : Int) := by omega
        go_wp2
        go_ret
        exact ⟨by rw [← hfin.out, if_neg h3]; rfl, rfl⟩
end Go.Proofs.Ytggebkcmokpcmaa
end
