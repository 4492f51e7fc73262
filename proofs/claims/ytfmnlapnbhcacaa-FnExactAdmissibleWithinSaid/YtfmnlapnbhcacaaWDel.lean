/-
  slices.IndexFunc and slices.DeleteFunc over slices of slices, with the closure of impl.AdmissibleWithin.
-/
import Derived.Test.YtfmnlapnbhcacaaWExc
import Derived.Test.YtfmnlapnbhcacaaWPushed
import Derived.Lib.SliceRun
namespace Go.Proofs.Ytfmnlapnbhcacaa
open Go.RowKit
set_option linter.unusedVariables false
set_option maxRecDepth 100000

/-- The excess of a list. -/
def excL (xs : List Int) : Int := exc (fun j => xs[j]?.getD 0) xs.length

theorem exceeds_any (v : Value) (xs : List Int) (lim : Int) (Be : Nat) (w : World) (h : RdI w v xs.length (fun j => xs[j]?.getD 0)) (hx : ∀ i, i < xs.length → okRange (fun j => xs[j]?.getD 0) i) (hl : xs.length ≤ 1000)
    (hc : w.cell? ⟨Be, 0, none⟩ = some (.int .i64 lim)) :
    Calls Try.prog 119 #[v, .pointer (some ⟨Be, 0, none⟩)] w (Tells (.bool (decide (lim < excL xs))) w) := by
  have E : ∀ q, Calls Try.prog 107 #[v] (w.drewN q) fun e w' => e = .returned (.int .i64 (excL xs)) ∧ ∃ p, w' = (w.drewN q).drewN p := fun q => excessOfWord_some v _ _ _ (h.drewN q) hl hx
  have E := Lib.hid E
  clear h hx hl
  generalize excL xs = x at E
  go_enter Try.func119, Try.ntmps119
  go_wp2_with fail
  go_quiet ((go_at_call 107; exact Calls.quiet_of (E.out _)))
  go_wp2_with fail
  go_ret
  exact ⟨rfl, nq, rfl⟩

/-- The closure at the values VS answers P. -/
def PredI (n : Nat) (VS : Nat → Value) (P : Nat → Bool) (Be : Nat) (w : World) : Prop :=
  ∀ i, i < n → ∀ wx, KeepI none w wx → Calls Try.prog 119 #[VS i, .pointer (some ⟨Be, 0, none⟩)] wx (Tells (.bool (P i)) wx)

theorem keepI_drewN (w : World) (q : Nat) : KeepI none w (w.drewN q) := fun _ _ _ _ => rfl

theorem indexFunc_any (n z cap g off Be : Nat) (r : Int) (P : Nat → Bool) (VS : Nat → Value) (w : World) (hn : n ≤ maxLen) (hc : ∀ i, i < n → w.cell? ⟨g, off + i, none⟩ = some (VS i))
    (hp : PredI n VS P Be w) (hz : z ≤ n) (hgood : ∀ i, i < z → P i = false) (hend : (z = n ∧ r = -1) ∨ (z < n ∧ P z = true ∧ r = (z : Int))) :
    Calls Try.prog 143 #[.slice (some ⟨g, off, none⟩) n cap, .func (.func 119) #[] #[.pointer (some ⟨Be, 0, none⟩)]] w (Tells (.int .i64 r) w) := by
  unfold maxLen at hn
  have HC := Lib.hid hc
  have HP := Lib.hid hp
  have HO := Lib.hid hgood
  have HE := Lib.hid hend
  clear hc hp hgood hend
  go_enter Try.func143, Try.ntmps143
  go_wp2_with fail
  go_loopw [5, 8] (fun _ c wr => ∃ k q : Nat, k ≤ z ∧ c = .int .i64 k ∧ Hid (wr = w.drewN q)) (fun _ c _ => n - (intOf c).toNat)
  case atStart => exact ⟨0, 0, by omega, rfl, Lib.hid rfl⟩
  case round =>
    obtain ⟨k, q, hk, rfl, hw⟩ := hrel
    by_cases hkn : k < n
    · have hlt' : (k : Int) < (n : Int) := by omega
      have c1 : wr.cell? ⟨g, off + k, none⟩ = some (VS k) := by rw [hw.out]; exact HC.out k hkn
      have E : Calls Try.prog 119 #[VS k, .pointer (some ⟨Be, 0, none⟩)] wr (Tells (.bool (P k)) wr) := HP.out k hkn wr (by rw [hw.out]; exact keepI_drewN w q)
      by_cases hlt : k < z
      · rw [HO.out k hlt] at E
        have E := Lib.hid E
        generalize VS k = v at c1 E
        go_wp2_with fail
        refine E.out.mono ?_
        rintro e w' ⟨rfl, q2, rfl⟩
        go_wp2_with fail
        go_roundw
        case rel => exact ⟨k + 1, q + q2, by omega, by go_num, Lib.hid (by rw [hw.out]; exact World.drewN_drewN ..)⟩
        case measure => simp [intOf]; omega
      · obtain rfl : k = z := by omega
        obtain ⟨_, hpz, rfl⟩ : k < n ∧ P k = true ∧ r = (k : Int) := by
          rcases HE.out with ⟨h, _⟩ | h
          · omega
          · exact h
        rw [hpz] at E
        have E := Lib.hid E
        clear hpz
        generalize VS k = v at c1 E
        go_wp2_with fail
        refine E.out.mono ?_
        rintro e w' ⟨rfl, q2, rfl⟩
        go_wp2_with fail
        go_ret
        exact ⟨rfl, q + q2, by rw [hw.out]; exact World.drewN_drewN ..⟩
    · obtain rfl : k = n := by omega
      obtain ⟨_, rfl⟩ : z = k ∧ r = -1 := by
        rcases HE.out with h | ⟨h, _⟩
        · exact h
        · omega
      go_wp2_with fail
      go_ret
      exact ⟨rfl, q, hw.out⟩

/-- The places that are kept, of the first j. -/
def kp (P : Nat → Bool) (j : Nat) : List Nat := (List.range j).filter fun i => !P i
theorem kp_skip (P : Nat → Bool) (j : Nat) (h : P j = true) : kp P (j + 1) = kp P j := by
  unfold kp
  rw [List.range_succ, List.filter_append]
  simp [h]
theorem kp_take (P : Nat → Bool) (j : Nat) (h : P j = false) : kp P (j + 1) = kp P j ++ [j] := by
  unfold kp
  rw [List.range_succ, List.filter_append]
  simp [h]
theorem kp_le (P : Nat → Bool) (j : Nat) : (kp P j).length ≤ j := by
  have := List.length_filter_le (fun i => !P i) (List.range j)
  unfold kp
  simpa using this
theorem kp_lt (P : Nat → Bool) (z j : Nat) (hz : P z = true) (h : z < j) : (kp P j).length < j := by
  induction j with
  | zero => omega
  | succ j ih =>
    by_cases e : z = j
    · subst e
      rw [kp_skip P z hz]
      have := kp_le P z
      omega
    · have h1 := ih (by omega)
      cases hp : P j with
      | true => rw [kp_skip P j hp]; omega
      | false => rw [kp_take P j hp, List.length_append, List.length_singleton]; omega
theorem kp_first (P : Nat → Bool) (z : Nat) (h : ∀ i, i < z → P i = false) : kp P z = List.range z := by
  unfold kp
  rw [List.filter_eq_self]
  intro i hi
  rw [h i (List.mem_range.1 hi)]
  rfl

theorem own_setCells (B g n cap : Nat) (e : TypeId) : ∀ (vs : List Value) (o : Nat) (xs : List Value) (w : World), w.ownsRow B e 1 (.slice (some ⟨g, 0, none⟩) n cap) n xs →
    ∃ ys : List Value, (w.setCells g o vs).ownsRow B e 1 (.slice (some ⟨g, 0, none⟩) n cap) n ys ∧ ys.take o = xs.take o ∧ w.grownBy (w.setCells g o vs) (some g)
  | [], o, xs, w, h => ⟨xs, h, rfl, ⟨rfl, rfl, rfl, Nat.le_refl _, fun _ _ _ => rfl⟩⟩
  | v :: r, o, xs, w, h => by
    obtain ⟨h1, h2⟩ := h.stored o v
    obtain ⟨ys, k1, k2, k3⟩ := own_setCells B g n cap e r (o + 1) (xs.set o v) _ h1
    refine ⟨ys, k1, ?_, ⟨k3.os.trans h2.os, k3.tape.trans h2.tape, k3.output.trans h2.output, Nat.le_trans h2.size k3.size, fun i hi hne => (k3.block i (Nat.lt_of_lt_of_le hi h2.size) hne).trans (h2.block i hi hne)⟩⟩
    have := congrArg (List.take o) k2
    rw [List.take_take, List.take_take, Nat.min_eq_left (by omega)] at this
    rw [this]
    apply List.ext_getElem?
    intro i
    rw [List.getElem?_take, List.getElem?_take]
    split
    · rw [List.getElem?_set_ne (by omega)]
    · rfl

theorem own_prefix {w : World} {B g n cap m : Nat} {e : TypeId} {xs : List Value} (h : w.ownsRow B e 1 (.slice (some ⟨g, 0, none⟩) n cap) n xs) (hm : m ≤ n) : w.ownsRow B e 1 (.slice (some ⟨g, 0, none⟩) m cap) m (xs.take m) := by
  rcases h.2 with ⟨h', _⟩ | ⟨g', cap', cur, h', hb, hg, hnc, hcm, hcs, htk⟩
  · simp at h'
  · simp only [Value.slice.injEq, Option.some.injEq, Addr.mk.injEq, and_true, true_and] at h'
    obtain ⟨rfl, rfl⟩ := h'
    refine ⟨?_, .inr ⟨g, cap, cur, rfl, hb, hg, by omega, hcm, hcs, ?_⟩⟩
    · rw [List.length_take, h.1]
      omega
    · rw [← htk, List.take_take]
      congr 1
      omega

theorem grown_tr1 {w w' w'' : World} {o : Option Nat} (h : w.grownBy w' o) (k : w'.grownBy w'' o) : w.grownBy w'' o :=
  ⟨k.os.trans h.os, k.tape.trans h.tape, k.output.trans h.output, Nat.le_trans h.size k.size, fun i hi hne => (k.block i (Nat.lt_of_lt_of_le hi h.size) hne).trans (h.block i hi hne)⟩
theorem grown_drewN {w wr : World} {g : Option Nat} (h : w.grownBy wr g) (q : Nat) : w.grownBy (wr.drewN q) g :=
  have k := below_drewN (Below.refl wr.heap.size wr) q
  grown_tr1 h ⟨k.os, k.tape, k.output, k.size, fun i hi _ => k.block i hi⟩

theorem delFunc_none (n cap g Be : Nat) (P : Nat → Bool) (VS : Nat → Value) (w : World) (hn : n ≤ maxLen) (hc : ∀ i, i < n → w.cell? ⟨g, 0 + i, none⟩ = some (VS i)) (hp : PredI n VS P Be w) (hP : ∀ i, i < n → P i = false) :
    Calls Try.prog 120 #[.slice (some ⟨g, 0, none⟩) n cap, .func (.func 119) #[] #[.pointer (some ⟨Be, 0, none⟩)]] w (Tells (.slice (some ⟨g, 0, none⟩) n cap) w) := by
  have I := Lib.hid (indexFunc_any n n cap g 0 Be (-1) P VS w hn hc hp (Nat.le_refl _) hP (.inl ⟨rfl, rfl⟩))
  clear hc hp hP
  go_enter Try.func120, Try.ntmps120
  go_wp2_with fail
  refine I.out.mono ?_
  rintro e w' ⟨rfl, q, rfl⟩
  go_wp2_with fail
  go_ret
  exact ⟨rfl, q, rfl⟩

theorem map_range_set (C : Nat → Value) (n i : Nat) (v : Value) : ((List.range n).map C).set i v = (List.range n).map fun p => if p = i then v else C p := by
  apply List.ext_getElem
  · simp
  · intro p h1 h2
    rw [List.getElem_set]
    by_cases e : i = p
    · subst e; simp
    · have e' : ¬ p = i := fun h => e h.symm
      simp [e, e']

theorem delFunc_some (n z cap g B Be : Nat) (P : Nat → Bool) (VS : Nat → Value) (w : World) (hn : n ≤ maxLen) (hown : w.ownsRow B 27 1 (.slice (some ⟨g, 0, none⟩) n cap) n ((List.range n).map VS)) (hcap : n ≤ cap)
    (hsh : ∀ i, i < n → ∃ a l c, VS i = .slice a l c) (hp : PredI n VS P Be w) (hz : z < n) (hgood : ∀ i, i < z → P i = false) (hpz : P z = true) :
    Calls Try.prog 120 #[.slice (some ⟨g, 0, none⟩) n cap, .func (.func 119) #[] #[.pointer (some ⟨Be, 0, none⟩)]] w fun e w' =>
      e = .returned (.slice (some ⟨g, 0, none⟩) (kp P n).length cap) ∧ w'.ownsRow B 27 1 (.slice (some ⟨g, 0, none⟩) (kp P n).length cap) (kp P n).length ((kp P n).map VS) ∧ w.grownBy w' (some g) := by
  have hc : ∀ i, i < n → w.cell? ⟨g, 0 + i, none⟩ = some (VS i) := by
    intro i hi
    rw [Nat.zero_add, hown.cellAt i (by omega)]
    simp [hi]
  have I := Lib.hid (indexFunc_any n z cap g 0 Be (z : Int) P VS w hn hc hp (by omega) hgood (.inr ⟨hz, hpz, rfl⟩))
  have HW := Lib.hid hown
  have HP := Lib.hid hp
  have HS := Lib.hid hsh
  have KF := Lib.hid (kp_first P z hgood)
  have HPZ := Lib.hid hpz
  have g0 : Hid (w.grownBy w (some g)) := Lib.hid ⟨rfl, rfl, rfl, Nat.le_refl _, fun _ _ _ => rfl⟩
  unfold maxLen at hn
  clear hc hp hgood hpz hsh hown
  have hz1 : ((z : Int) == -1) = false := by rw [beq_eq_false_iff_ne]; omega
  go_enter Try.func120, Try.ntmps120
  go_wp2_with fail
  refine I.out.mono ?_
  rintro e w' ⟨rfl, q0, rfl⟩
  clear I
  go_wp2_with fail
  go_loopw [5, 6, 7] (fun a c _ wr => ∃ (j i : Nat) (C : Nat → Value), z < j ∧ j ≤ n ∧ i < j ∧ c = .int .i64 j ∧ a = .int .i64 i ∧ Hid (i = (kp P j).length) ∧ Hid (wr.ownsRow B 27 1 (.slice (some ⟨g, 0, none⟩) n cap) n ((List.range n).map C)) ∧ Hid (w.grownBy wr (some g)) ∧ Hid (∀ p, j ≤ p → C p = VS p) ∧ Hid (∀ p, p < i → C p = VS ((kp P j)[p]?.getD 0))) (fun _ c _ _ => n - (intOf c).toNat)
  case atStart =>
    refine ⟨z + 1, z, VS, by omega, by omega, by omega, by go_num, rfl, Lib.hid ?_, HW, Lib.hid (grown_drewN g0.out q0), Lib.hid (fun p _ => rfl), Lib.hid fun p hp => ?_⟩
    · rw [kp_skip P z HPZ.out, KF.out, List.length_range]
    · rw [kp_skip P z HPZ.out, KF.out]
      simp [hp]
  case round =>
    obtain ⟨j, i, C, hzj, hjn, hij, rfl, rfl, hi, hO, hG, hH, hL⟩ := hrel
    by_cases hlt : j < n
    · have hlt' : (j : Int) < (n : Int) := by omega
      have hin : (i : Int) < (n : Int) := by omega
      obtain ⟨v, hv⟩ : ∃ v, v = VS j := ⟨_, rfl⟩
      obtain ⟨va, vl, vc, hvs⟩ := HS.out j hlt
      rw [← hv] at hvs
      have c1 : wr.cell? ⟨g, j, none⟩ = some v := by
        rw [hO.out.cellAt j (by omega)]
        simp [hlt, hH.out j (Nat.le_refl _), hv]
      have E : Calls Try.prog 119 #[v, .pointer (some ⟨Be, 0, none⟩)] wr (Tells (.bool (P j)) wr) := by
        rw [hv]
        exact HP.out j hlt wr (KeepI.row HW.out hG.out none)
      have HV := Lib.hid hv
      clear hv
      subst hvs
      cases hpj : P j with
      | true =>
        rw [hpj] at E
        have HPJ := Lib.hid hpj
        have E := Lib.hid E
        clear hpj
        go_wp2_with fail
        refine E.out.mono ?_
        rintro e w' ⟨rfl, q, rfl⟩
        go_wp2_with fail
        go_roundw
        case rel => exact ⟨j + 1, i, C, by omega, by omega, by omega, by go_num, rfl, Lib.hid (by rw [kp_skip P j HPJ.out]; exact hi.out), hO, Lib.hid (grown_drewN hG.out q), Lib.hid (fun p hp => hH.out p (by omega)), Lib.hid (by rw [kp_skip P j HPJ.out]; exact hL.out)⟩
        case measure => simp [intOf]; omega
      | false =>
        rw [hpj] at E
        have HPJ := Lib.hid hpj
        have E := Lib.hid E
        clear hpj
        have c2 : ∃ u, wr.cell? ⟨g, i, none⟩ = some u := by
          rw [hO.out.cellAt i (by omega)]
          exact ⟨C i, by simp [show i < n by omega]⟩
        obtain ⟨u, c2⟩ := c2
        have f2 := hO.out.frozenAt i
        go_wp2_with fail
        refine E.out.mono ?_
        rintro e w' ⟨rfl, q, rfl⟩
        have c3 : (wr.drewN q).cell? ⟨g, i, none⟩ = some u := c2
        have f3 : (wr.drewN q).frozen? ⟨g, i, none⟩ = false := f2
        have hst := (own_drewN hO.out q).stored i (.slice va vl vc)
        rw [map_range_set] at hst
        have HST := Lib.hid hst
        clear hst
        go_wp2_with fail
        go_roundw
        case rel =>
          refine ⟨j + 1, i + 1, _, by omega, by omega, by omega, by go_num, by go_num, Lib.hid ?_, Lib.hid HST.out.1, Lib.hid ?_, Lib.hid fun p hp => ?_, Lib.hid fun p hp => ?_⟩
          · rw [kp_take P j HPJ.out, List.length_append, List.length_singleton, ← hi.out]
          · have hg1 := grown_drewN hG.out q
            have hg2 := HST.out.2
            exact ⟨hg2.os.trans hg1.os, hg2.tape.trans hg1.tape, hg2.output.trans hg1.output, Nat.le_trans hg1.size hg2.size, fun k hk hne => (hg2.block k (Nat.lt_of_lt_of_le hk hg1.size) hne).trans (hg1.block k hk hne)⟩
          · rw [if_neg (by omega)]
            exact hH.out p (by omega)
          · rw [kp_take P j HPJ.out]
            by_cases e : p = i
            · subst e
              rw [if_pos rfl, List.getElem?_append_right (by rw [← hi.out]; exact Nat.le_refl _), hi.out, Nat.sub_self]
              exact HV.out
            · rw [if_neg e, List.getElem?_append_left (by rw [← hi.out]; omega)]
              exact hL.out p (by omega)
        case measure => simp [intOf]; omega
    · obtain rfl : j = n := by omega
      have hcl : ∀ ty, (Builtin.clear_ #[36] ty #[.slice (some ⟨g, i, none⟩) (j - i) (cap - i)]).run Try.prog wr = .ok (.tuple #[]) (wr.setCells g i (List.replicate (j - i) (.slice none 0 0))) :=
        fun ty => Lib.run_clear_slice wr _ _ ty _ Try.underlying36 (by intro w; kernel_rfl) rfl rfl g i _ _ (by omega) (fun t ht => by rw [hO.out.cellAt (i + t) (by omega)]; simp; omega) (fun t ht => hO.out.frozenAt (i + t))
      have hic : (i : Int) ≤ (cap : Int) := by omega
      have hij' : (i : Int) < (j : Int) := by omega
      have e1 : (j : Int) - (i : Int) = ((j - i : Nat) : Int) := by omega
      have e2 : (cap : Int) - (i : Int) = ((cap - i : Nat) : Int) := by omega
      obtain ⟨ys, o1, o2, o3⟩ := own_setCells B g j cap 27 (List.replicate (j - i) (.slice none 0 0)) i _ wr hO.out
      have O4 := Lib.hid (own_prefix o1 (m := i) (by omega))
      have E4 : Hid (ys.take i = (kp P j).map VS) := Lib.hid (by
        rw [o2]
        apply List.ext_getElem
        · rw [List.length_take, List.length_map, List.length_range, List.length_map, ← hi.out]; omega
        · intro p h1 h2
          have hp : p < i := by rw [List.length_map, ← hi.out] at h2; exact h2
          have hp2 : p < (kp P j).length := by rw [← hi.out]; exact hp
          rw [List.getElem_take, List.getElem_map, List.getElem_map, List.getElem_range, hL.out p hp, List.getElem?_eq_getElem hp2]
          rfl)
      have G4 : Hid (w.grownBy (wr.setCells g i (List.replicate (j - i) (.slice none 0 0))) (some g)) := Lib.hid ⟨o3.os.trans hG.out.os, o3.tape.trans hG.out.tape, o3.output.trans hG.out.output, Nat.le_trans hG.out.size o3.size, fun k hk hne => (o3.block k (Nat.lt_of_lt_of_le hk hG.out.size) hne).trans (hG.out.block k hk hne)⟩
      clear o1 o2 o3
      have HI := Lib.hid hi.out.symm
      go_wp2_with fail
      go_ret
      exact ⟨by rw [HI.out]; rfl, by rw [HI.out, ← E4.out]; exact O4.out, G4.out⟩
end Go.Proofs.Ytfmnlapnbhcacaa
