/-
  Joined: QTwo.
-/
import Derived.Test.YtcbfcpngpnlodaaZsisOfProfile14
import Derived.Test.YtcbfcpngpnlodaaZsisOfProfile18
section
namespace Go.Proofs.Ytcbfcpngpnlodaa
open Go.RowKit
set_option linter.unusedVariables false
set_option maxRecDepth 100000

theorem l07At_in (v : Value) (n : Nat) (G : Nat → Int) (w : World) (j : Nat) (hn : n ≤ 1048576) (h : RdI w v n G) (hj : j ≤ 1048576) :
    Calls Try.prog 62 #[v, .int .i64 ((j : Int) + 1)] w fun e w' => e = .returned (.int .i64 (padF n G j)) ∧ w = w' := by
  obtain ⟨a, cap, rfl, hm, hc⟩ := h
  have e1 : wrap64 ((j : Int) + 1 - 1) = (j : Int) := by unfold wrap64; omega
  by_cases hlt : j < n
  · obtain ⟨b, off, rfl, hc'⟩ := hc.resolve_left (by omega)
    have c1 := hc' j hlt
    have e2 : padF n G j = G j := if_pos hlt
    rw [e2]
    have hle : ¬ (n : Int) < (j : Int) + 1 := by omega
    have hlt' : (j : Int) < (n : Int) := by omega
    clear hc hc' e2
    generalize G j = x at *
    go_enter Try.func62, Try.ntmps62
    go_wp2
    go_ret
    exact ⟨rfl, rfl⟩
  · have e2 : padF n G j = 0 := if_neg hlt
    rw [e2]
    have hle : (n : Int) < (j : Int) + 1 := by omega
    clear hc e2
    go_enter Try.func62, Try.ntmps62
    go_wp2
    go_ret
    exact ⟨rfl, rfl⟩

theorem l07Both_yes (u v : Value) (n m : Nat) (G H : Nat → Int) (w : World) (hu : RdI w u n G) (hv : RdI w v m H) (h1 : okPr G n) (h2 : okPr H m) :
    Calls Try.prog 61 #[u, v] w fun e w' => e = .returned (.int .i64 0) ∧ w = w' := by
  have A := Lib.hid (l07Is_yes u n G w hu h1)
  have B := Lib.hid (l07Is_yes v m H w hv h2)
  clear hu hv h1 h2
  go_enter Try.func61, Try.ntmps61
  go_wp2_with fail
  refine A.out.mono ?_
  rintro e w' ⟨rfl, rfl⟩
  go_wp2_with fail
  refine B.out.mono ?_
  rintro e w' ⟨rfl, rfl⟩
  go_wp2_with fail
  go_ret
  exact ⟨rfl, rfl⟩
theorem l07Both_no (u v : Value) (n m : Nat) (G H : Nat → Int) (w : World) (hu : RdI w u n G) (hv : RdI w v m H) (hok : ¬ (okPr G n ∧ okPr H m)) :
    Calls Try.prog 61 #[u, v] w fun e w' => e = .returned (.int .i64 1) ∧ w = w' := by
  by_cases h1 : okPr G n
  · have A := Lib.hid (l07Is_yes u n G w hu h1)
    have B := Lib.hid (l07Is_no v m H w hv (fun h => hok ⟨h1, h⟩))
    clear hu hv h1 hok
    go_enter Try.func61, Try.ntmps61
    go_wp2_with fail
    refine A.out.mono ?_
    rintro e w' ⟨rfl, rfl⟩
    go_wp2_with fail
    refine B.out.mono ?_
    rintro e w' ⟨rfl, rfl⟩
    go_wp2_with fail
    go_ret
    exact ⟨rfl, rfl⟩
  · have A := Lib.hid (l07Is_no u n G w hu h1)
    clear hu hv h1 hok
    go_enter Try.func61, Try.ntmps61
    go_wp2_with fail
    refine A.out.mono ?_
    rintro e w' ⟨rfl, rfl⟩
    go_wp2_with fail
    go_ret
    exact ⟨rfl, rfl⟩

/-! ### trim -/
theorem trimTo_end (L : List Int) (j : Nat) (hj : j ≤ L.length) (h : trimTo L j = trim L) (he : j = 0 ∨ L[j - 1]?.getD 0 ≠ 0) : trim L = L.take j := by
  cases j with
  | zero => rw [← h]; rfl
  | succ t =>
    rw [← h]
    exact trimTo_take L t (he.resolve_left (by omega))
set_option maxHeartbeats 1000000 in
theorem l07Trim_any (L : List Int) (B : Nat) (v : Value) (w : World) (hO : w.ownsRow B 2 1 v L.length (L.map (Value.int .i64))) (hs : L.length ≤ 1000) :
    Calls Try.prog 63 #[v] w fun e w' => ∃ u, e = .returned u ∧ w'.ownsRow w.heap.size 2 1 u (trim L).length ((trim L).map (Value.int .i64)) ∧ Below w.heap.size w w' := by
  obtain ⟨oa, oc, rfl, hoc⟩ : ∃ oa oc, v = .slice oa L.length oc ∧ L.length ≤ oc := by
    rcases hO.2 with ⟨rfl, h0⟩ | ⟨g, cap, cur, rfl, _, _, h1, _⟩
    · exact ⟨none, 0, by rw [h0], by omega⟩
    · exact ⟨_, cap, rfl, h1⟩
  have HO := Lib.hid hO
  clear hO
  go_enter Try.func63, Try.ntmps63
  go_wp2_with fail
  go_loop [3] (fun c => ∃ j : Nat, j ≤ L.length ∧ c = .int .i64 j ∧ Hid (trimTo L j = trim L)) (fun c => (intOf c).toNat)
  case atStart => exact ⟨L.length, Nat.le_refl _, rfl, Lib.hid rfl⟩
  case round =>
    obtain ⟨j, hj, rfl, hT⟩ := hrel
    have FIN : Hid ((j = 0 ∨ L[j - 1]?.getD 0 ≠ 0) → ∀ l : List Int, l = trim L → Calls Try.prog 90 #[.slice oa j oc] w fun e w' => ∃ u, e = .returned u ∧ w'.ownsRow w.heap.size 2 1 u l.length (l.map (Value.int .i64)) ∧ Below w.heap.size w w') := Lib.hid (fun he l hl => by
      have e1 := trimTo_end L j hj hT.out he
      have e2 : l.length = j := by rw [hl, e1, List.length_take]; omega
      refine ownAny _ l B w (by omega) ?_
      rw [e2, hl, e1, List.map_take]
      exact own_take HO.out j hj)
    have hjc : (j : Int) ≤ (oc : Int) := by omega
    cases j with
    | zero =>
      have F1 := Lib.hid (FIN.out (.inl rfl))
      clear FIN hT
      go_wp2_with fail
      refine (F1.out _ rfl).mono ?_
      rintro e w' ⟨u, rfl, ho, hb⟩
      go_wp2_with fail
      go_ret
      exact ⟨u, rfl, ho, hb⟩
    | succ t =>
      rcases HO.out.2 with ⟨_, h0⟩ | ⟨g, cp, cur, e9, _, _, hcp, _⟩
      · omega
      · cases e9
        have c1 : w.cell? ⟨g, t, none⟩ = some (.int .i64 (L[t]?.getD 0)) := by
          rw [HO.out.cellAt t (by omega), List.getElem?_map, List.getElem?_eq_getElem (by omega)]
          rfl
        have ht : (t : Int) < (L.length : Int) := by omega
        have ht0 : (0 : Int) < ((t + 1 : Nat) : Int) := by omega
        have e1 : wrap64 (((t + 1 : Nat) : Int) - 1) = (t : Int) := by unfold wrap64; omega
        by_cases hz : L[t]?.getD 0 = 0
        · have T2 : Hid (trimTo L t = trim L) := Lib.hid (by rw [← trimTo_zero L t hz]; exact hT.out)
          rw [hz] at c1
          clear hz FIN hT
          go_wp2_with fail
          go_round
          case rel => exact ⟨t, by omega, by go_num, T2⟩
          case measure => simp [intOf]
        · have F1 := Lib.hid (FIN.out (.inr (by rw [Nat.add_sub_cancel]; exact hz)))
          have hz2 : (L[t]?.getD 0 == 0) = false := by rw [beq_eq_false_iff_ne]; exact hz
          generalize L[t]?.getD 0 = x at c1 hz2
          clear hz FIN hT
          go_wp2_with fail
          refine (F1.out _ rfl).mono ?_
          rintro e w' ⟨u, rfl, ho, hb⟩
          go_wp2_with fail
          go_ret
          exact ⟨u, rfl, ho, hb⟩

/-! ### MeetOfProfiles -/
theorem lstF_succ (n : Nat) (G : Nat → Int) : lstF n G ++ [G n] = lstF (n + 1) G := by
  unfold lstF
  rw [List.range_succ, List.map_append]
  rfl
/-- The numbers of the meet. -/
def meetG (G H : Nat → Int) (m i : Nat) : Int := min (G i) (padF m H i)
set_option maxHeartbeats 2000000 in
theorem specMeet_ok (u v : Value) (n m : Nat) (G H : Nat → Int) (w : World) (hu : RdI w u n G) (hv : RdI w v m H) (h1 : okPr G n) (h2 : okPr H m) :
    Calls Try.prog 28 #[u, v] w (ResI (trim (lstF n (meetG G H m))) 0 w) := by
  obtain ⟨i0, hi, hz0, hz1, hz2⟩ := info_parts Try.info2
  have A := Lib.hid (l07Both_yes u v n m G H w hu hv h1 h2)
  have hn : n ≤ 16 := h1.1
  have hm : m ≤ 16 := h2.1
  have AT1 := Lib.hid (fun (wx : World) (hb : Below w.heap.size w wx) (j : Nat) (hj : j < n) => l07At_in u n G wx j (by omega) (hu.below hb) (by omega))
  have AT2 := Lib.hid (fun (wx : World) (hb : Below w.heap.size w wx) (j : Nat) (hj : j < n) => l07At_in v m H wx j (by omega) (hv.below hb) (by omega))
  obtain ⟨ua, uc, rfl⟩ : ∃ a c, u = .slice a n c := by obtain ⟨a, c, e, _⟩ := hu; exact ⟨a, c, e⟩
  obtain ⟨va, vc, rfl⟩ : ∃ a c, v = .slice a m c := by obtain ⟨a, c, e, _⟩ := hv; exact ⟨a, c, e⟩
  clear hu hv h1 h2
  go_enter Try.func28, Try.ntmps28
  go_wp2_with fail
  refine A.out.mono ?_
  rintro e w' ⟨rfl, rfl⟩
  go_wp2_with fail
  go_loopw [7, 8] (fun v c wr => ∃ j : Nat, ∃ l : List Int, j ≤ n ∧ Hid (l = lstF j (meetG G H m)) ∧ Hid (l.length = j) ∧ c = .int .i64 ((j : Int) + 1) ∧ wr.ownsRow w.heap.size 2 1 v l.length (l.map (Value.int .i64)) ∧ Below w.heap.size w wr)
    (fun _ c _ => (n + 1 - intOf c).toNat)
  case atStart => exact ⟨0, [], by omega, Lib.hid rfl, Lib.hid rfl, by simp, World.ownsRow_lit w #[] 0 (Nat.le_refl _) (by decide) rfl, (Below.refl _ _).alloc (Nat.le_refl _) _⟩
  case round =>
    obtain ⟨j, l, hj, hl, hll, rfl, hown, hbel⟩ := hrel
    have hsz := hbel.size
    by_cases hlt : j < n
    · have hc : (j : Int) + 1 ≤ (n : Int) := by omega
      have HLN : Hid (l ++ [min (G j) (padF m H j)] = lstF (j + 1) (meetG G H m)) := Lib.hid (by rw [hl.out]; exact lstF_succ _ _)
      have C1 := Lib.hid (AT1.out wr hbel j hlt)
      have C2 := Lib.hid (AT2.out wr hbel j hlt)
      rw [show padF n G j = G j from if_pos hlt] at C1
      generalize G j = x at *
      generalize padF m H j = y at *
      go_wp2_with fail
      refine C1.out.mono ?_
      rintro e w' ⟨rfl, rfl⟩
      go_wp2_with fail
      refine C2.out.mono ?_
      rintro e w' ⟨rfl, rfl⟩
      rcases (show (y < x ∧ min x y = y) ∨ (¬ y < x ∧ min x y = x) by omega) with ⟨hxy, em⟩ | ⟨hxy, em⟩
      · rw [em] at HLN
        clear em
        go_wp2_with (at_builtin; refine wpList_append_own _ rfl _ _ 22 rfl w.heap.size 2 i0 (.int .i64 0) 1 8 Try.underlying22 hi hz0 hz1 hz2 rfl (by decide) _ _ _ rfl (hown.alloc _) ⟨wr.heap.size, 0, none⟩ 1 1 [.int .i64 y] rfl rfl ?c1 ?c2 ?c3 ?c4 ?c5 ?_)
        case c1 =>
          intro j' u hj'
          match j', hj' with
          | 0, hj' => simp at hj'; subst hj'; simp [Addr.add]
        case c2 => intro u hu; simp at hu; subst hu; rfl
        case c3 => have := hll.out; unfold maxLen; omega
        case c4 => have := hll.out; omega
        case c5 => have := hll.out; simp; omega
        intro v' w1 hown' hgrow _
        have hb' : Below w.heap.size w w1 := (hbel.alloc hsz _).grown hgrow (by simp; omega) (fun k hk => (hown.lt k hk).1)
        clear hgrow hbel hown
        go_wp2
        go_roundw
        case rel => exact ⟨j + 1, l ++ [y], by omega, HLN, Lib.hid (by have := hll.out; simp; omega), by go_num, by simpa using hown', hb'⟩
        case measure => simp [intOf]; omega
      · rw [em] at HLN
        clear em
        go_wp2_with (at_builtin; refine wpList_append_own _ rfl _ _ 22 rfl w.heap.size 2 i0 (.int .i64 0) 1 8 Try.underlying22 hi hz0 hz1 hz2 rfl (by decide) _ _ _ rfl (hown.alloc _) ⟨wr.heap.size, 0, none⟩ 1 1 [.int .i64 x] rfl rfl ?c1 ?c2 ?c3 ?c4 ?c5 ?_)
        case c1 =>
          intro j' u hj'
          match j', hj' with
          | 0, hj' => simp at hj'; subst hj'; simp [Addr.add]
        case c2 => intro u hu; simp at hu; subst hu; rfl
        case c3 => have := hll.out; unfold maxLen; omega
        case c4 => have := hll.out; omega
        case c5 => have := hll.out; simp; omega
        intro v' w1 hown' hgrow _
        have hb' : Below w.heap.size w w1 := (hbel.alloc hsz _).grown hgrow (by simp; omega) (fun k hk => (hown.lt k hk).1)
        clear hgrow hbel hown
        go_wp2
        go_roundw
        case rel => exact ⟨j + 1, l ++ [x], by omega, HLN, Lib.hid (by have := hll.out; simp; omega), by go_num, by simpa using hown', hb'⟩
        case measure => simp [intOf]; omega
    · have hc : ¬ (j : Int) + 1 ≤ (n : Int) := by omega
      obtain rfl : j = n := by omega
      have T := Lib.hid (l07Trim_any l w.heap.size _ wr hown (by have := hll.out; omega))
      rw [hl.out] at T
      have HB := Lib.hid hbel
      clear hown hbel hl hll AT1 AT2
      go_wp2_with fail
      refine T.out.mono ?_
      rintro e w' ⟨u, rfl, ho, hb⟩
      go_wp2_with fail
      go_ret2
      exact ⟨u, rfl, own_base ho HB.out.size, below_one HB.out hb⟩
theorem specMeet_no (u v : Value) (n m : Nat) (G H : Nat → Int) (w : World) (hu : RdI w u n G) (hv : RdI w v m H) (hok : ¬ (okPr G n ∧ okPr H m)) :
    Calls Try.prog 28 #[u, v] w (ResI [] 1 w) := by
  have A := Lib.hid (l07Both_no u v n m G H w hu hv hok)
  clear hu hv hok
  go_enter Try.func28, Try.ntmps28
  go_wp2_with fail
  refine A.out.mono ?_
  rintro e w' ⟨rfl, rfl⟩
  go_wp2_with fail
  go_ret2
  exact ⟨_, rfl, World.ownsRow_nil _ _ _ _, Below.refl _ _⟩

theorem implMeet_ok (u v : Value) (n m : Nat) (G H : Nat → Int) (w : World) (hu : RdI w u n G) (hv : RdI w v m H) (h1 : okPr G n) (h2 : okPr H m) :
    Calls Try.prog 29 #[u, v] w (ResI (trim (arL (meetF (padF n G) (padF m H)))) 0 w) := by
  have A := Lib.hid (implIsPr_yes u n G w hu h1)
  have B := Lib.hid (implIsPr_yes v m H w hv h2)
  have P1 := Lib.hid (profileOf_any u n G w hu h1.1)
  have P2 := Lib.hid (fun wx (hb : Below w.heap.size w wx) => profileOf_any v m H wx (hv.below hb) h2.1)
  clear hu hv h1 h2
  go_enter Try.func29, Try.ntmps29
  go_wp2_with fail
  refine A.out.mono ?_
  rintro e w' ⟨rfl, rfl⟩
  go_wp2_with fail
  refine B.out.mono ?_
  rintro e w' ⟨rfl, rfl⟩
  go_wp2_with fail
  refine P1.out.mono ?_
  rintro e w1 ⟨rfl, b1⟩
  go_wp2_with fail
  refine (P2.out w1 b1).mono ?_
  rintro e w2 ⟨rfl, b2⟩
  have B2 := Lib.hid (below_one b1 b2)
  clear b1 b2
  go_wp2_with fail
  refine (meet_any _ _ _).mono ?_
  rintro e w3 ⟨rfl, b3⟩
  have B3 := Lib.hid (below_one B2.out b3)
  clear b3 B2
  go_wp2_with fail
  refine (numbers_any _ _).mono ?_
  rintro e w4 ⟨x, rfl, ho, b4⟩
  have B4 := Lib.hid (below_one B3.out b4)
  have O4 := Lib.hid (own_base ho B3.out.size)
  clear b4 ho B3
  go_wp2_with fail
  go_ret2
  exact ⟨x, rfl, O4.out, B4.out⟩
theorem implMeet_no (u v : Value) (n m : Nat) (G H : Nat → Int) (w : World) (hu : RdI w u n G) (hv : RdI w v m H) (hok : ¬ (okPr G n ∧ okPr H m)) :
    Calls Try.prog 29 #[u, v] w (ResI [] 1 w) := by
  by_cases h1 : okPr G n
  · have A := Lib.hid (implIsPr_yes u n G w hu h1)
    have B := Lib.hid (implIsPr_no v m H w hv (fun h => hok ⟨h1, h⟩))
    clear hu hv h1 hok
    go_enter Try.func29, Try.ntmps29
    go_wp2_with fail
    refine A.out.mono ?_
    rintro e w' ⟨rfl, rfl⟩
    go_wp2_with fail
    refine B.out.mono ?_
    rintro e w' ⟨rfl, rfl⟩
    go_wp2_with fail
    go_ret2
    exact ⟨_, rfl, World.ownsRow_nil _ _ _ _, Below.refl _ _⟩
  · have A := Lib.hid (implIsPr_no u n G w hu h1)
    clear hu hv h1 hok
    go_enter Try.func29, Try.ntmps29
    go_wp2_with fail
    refine A.out.mono ?_
    rintro e w' ⟨rfl, rfl⟩
    go_wp2_with fail
    go_ret2
    exact ⟨_, rfl, World.ownsRow_nil _ _ _ _, Below.refl _ _⟩

theorem padF_nonneg {G : Nat → Int} {n : Nat} (h : okPr G n) (i : Nat) : 0 ≤ padF n G i ∧ padF n G i ≤ 10 := by
  unfold padF
  split
  · exact h.2 i (by assumption)
  · omega
/-- What both give is the same list. -/
theorem meet_same {G H : Nat → Int} {n m : Nat} (h1 : okPr G n) (h2 : okPr H m) : trim (arL (meetF (padF n G) (padF m H))) = trim (lstF n (meetG G H m)) := by
  have hz := trim_zeros (meetF (padF n G) (padF m H)) n (fun k hk => by
    have := padF_nonneg h2 k
    unfold meetF
    rw [show padF n G k = 0 from if_neg (by omega)]
    omega) (16 - n)
  rw [show n + (16 - n) = 16 by have := h1.1; omega] at hz
  unfold arL
  rw [hz]
  congr 1
  refine List.map_congr_left fun i hi => ?_
  have hi := List.mem_range.1 hi
  unfold meetF meetG
  rw [show padF n G i = G i from if_pos hi]
theorem trimTo_len (l : List Int) : ∀ j, (trimTo l j).length ≤ j
  | 0 => by simp [trimTo]
  | j + 1 => by
    unfold trimTo
    split
    · have := trimTo_len l j; omega
    · rw [List.length_take]; omega
theorem trim_len (l : List Int) : (trim l).length ≤ l.length := trimTo_len l _

theorem MeetOfProfiles_both (n : Nat) (G : Nat → Int) (hb : ∀ i, -9223372036854775808 ≤ G i ∧ G i ≤ 9223372036854775807) (m : Nat) (H : Nat → Int) (hc : ∀ i, -9223372036854775808 ≤ H i ∧ H i ≤ 9223372036854775807) :
    ∃ (zs : List Int) (c : Int), zs.length ≤ 1048576 ∧
    (∀ u v w, RdI w u n G → RdI w v m H → Calls Try.prog 28 #[u, v] w (ResI zs c w)) ∧
    (∀ u v w, RdI w u n G → RdI w v m H → Calls Try.prog 29 #[u, v] w (ResI zs c w)) := by
  by_cases hok : okPr G n ∧ okPr H m
  · refine ⟨trim (lstF n (meetG G H m)), 0, ?_, fun u v w hu hv => specMeet_ok u v n m G H w hu hv hok.1 hok.2, fun u v w hu hv => ?_⟩
    · have := trim_len (lstF n (meetG G H m)); rw [lstF_len] at this; have := hok.1.1; omega
    · have := implMeet_ok u v n m G H w hu hv hok.1 hok.2
      rw [meet_same hok.1 hok.2] at this
      exact this
  · exact ⟨[], 1, by decide, fun u v w hu hv => specMeet_no u v n m G H w hu hv hok, fun u v w hu hv => implMeet_no u v n m G H w hu hv hok⟩
end Go.Proofs.Ytcbfcpngpnlodaa
end
