/-
  Contracts of spec.ListsOfMatrix and impl.ListsOfMatrix.
-/
import Derived.Test.YtdojblmffmefgaaMAppend
import Derived.Test.YtdojblmffmefgaaMIs
import Derived.Test.YtdojblmffmefgaaMFew
import Derived.Test.YtdojblmffmefgaaWToSS
namespace Go.Proofs.Ytdojblmffmefgaa
open Go.RowKit
set_option linter.unusedVariables false
set_option maxRecDepth 100000

/-- append(V, r), r a slice. -/
theorem wpList_append1S {w : World} {ops : Array Oper} {rest : List Oper} {o : Oper} {a : Act} {Q : Exit → Act → World → Prop} (hgd : o.guard = none) (s x : Operand)
    (ho : o.op = .call { callee := .builtin .append, args := #[s, x], argTypes := #[31, 31] })
    (B : Nat) (V : Value) (n : Nat) (xs : List Value) (hs : a.eval s = V) (hown : w.ownsRow B 22 1 V n xs)
    (r : Value) (hr1 : r.oneCell' = true) (g c : Nat) (hx : a.eval x = .slice (some ⟨g, 0, none⟩) 1 c) (hc : w.cell? ⟨g, 0, none⟩ = some r) (hn : n ≤ 1000000) (hB : B ≤ w.heap.size)
    (h : ∀ v' w', w'.ownsRow B 22 1 v' (n + 1) (xs ++ [r]) → w.grownBy w' V.ownBlock → wpList Try.prog ops Q rest (a.put o.dst v') w') : wpList Try.prog ops Q (o :: rest) a w := by
  obtain ⟨i0, hi, hz0, hz1, hz2⟩ := info_parts Try.infoS
  refine wpList_append_own w hgd s x 31 ho B 22 i0 (.slice none 0 0) 1 24 Try.underlying31 hi hz0 hz1 hz2 rfl (by decide) V n xs hs hown ⟨g, 0, none⟩ 1 c [r] hx rfl ?_ ?_ ?_ ?_ hB ?_
  · intro j u hj
    match j, hj with
    | 0, hj => simp at hj; subst hj; simpa [Addr.add] using hc
  · intro u hu; simp at hu; subst hu; exact hr1
  · unfold maxLen; omega
  · omega
  · intro v' w' h1 h2 _
    exact h v' w' h1 h2

theorem ext_snoc (VS : Nat → Value) (m : Nat) (v : Value) : (List.range (m + 1)).map (ext VS m v) = (List.range m).map VS ++ [v] := by
  rw [List.range_succ, List.map_append]
  congr 1
  · apply List.map_congr_left
    intro i hi
    rw [ext, if_pos (List.mem_range.1 hi)]
  · simp [ext]

/-- A family under construction. -/
structure FamB (w0 : World) (V : Value) (i : Nat) (VS : Nat → Value) (Y : Nat → List Int) (w : World) : Prop where
  fam : Fam w w0.heap.size V i VS Y
  sep : Sep i VS
  bel : Below w0.heap.size w0 w
theorem FamB.up {w0 w w' : World} {V : Value} {i : Nat} {VS : Nat → Value} {Y : Nat → List Int} (h : FamB w0 V i VS Y w) (k : Below w.heap.size w w') : FamB w0 V i VS Y w' :=
  ⟨h.fam.below k, h.sep, h.bel.trans (k.mono h.bel.size)⟩
theorem FamB.push {w0 wr w1 w2 : World} {V V' v : Value} {i n : Nat} {VS : Nat → Value} {Y : Nat → List Int} (h : FamB w0 V i VS Y wr) (b1 : Below wr.heap.size wr w1) (hv : w1.ownsRow wr.heap.size 2 1 v n ((Y i).map (Value.int .i64)))
    (hn : n = (Y i).length) (ho : w2.ownsRow w0.heap.size 22 1 V' (i + 1) ((List.range i).map VS ++ [v])) (k : w1.grownBy w2 V.ownBlock) : FamB w0 V' (i + 1) (ext VS i v) Y w2 := by
  have hout := own_below h.fam.out b1
  have hb1 := h.bel.trans (b1.mono h.bel.size)
  refine ⟨⟨by rw [ext_snoc]; exact ho, fun j hj => ?_⟩, sep_push h.sep (fun j hj => apart_lt (h.fam.inn j hj) hv), hb1.grown k hb1.size (fun q hq => (h.fam.out.lt q hq).1)⟩
  by_cases hlt : j < i
  · rw [ext, if_pos hlt]
    have h1 := own_below (h.fam.inn j hlt) b1
    exact h1.kept k (own_types h1 hout (by decide))
  · have e : j = i := by omega
    subst e
    rw [ext, if_neg (Nat.lt_irrefl _)]
    subst hn
    exact (own_base hv h.bel.size).kept k (own_types hv hout (by decide))
theorem FamB.start (w0 w : World) (Y : Nat → List Int) (h : Below w0.heap.size w0 w) : FamB w0 (.slice (some ⟨w.heap.size, 0, none⟩) 0 0) 0 (fun _ => undef) Y (w.alloc (.cells #[] 22)) :=
  ⟨⟨World.ownsRow_made w #[] 0 h.size (Nat.zero_le _) (by simp), fun i hi => absurd hi (Nat.not_lt_zero _)⟩, fun i j hi => absurd hi (Nat.not_lt_zero _), h.alloc h.size _⟩
theorem FamB.start0 (w0 w : World) (Y : Nat → List Int) (h : Below w0.heap.size w0 w) : FamB w0 (.slice none 0 0) 0 (fun _ => undef) Y w :=
  ⟨⟨World.ownsRow_nil _ _ _ _, fun i hi => absurd hi (Nat.not_lt_zero _)⟩, fun i j hi => absurd hi (Nat.not_lt_zero _), h⟩

/-- A matrix's block is no block of slices. -/
theorem Box.ne_rowS {w : World} {g B n : Nat} {x y v : Value} {xs : List Value} (h : Box w g 27 x y) (o : w.ownsRow B 22 1 v n xs) : some g ≠ v.ownBlock := by
  intro e
  rcases o.2 with ⟨rfl, _⟩ | ⟨q', cap', cur, rfl, _, hg, _⟩
  · cases e
  · simp only [Value.ownBlock, Option.some.injEq] at e
    subst e
    unfold Box at h
    rw [hg] at h
    simp at h

/-- What a function that makes lists returns. -/
def LRes (m : Nat) (Y : Nat → List Int) (cd : Int) (w : World) (e : Ending) (w' : World) : Prop :=
  ∃ U US, e = .returned (.tuple #[U, .int .i64 cd]) ∧ FamB w U m US Y w'

/-- The first k digits. -/
def dr (g : Int) (k : Nat) : List Int := (List.range k).map fun j => bits .and .i64 (g / 2 ^ j) 1
theorem dr_succ (g : Int) (k : Nat) : dr g (k + 1) = dr g k ++ [bits .and .i64 (g / 2 ^ k) 1] := by simp [dr, List.range_succ]
theorem dr_length (g : Int) (k : Nat) : (dr g k).length = k := by simp [dr]
theorem dr_cpy (g : Int) (k : Nat) : cpy (fun j => bits .and .i64 (g / 2 ^ j) 1) k k = dr g k := by
  unfold cpy dr
  apply List.map_congr_left
  intro i hi
  rw [if_pos (List.mem_range.1 hi)]

theorem bits_any (r : Int) (k : Nat) (w : World) (hk : k ≤ 60) :
    Calls Try.prog 42 #[.int .i64 r, .int .i64 k] w fun e w' => ∃ u, e = .returned u ∧ w'.ownsRow w.heap.size 2 1 u k ((dr r k).map (Value.int .i64)) ∧ Below w.heap.size w w' := by
  obtain ⟨i0, hi, hz0, hz1, hz2⟩ := info_parts Try.info2
  have EQ := Lib.hid (dr_cpy r k)
  have D := Lib.hid (fun (j : Nat) (hj : j < k) w => digit_any r j w (by omega))
  generalize hG : (fun j => bits .and .i64 (r / 2 ^ j) 1) = G at *
  have HG : Hid (∀ j, bits .and .i64 (r / 2 ^ j) 1 = G j) := Lib.hid (fun j => by rw [← hG])
  clear hG
  go_enter Try.func42, Try.ntmps42
  go_wp2_with (at_make; refine wpList_make_full _ rfl _ _ 22 rfl w.heap.size 2 i0 (.int .i64 0) 1 Try.underlying22 hi hz0 hz1 .i64 .i64 (k : Int) (k : Int) k rfl rfl rfl rfl (by rw [hz2]; omega) (by unfold maxLen; omega) (Nat.le_refl _) ?_; intro w1 hown hgrow; rw [made_list0, ← cpy_zero G k] at hown; have H1 := Lib.hid hown; have G1 := Lib.hid hgrow; clear hown hgrow)
  have B1 : Below w.heap.size w w1 := (Below.refl _ w).grown G1.out (Nat.le_refl _) (by intro k hk; cases hk)
  clear G1
  go_loopw [6, 11] (fun _ c wr => ∃ j : Nat, j ≤ k ∧ c = .int .i64 j ∧ Hid (wr.ownsRow w.heap.size 2 1 (.slice (some ⟨w.heap.size, 0, none⟩) k k) k ((cpy G k j).map (Value.int .i64))) ∧ Below w.heap.size w wr) (fun _ c _ => k - (intOf c).toNat)
  case atStart => exact ⟨0, by omega, rfl, H1, B1⟩
  case round =>
    clear H1 B1
    obtain ⟨j, hj, rfl, ho, hb⟩ := hrel
    by_cases hlt : j < k
    · have hlt' : (j : Int) < (k : Int) := by omega
      have D1 := D.out j hlt wr
      rw [HG.out j] at D1
      have D1 := Lib.hid D1
      have c2 := own_at ho.out j hlt
      have f2 := ho.out.frozenAt j
      have hst := ho.out.stored j (.int .i64 (G j))
      rw [← List.map_set, cpy_set] at hst
      have HS := Lib.hid hst
      generalize (cpy G k j)[j]?.getD 0 = z at c2
      clear hst ho
      generalize hgj : G j = gj at *
      clear hgj
      go_wp2_with (go_at_call 50; refine D1.out.mono ?_; rintro e w' ⟨rfl, rfl⟩)
      go_roundw
      case rel => exact ⟨j + 1, by omega, by go_num, Lib.hid HS.out.1, hb.setCell (Nat.le_refl _) _⟩
      case measure => simp [intOf]; omega
    · obtain rfl : j = k := by omega
      go_wp2
      go_ret
      exact ⟨_, rfl, by rw [← EQ.out]; exact ho.out, hb⟩

/-- What ListsOfMatrix returns. -/
noncomputable def lsN (c : Int) (n : Nat) (G : Nat → Int) : Nat := if isMat c n G = true then n else 0
noncomputable def lsC (c : Int) (n : Nat) (G : Nat → Int) : Int := if isMat c n G = true then 0 else 1

set_option maxHeartbeats 1000000 in
theorem specListsOf_any (c : Int) (s : Value) (n : Nat) (G : Nat → Int) (w : World) (h : RdI w s n G) :
    Calls Try.prog 22 #[.agg #[.int .i64 c, s]] w (LRes (lsN c n G) (fun i => dr (G i) c.toNat) (lsC c n G) w) := by
  have H := Lib.hid h
  obtain ⟨a, cap, rfl, hm, hc⟩ := h
  clear hc
  have t2 := Try.underlying27
  have W1 : ∃ w1, w1 = w.alloc (.cells #[.int .i64 c, .slice a n cap] 27) := ⟨_, rfl⟩
  obtain ⟨w1, hw1⟩ := W1
  have B1 : Hid (Below w.heap.size w w1) := Lib.hid (by rw [hw1]; exact (Below.refl w.heap.size w).alloc (Nat.le_refl _) _)
  have X1 : Hid (Box w1 w.heap.size 27 (.int .i64 c) (.slice a n cap)) := Lib.hid (by rw [hw1]; exact Box.new w _ _ _)
  have R1 := Lib.hid (H.out.below B1.out)
  go_enter Try.func22, Try.ntmps22
  go_wp2_with fail
  rw [← hw1]
  clear hw1
  refine (specIs_any c _ n G w1 R1.out).mono ?_
  rintro e w2 ⟨rfl, b2⟩
  have B2 := Lib.hid (B1.out.trans (b2.mono B1.out.size))
  have X2 := Lib.hid (X1.out.up b2)
  clear b2 B1 X1 R1
  cases hi : isMat c n G with
  | false =>
    have E1 : Hid (lsN c n G = 0) := Lib.hid (by unfold lsN; rw [if_neg]; rw [hi]; simp)
    have E2 : Hid (lsC c n G = 1) := Lib.hid (by unfold lsC; rw [if_neg]; rw [hi]; simp)
    clear hi
    go_wp2_with fail
    go_ret2
    exact ⟨_, _, by rw [E2.out]; rfl, by rw [E1.out]; exact FamB.start0 w w2 _ B2.out⟩
  | true =>
    have E1 : Hid (lsN c n G = n) := Lib.hid (by unfold lsN; rw [if_pos hi])
    have E2 : Hid (lsC c n G = 0) := Lib.hid (by unfold lsC; rw [if_pos hi])
    have IA : okMat c n G := Classical.byContradiction fun h => by rw [isMat_no h] at hi; cases hi
    obtain ⟨k, rfl, hk, hn, _⟩ := IA
    clear hi
    have YE : Hid (∀ i, (fun i => dr (G i) (k : Int).toNat) i = dr (G i) k) := Lib.hid (fun i => rfl)
    generalize hY : (fun i => dr (G i) (k : Int).toNat) = Y at *
    have YX := Lib.hid hY
    clear hY
    have S2 := Lib.hid (FamB.start w w2 Y B2.out)
    have X3 : Hid (Box (w2.alloc (.cells #[] 22)) w.heap.size 27 (.int .i64 k) (.slice a n cap)) := Lib.hid (X2.out.alloc _)
    clear X2 B2
    go_wp2
    generalize (w2.alloc (.cells #[] 22)) = w3 at *
    generalize w2.heap.size = g2 at *
    go_loopw [4, 5] (fun V c wr => ∃ (i : Nat) (VS : Nat → Value), i ≤ n ∧ c = .int .i64 i ∧ Hid (FamB w V i VS Y wr) ∧ Hid (Box wr w.heap.size 27 (.int .i64 k) (.slice a n cap))) (fun _ c _ => n - (intOf c).toNat)
    case atStart => exact ⟨0, _, by omega, rfl, S2, X3⟩
    case round =>
      clear S2 X3
      obtain ⟨i, VS, hi, rfl, S, X⟩ := hrel
      obtain ⟨wo, hwo⟩ : ∃ wo, wo = wr := ⟨_, rfl⟩
      subst hwo
      obtain ⟨va, vc, rfl⟩ := S.out.fam.out.shape
      have cA0 := X.out.c0
      have cA1 := X.out.c1
      by_cases hlt : i < n
      · have hlt' : (i : Int) < (n : Int) := by omega
        have hYi := YE.out i
        have W4 : ∃ w4, w4 = wo.alloc (.cells #[] 2) := ⟨_, rfl⟩
        obtain ⟨w4, hw4⟩ := W4
        have O4 : Hid (w4.ownsRow wo.heap.size 2 1 (.slice (some ⟨wo.heap.size, 0, none⟩) 0 0) 0 ((dr (G i) 0).map (Value.int .i64))) := Lib.hid (by rw [hw4]; exact World.ownsRow_made wo #[] 0 (Nat.le_refl _) (Nat.zero_le _) (by simp))
        have B4 : Hid (Below wo.heap.size wo w4) := Lib.hid (by rw [hw4]; exact (Below.refl _ _).alloc (Nat.le_refl _) _)
        have YI := Lib.hid hYi
        clear hYi
        go_wp2
        rw [← hw4]
        clear hw4 cA0 cA1
        go_loopw [6, 7] (fun u q wi => ∃ j : Nat, j ≤ k ∧ q = .int .i64 j ∧ Hid (wi.ownsRow wo.heap.size 2 1 u j ((dr (G i) j).map (Value.int .i64))) ∧ Hid (Below wo.heap.size wo wi)) (fun _ q _ => k - (intOf q).toNat)
        case atStart => exact ⟨0, by omega, rfl, O4, B4⟩
        case round =>
          clear O4 B4
          obtain ⟨j, hj, rfl, O, B⟩ := hrel
          obtain ⟨ua, uc, rfl⟩ := O.out.shape
          have cA0 := (X.out.up B.out).c0
          have cA1 := (X.out.up B.out).c1
          by_cases hlt2 : j < k
          · have hlt2' : (j : Int) < (k : Int) := by omega
            have HR := Lib.hid (H.out.below (S.out.bel.trans (B.out.mono S.out.bel.size)))
            obtain ⟨_, _, e, _, hc⟩ := HR.out
            cases e
            obtain ⟨b, off, rfl, hc2⟩ := hc.resolve_left (by omega)
            have c1 := hc2 i hlt
            clear hc hc2
            have E : Hid (dr (G i) (j + 1) = dr (G i) j ++ [bits .and .i64 (G i / 2 ^ j) 1]) := Lib.hid (dr_succ _ _)
            have LL := Lib.hid (dr_length (G i) j)
            generalize dr (G i) j = L at *
            generalize G i = z at c1 E
            have A := Lib.hid (own_below O.out ((Below.refl _ _).alloc (Nat.le_refl _) (.cells #[.int .i64 (bits .and .i64 (z / 2 ^ j) 1)] 2)))
            have AB := Lib.hid (B.out.alloc B.out.size (.cells #[.int .i64 (bits .and .i64 (z / 2 ^ j) 1)] 2))
            go_wp2_with (at_builtin; refine wpList_append1 rfl _ _ rfl wo.heap.size _ j L rfl A.out _ _ 1 rfl (World.cell?_alloc_new _ _ _ _) ?c1 ?c2 ?_)
            case c1 => omega
            case c2 => exact AB.out.size
            intro v' w5 ho hg
            have F1 := Lib.hid ho
            have F2 := Lib.hid (AB.out.grown hg AB.out.size (fun q hq => (A.out.lt q hq).1))
            clear ho hg
            go_wp2
            go_roundw
            case rel => exact ⟨j + 1, by omega, by go_num, Lib.hid (by rw [E.out, List.map_append]; exact F1.out), F2⟩
            case measure => simp [intOf]; omega
          · obtain rfl : j = k := by omega
            have A := Lib.hid (B.out.alloc B.out.size (.cells #[.slice ua j uc] 22))
            have AV := Lib.hid (own_below O.out ((Below.refl _ _).alloc (Nat.le_refl _) (.cells #[.slice ua j uc] 22)))
            have AO := Lib.hid (own_below S.out.fam.out A.out)
            go_wp2_with (at_builtin; refine wpList_append1S rfl _ _ rfl w.heap.size _ i _ rfl AO.out (.slice ua j uc) rfl _ 1 rfl (World.cell?_alloc_new _ _ _ _) ?c1 ?c2 ?_)
            case c1 => omega
            case c2 => exact Nat.le_trans S.out.bel.size A.out.size
            intro v' w5 ho hg
            have F := Lib.hid (S.out.push A.out (by rw [YI.out]; exact AV.out) (by rw [YI.out, dr_length]) ho hg)
            have X5 := Lib.hid ((X.out.up A.out).grown hg ((X.out.up A.out).ne_rowS AO.out))
            clear ho hg
            go_wp2
            go_roundw
            case rel => exact ⟨i + 1, _, by omega, by go_num, F, X5⟩
            case measure => simp [intOf]; omega
      · obtain rfl : i = n := by omega
        go_wp2
        go_ret2
        exact ⟨_, VS, by rw [E2.out]; rfl, by rw [E1.out, YX.out]; exact S.out⟩

set_option maxHeartbeats 1000000 in
theorem implListsOf_any (c : Int) (s : Value) (n : Nat) (G : Nat → Int) (w : World) (h : RdI w s n G) :
    Calls Try.prog 23 #[.agg #[.int .i64 c, s]] w (LRes (lsN c n G) (fun i => dr (G i) c.toNat) (lsC c n G) w) := by
  have H := Lib.hid h
  obtain ⟨a, cap, rfl, hm, hc⟩ := h
  clear hc
  have t2 := Try.underlying27
  have W1 : ∃ w1, w1 = w.alloc (.cells #[.int .i64 c, .slice a n cap] 27) := ⟨_, rfl⟩
  obtain ⟨w1, hw1⟩ := W1
  have B1 : Hid (Below w.heap.size w w1) := Lib.hid (by rw [hw1]; exact (Below.refl w.heap.size w).alloc (Nat.le_refl _) _)
  have X1 : Hid (Box w1 w.heap.size 27 (.int .i64 c) (.slice a n cap)) := Lib.hid (by rw [hw1]; exact Box.new w _ _ _)
  have R1 := Lib.hid (H.out.below B1.out)
  go_enter Try.func23, Try.ntmps23
  go_wp2_with fail
  rw [← hw1]
  clear hw1
  refine (implIs_any c _ n G w1 R1.out).mono ?_
  rintro e w2 ⟨rfl, b2⟩
  have B2 := Lib.hid (B1.out.trans (b2.mono B1.out.size))
  have X2 := Lib.hid (X1.out.up b2)
  clear b2 B1 X1 R1
  cases hi : isMat c n G with
  | false =>
    have E1 : Hid (lsN c n G = 0) := Lib.hid (by unfold lsN; rw [if_neg]; rw [hi]; simp)
    have E2 : Hid (lsC c n G = 1) := Lib.hid (by unfold lsC; rw [if_neg]; rw [hi]; simp)
    clear hi
    go_wp2_with fail
    go_ret2
    exact ⟨_, _, by rw [E2.out]; rfl, by rw [E1.out]; exact FamB.start0 w w2 _ B2.out⟩
  | true =>
    have E1 : Hid (lsN c n G = n) := Lib.hid (by unfold lsN; rw [if_pos hi])
    have E2 : Hid (lsC c n G = 0) := Lib.hid (by unfold lsC; rw [if_pos hi])
    have IA : okMat c n G := Classical.byContradiction fun h => by rw [isMat_no h] at hi; cases hi
    obtain ⟨k, rfl, hk, hn, _⟩ := IA
    clear hi
    have YE : Hid (∀ i, (fun i => dr (G i) (k : Int).toNat) i = dr (G i) k) := Lib.hid (fun i => rfl)
    generalize hY : (fun i => dr (G i) (k : Int).toNat) = Y at *
    have YX := Lib.hid hY
    clear hY
    have S2 := Lib.hid (FamB.start0 w w2 Y B2.out)
    have cA0 := X2.out.c0
    have cA1 := X2.out.c1
    go_wp2
    clear cA0 cA1 B2
    go_loopw [4, 6, 13] (fun V _ c wr => ∃ (i : Nat) (VS : Nat → Value), i ≤ n ∧ c = .int .i64 i ∧ Hid (FamB w V i VS Y wr) ∧ Hid (Box wr w.heap.size 27 (.int .i64 k) (.slice a n cap))) (fun _ _ c _ => n - (intOf c).toNat)
    case atStart => exact ⟨0, _, by omega, rfl, S2, X2⟩
    case round =>
      clear S2 X2
      obtain ⟨i, VS, hi, rfl, S, X⟩ := hrel
      obtain ⟨va, vc, rfl⟩ := S.out.fam.out.shape
      have cA0 := X.out.c0
      have cA1 := X.out.c1
      by_cases hlt : i < n
      · have hlt' : (i : Int) < (n : Int) := by omega
        have YI := Lib.hid (YE.out i)
        have HR := Lib.hid (H.out.below S.out.bel)
        obtain ⟨_, _, e, _, hc⟩ := HR.out
        cases e
        obtain ⟨b, off, rfl, hc2⟩ := hc.resolve_left (by omega)
        have c1 := hc2 i hlt
        clear hc hc2
        have BT := Lib.hid (bits_any (G i) k wr hk)
        generalize G i = z at c1 BT YI
        go_wp2_with fail
        refine BT.out.mono ?_
        rintro e w4 ⟨u, rfl, o4, b4⟩
        obtain ⟨ua, uc, rfl⟩ := o4.shape
        have A := Lib.hid (b4.alloc b4.size (.cells #[.slice ua k uc] 22))
        have AV := Lib.hid (own_below o4 ((Below.refl _ _).alloc (Nat.le_refl _) (.cells #[.slice ua k uc] 22)))
        have AO := Lib.hid (own_below S.out.fam.out A.out)
        clear o4 b4
        go_wp2_with (at_builtin; refine wpList_append1S rfl _ _ rfl w.heap.size _ i _ rfl AO.out (.slice ua k uc) rfl _ 1 rfl (World.cell?_alloc_new _ _ _ _) ?c1 ?c2 ?_)
        case c1 => omega
        case c2 => exact Nat.le_trans S.out.bel.size A.out.size
        intro v' w5 ho hg
        have F := Lib.hid (S.out.push A.out (by rw [YI.out]; exact AV.out) (by rw [YI.out, dr_length]) ho hg)
        have X5 := Lib.hid ((X.out.up A.out).grown hg ((X.out.up A.out).ne_rowS AO.out))
        clear ho hg
        go_wp2
        go_roundw
        case rel => exact ⟨i + 1, _, by omega, by go_num, F, X5⟩
        case measure => simp [intOf]; omega
      · obtain rfl : i = n := by omega
        go_wp2
        go_ret2
        exact ⟨_, VS, by rw [E2.out]; rfl, by rw [E1.out, YX.out]; exact S.out⟩

theorem ListsOfMatrix_both (c : Int) (n : Nat) (G : Nat → Int) : ∃ (m : Nat) (Y : Nat → List Int) (cd : Int), m ≤ 200 ∧ (∀ i, i < m → (Y i).length ≤ 60) ∧
    (∀ w s, RdI w s n G → Calls Try.prog 22 #[.agg #[.int .i64 c, s]] w (LRes m Y cd w)) ∧
    (∀ w s, RdI w s n G → Calls Try.prog 23 #[.agg #[.int .i64 c, s]] w (LRes m Y cd w)) := by
  refine ⟨_, _, _, ?_, ?_, fun w s h => specListsOf_any c s n G w h, fun w s h => implListsOf_any c s n G w h⟩
  · unfold lsN
    split
    · rename_i hi
      obtain ⟨k, e, hk, hn, _⟩ : okMat c n G := Classical.byContradiction fun h => by rw [isMat_no h] at hi; cases hi
      exact hn
    · omega
  · intro i hi
    unfold lsN at hi
    split at hi
    · rename_i hm
      obtain ⟨k, rfl, hk, hn, _⟩ : okMat c n G := Classical.byContradiction fun h => by rw [isMat_no h] at hm; cases hm
      rw [dr_length]
      show k ≤ 60
      exact hk
    · exact absurd hi (Nat.not_lt_zero _)
end Go.Proofs.Ytdojblmffmefgaa
