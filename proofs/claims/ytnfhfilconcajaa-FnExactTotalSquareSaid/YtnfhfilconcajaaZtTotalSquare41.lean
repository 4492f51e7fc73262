/-
  Joined: YTot, YTotI.
-/
import Derived.Test.YtnfhfilconcajaaZtTotalSquare39
import Derived.Test.YtnfhfilconcajaaZtTotalSquare40
section
namespace Go.Proofs.Ytnfhfilconcajaa.Pl
open Go.RowKit
set_option linter.unusedVariables false
set_option maxRecDepth 100000

/-- The lists of Sq^i. -/
def sqX (X : Nat → List Int) (m i : Nat) : List (List Int) := oddY (sqAll (rowsL X m) i)
theorem sqX_row {k : Int} {X : Nat → List Int} {m : Nat} (h : okPl k X m) (i : Nat) : ∀ t ∈ sqX X m i, t.length = k.toNat := fun t ht => sqAll_len_row h.len t (oddY_mem ht)

theorem implSq_fit (c0 : Int) (m : Nat) (X : Nat → List Int) (n : Nat) (h0 : okPl c0 X m) (hi : n ≤ 40) (hov : dgP X m + n ≤ 40) :
    ∀ va w, RdSS w va m X → Calls Try.prog 26 #[.agg #[.int .i64 c0, va], .int .i64 (n : Int)] w (ResY (fitC c0 (sqX X m n)) (fitL (sqX X m n)) (fitD (sqX X m n)) w) := by
  obtain ⟨s0, i0⟩ := isP_yes c0 X m h0
  have hx := dgP_bnd h0
  have hk4 := h0.1
  obtain ⟨k, hkk⟩ : ∃ k : Nat, c0 = (k : Int) := ⟨c0.toNat, by omega⟩
  have ek : c0.toNat = k := by omega
  have hl0 := h0.len
  rw [ek] at hl0
  have TK : (oddY (sqAll ((rowsL X m).map padY) n)).map (List.take k) = sqX X m n := by
    rw [sqAll_pad]
    exact take_odd _ (sqAll_len_row hl0)
  intro va w ha
  obtain ⟨a0, q0, rfl⟩ := ha.head
  rw [← TK]
  refine implSq_ok (dgP X m) k c0 a0 m q0 n w _ ((rowsL X m).map padY) hkk (by omega) hx (by omega) hov (Lib.hid fun wx hb => i0 _ wx (ha.below hb)) (Lib.hid (degP_any h0 a0 q0 w ha)) (Lib.hid (packedP_any h0 a0 q0 w ha))
    (Lib.hid fun wx va ra => squareY_any va _ (dgP X m).toNat n wx ra h0.mono (by omega) (by rw [List.length_map, rowsL_len]; have := h0.few; omega)) (Lib.hid fun z hz => ?_)
  obtain ⟨x, hx, hz⟩ := List.mem_flatMap.1 (oddY_mem hz)
  rw [sqL_row x n z hz, (h0.mono x hx).len]
theorem implSq_much (c0 : Int) (m : Nat) (X : Nat → List Int) (n : Nat) (h0 : okPl c0 X m) (hi : n ≤ 40) (hov : 40 < dgP X m + n) :
    ∀ va w, RdSS w va m X → Calls Try.prog 26 #[.agg #[.int .i64 c0, va], .int .i64 (n : Int)] w (ResY 0 [] 3 w) := by
  obtain ⟨s0, i0⟩ := isP_yes c0 X m h0
  intro va w ha
  obtain ⟨a0, q0, rfl⟩ := ha.head
  exact implSq_over (dgP X m) c0 a0 m q0 n w (dgP_bnd h0) (by omega) hov (Lib.hid fun wx hb => i0 _ wx (ha.below hb)) (Lib.hid (degP_any h0 a0 q0 w ha))

/-- f below k, then v. -/
def extA {α : Type} (f : Nat → α) (k : Nat) (v : α) : Nat → α := fun i => if i < k then f i else v
theorem extA_lt {α : Type} (f : Nat → α) {k i : Nat} (v : α) (h : i < k) : extA f k v i = f i := if_pos h
theorem extA_eq {α : Type} (f : Nat → α) (k : Nat) (v : α) : extA f k v k = v := if_neg (Nat.lt_irrefl _)
theorem pairsP_ext (KS : Nat → Int) (US : Nat → Value) (k : Nat) (c : Int) (v : Value) : pairsP (extA KS k c) (extA US k v) (k + 1) = pairsP KS US k ++ [.int .i64 c, v] := by
  rw [pairsP_succ, extA_eq, extA_eq]
  congr 1
  unfold pairsP
  have : ∀ i ∈ List.range k, ([.int .i64 (extA KS k c i), extA US k v i] : List Value) = [.int .i64 (KS i), US i] := fun i hi => by
    rw [extA_lt _ _ (List.mem_range.1 hi), extA_lt _ _ (List.mem_range.1 hi)]
  rw [List.flatMap_def, List.flatMap_def, List.map_congr_left this]

/-- A polynomial is appended. -/
theorem FamP.push {w w3 : World} {B B' k nk : Nat} {S S' v : Value} {c : Int} {KS : Nat → Int} {US : Nat → Value} {n : Nat → Nat} {VS : Nat → Nat → Value} {Y : Nat → Nat → List Int} {VK : Nat → Value} {YK : Nat → List Int}
    (h : FamP w B S k KS US n VS Y) (f : Fam w B' v nk VK YK) (hB : B ≤ B') (ho : w3.ownsRow B 27 2 S' (k + 1) (pairsP KS US k ++ [.int .i64 c, v])) (hg : w.grownBy w3 S.ownBlock) :
    FamP w3 B S' (k + 1) (extA KS k c) (extA US k v) (extA n k nk) (extA VS k VK) (extA Y k YK) := by
  refine ⟨by rw [pairsP_ext]; exact ho, fun i hi => ?_⟩
  by_cases hlt : i < k
  · rw [extA_lt _ _ hlt, extA_lt _ _ hlt, extA_lt _ _ hlt, extA_lt _ _ hlt]
    have h1 := h.inn i hlt
    exact ⟨h1.out.kept hg (own_types h1.out h.out (by decide)), fun j hj => (h1.inn j hj).kept hg (own_types (h1.inn j hj) h.out (by decide))⟩
  · obtain rfl : i = k := by omega
    rw [extA_eq, extA_eq, extA_eq, extA_eq]
    exact ⟨own_base (f.out.kept hg (own_types f.out h.out (by decide))) hB, fun j hj => own_base ((f.inn j hj).kept hg (own_types (f.inn j hj) h.out (by decide))) hB⟩
theorem SepP.push {k nk : Nat} {n : Nat → Nat} {VS : Nat → Nat → Value} {VK : Nat → Value} (h : SepP k n VS) (s : Sep nk VK) (ap : ∀ i, i < k → FApart (n i) (VS i) nk VK) : SepP (k + 1) (extA n k nk) (extA VS k VK) := by
  refine ⟨fun i hi => ?_, fun i j hi hj hne => ?_⟩
  · by_cases e : i < k
    · rw [extA_lt _ _ e, extA_lt _ _ e]; exact h.1 i e
    · obtain rfl : i = k := by omega
      rw [extA_eq, extA_eq]; exact s
  · by_cases e : i < k
    · by_cases e2 : j < k
      · rw [extA_lt _ _ e, extA_lt _ _ e, extA_lt _ _ e2, extA_lt _ _ e2]; exact h.2 i j e e2 hne
      · obtain rfl : j = k := by omega
        rw [extA_lt _ _ e, extA_lt _ _ e, extA_eq, extA_eq]; exact ap i e
    · obtain rfl : i = k := by omega
      have e2 : j < i := by omega
      rw [extA_eq, extA_eq, extA_lt _ _ e2, extA_lt _ _ e2]; exact (ap j e2).symm

theorem infoP : (Try.prog.info? 27).map (fun i => (i.zero, i.size, i.bytes)) = some (some (.agg #[.int .i64 0, .slice none 0 0]), 2, 32) := by kernel_rfl
/-- append of polynomials. -/
theorem wpList_pols {ops : Array Oper} {rest : List Oper} {o : Oper} {a : Act} {Q : Exit → Act → World → Prop} (w : World) (hgd : o.guard = none) (s x : Operand) (ho : o.op = .call { callee := .builtin .append, args := #[s, x], argTypes := #[39, 39] })
    (B n : Nat) (v : Value) (xs : List Value) (hs : a.eval s = v) (hown : w.ownsRow B 27 2 v n xs) (ad : Addr) (c : Nat) (news : List Value) (hx : a.eval x = .slice (some ad) 1 c)
    (hc : ∀ j u, news[j]? = some u → w.cell? (ad.add j) = some u) (hl : news.length = 2) (h1 : ∀ u ∈ news, u.oneCell' = true) (hn : n + 1 ≤ 400000000) (hB : B ≤ w.heap.size)
    (h : ∀ v' w', w'.ownsRow B 27 2 v' (n + 1) (xs ++ news) → w.grownBy w' v.ownBlock → wpList Try.prog ops Q rest (a.put o.dst v') w') : wpList Try.prog ops Q (o :: rest) a w := by
  obtain ⟨i0, hi, hz0, hz1, hz2⟩ := info_parts infoP
  exact wpList_append_own w hgd s x 39 ho B 27 i0 (.agg #[.int .i64 0, .slice none 0 0]) 2 32 Try.underlying39 hi hz0 hz1 hz2 rfl (by decide) v n xs hs hown ad 1 c news hx (by omega) hc h1 (by unfold maxLen; omega) (by omega) hB
      (fun v' w' h2 h3 _ => h v' w' h2 h3)
end Go.Proofs.Ytnfhfilconcajaa.Pl
end
section
namespace Go.Proofs.Ytnfhfilconcajaa.Pl
open Go.RowKit
set_option linter.unusedVariables false
set_option maxRecDepth 100000

/-- Polynomials in the same number of variables. -/
abbrev FamPL (w : World) (B : Nat) (V : Value) (k : Nat) (c : Int) (US : Nat → Value) (VS : Nat → Nat → Value) (L : Nat → List (List Int)) : Prop := FamP w B V k (fun _ => c) US (fun i => (L i).length) VS (fun i => rowsOf (L i))
theorem FamP.pushL {w w3 : World} {B B' k : Nat} {S S' v : Value} {c : Int} {US : Nat → Value} {VS : Nat → Nat → Value} {L : Nat → List (List Int)} {VK : Nat → Value}
    (h : FamPL w B S k c US VS L) (f : FamL w B' v VK (L k)) (hB : B ≤ B') (ho : w3.ownsRow B 27 2 S' (k + 1) (pairsP (fun _ => c) US k ++ [.int .i64 c, v])) (hg : w.grownBy w3 S.ownBlock) :
    FamPL w3 B S' (k + 1) c (extA US k v) (extA VS k VK) L := by
  have h1 := FamP.push (c := c) h f hB ho hg
  refine ⟨by rw [pairsP_congr (fun _ => c) (extA (fun _ => c) k c) _ _ fun i _ => by unfold extA; split <;> rfl]; exact h1.out, fun i hi => ?_⟩
  have h2 := h1.inn i hi
  by_cases e : i < k
  · rw [extA_lt _ _ e, extA_lt _ _ e, extA_lt _ _ e, extA_lt _ _ e] at h2
    rw [extA_lt _ _ e, extA_lt _ _ e]; exact h2
  · obtain rfl : i = k := by omega
    rw [extA_eq, extA_eq, extA_eq, extA_eq] at h2
    rw [extA_eq, extA_eq]; exact h2
theorem SepP.pushL {k : Nat} {L : Nat → List (List Int)} {VS : Nat → Nat → Value} {VK : Nat → Value} (h : SepP k (fun i => (L i).length) VS) (s : Sep (L k).length VK) (ap : ∀ i, i < k → FApart (L i).length (VS i) (L k).length VK) : SepP (k + 1) (fun i => (L i).length) (extA VS k VK) := by
  have h1 := SepP.push h s ap
  have e : ∀ i, i < k + 1 → extA (fun i => (L i).length) k (L k).length i = (L i).length := fun i hi => by
    unfold extA
    split
    · rfl
    · obtain rfl : i = k := by omega
      rfl
  refine ⟨fun i hi => by have := h1.1 i hi; rw [e i hi] at this; exact this, fun i j hi hj hne => by have := h1.2 i j hi hj hne; rw [e i hi, e j hj] at this; exact this⟩

/-- What the total square answers. -/
def TotRes (G : Prop) (c : Int) (d : Nat) (L : Nat → List (List Int)) (w : World) (e : Ending) (w' : World) : Prop :=
  (G ∧ ∃ V US VS, e = .returned (.tuple #[V, .int .i64 0]) ∧ FamPL w' w.heap.size V (d + 1) c US VS L ∧ SepP (d + 1) (fun i => (L i).length) VS ∧ Below w.heap.size w w') ∨
  (¬ G ∧ e = .returned (.tuple #[.slice none 0 0, .int .i64 3]) ∧ Below w.heap.size w w')

/-- What the loop keeps. -/
structure TotJ (w0 : World) (k0 : Int) (V0 : Value) (c : Int) (L : Nat → List (List Int)) (j : Nat) (S : Value) (US : Nat → Value) (VS : Nat → Nat → Value) (w : World) : Prop where
  bel : Below w0.heap.size w0 w
  box : Box w w0.heap.size 27 (.int .i64 k0) V0
  fam : FamPL w (w0.heap.size + 1) S j c US VS L
  sep : SepP j (fun i => (L i).length) VS
theorem TotJ.up {w0 w w' : World} {k0 c : Int} {V0 S : Value} {L : Nat → List (List Int)} {j : Nat} {US : Nat → Value} {VS : Nat → Nat → Value} (h : TotJ w0 k0 V0 c L j S US VS w) (k : Below w.heap.size w w') : TotJ w0 k0 V0 c L j S US VS w' :=
  ⟨h.bel.step1 k, h.box.up k, h.fam.below k, h.sep⟩
theorem TotJ.push {w0 wr w5 w7 w3 : World} {k0 c : Int} {V0 S S' v : Value} {L : Nat → List (List Int)} {j : Nat} {US : Nat → Value} {VS : Nat → Nat → Value} {VK : Nat → Value} (h : TotJ w0 k0 V0 c L j S US VS wr) (f : FamL w5 wr.heap.size v VK (L j)) (s : Sep (L j).length VK)
    (b5 : Below wr.heap.size wr w5) (b7 : Below w5.heap.size w5 w7) (ho : w3.ownsRow (w0.heap.size + 1) 27 2 S' (j + 1) (pairsP (fun _ => c) US j ++ [.int .i64 c, v])) (hg : w7.grownBy w3 S.ownBlock) :
    TotJ w0 k0 V0 c L (j + 1) S' (extA US j v) (extA VS j VK) w3 := by
  have h7 := (h.up b5).up b7
  have hlt := h.box.lt
  have hq : ∀ q, S.ownBlock = some q → w0.heap.size + 1 ≤ q := fun q e => (h.fam.out.lt q e).1
  refine ⟨h7.bel.grown hg h7.bel.size fun q e => by have := hq q e; omega, ?_, FamP.pushL h7.fam (Fam.below f b7) (by omega) ho hg, SepP.pushL h.sep s fun i hi => fam_apart (h.fam.inn i hi) f⟩
  exact (hg.block w0.heap.size h7.box.lt (fun e => by have := hq _ e.symm; omega)).trans h7.box

/-- What is laid to be appended. -/
def twoP (w : World) (c : Int) (v : Value) : World := (w.alloc (.cells #[.int .i64 c, v] 27)).alloc (.cells #[.int .i64 c, v] 27)
theorem twoP_below (w : World) (c : Int) (v : Value) : Below w.heap.size w (twoP w c v) := ((Below.refl _ w).alloc (Nat.le_refl _) _).alloc (by simp) _
theorem twoP_src (w : World) (c : Int) (v : Value) : ∀ jj u, [Value.int .i64 c, v][jj]? = some u → (twoP w c v).cell? ((⟨w.heap.size + 1, 0, none⟩ : Addr).add jj) = some u := fun jj u hu => by
  have hb := Box.new (w.alloc (.cells #[.int .i64 c, v] 27)) 27 (.int .i64 c) v
  rw [World.size_alloc] at hb
  match jj, hu with
  | 0, hu => simp at hu; subst hu; exact hb.c0
  | 1, hu => simp at hu; subst hu; exact hb.c1
  | jj + 2, hu => simp at hu

set_option maxHeartbeats 2000000 in
theorem implTot_ok (d : Nat) (k0 : Int) (a0 : Option Addr) (m q0 : Nat) (L : Nat → List (List Int)) (DD : Nat → Bool) (w : World) (hd : d ≤ 40) (IS : Hid (∀ wx, Below w.heap.size w wx → Calls Try.prog 15 #[.agg #[.int .i64 k0, .slice a0 m q0]] wx (SaysB true wx))) (DX : Hid (DegPM w k0 a0 m q0 (d : Int)))
    (SQ : Hid (∀ j, j ≤ d → ∀ wx, Below w.heap.size w wx → Calls Try.prog 26 #[.agg #[.int .i64 k0, .slice a0 m q0], .int .i64 (j : Int)] wx (if DD j = true then ResY k0 (L j) 0 wx else ResY 0 [] 3 wx))) :
    Calls Try.prog 28 #[.agg #[.int .i64 k0, .slice a0 m q0]] w (TotRes (∀ j, j ≤ d → DD j = true) k0 d L w) := by
  have t2 := Try.underlying27
  obtain ⟨w1, hw1⟩ : ∃ w1, w1 = w.alloc (.cells #[.int .i64 k0, .slice a0 m q0] 27) := ⟨_, rfl⟩
  have J1 : Hid (TotJ w k0 (.slice a0 m q0) k0 L 0 (.slice none 0 0) (fun _ => undef) (fun _ _ => undef) w1) := Lib.hid (by
    rw [hw1]
    exact ⟨(Below.refl _ w).alloc (Nat.le_refl _) _, Box.new w _ _ _, ⟨World.ownsRow_nil _ _ _ _, fun i hi => absurd hi (Nat.not_lt_zero _)⟩, ⟨fun i hi => absurd hi (Nat.not_lt_zero _), fun i j hi => absurd hi (Nat.not_lt_zero _)⟩⟩)
  have d0 := J1.out.box.c0
  have d1 := J1.out.box.c1
  have hwd : wrap64 ((d : Int) + 1) = (d : Int) + 1 := wrap_sm (by omega) (by omega)
  go_enter Try.func28, Try.ntmps28
  go_upto_region 1 with fail
  rw [← hw1]
  clear hw1
  go_wp2_with fail
  refine (IS.out w1 J1.out.bel).mono ?_
  rintro e w2 ⟨rfl, b2⟩
  have J2 := Lib.hid (J1.out.up b2)
  clear b2 J1 d0 d1
  have d0 := J2.out.box.c0
  have d1 := J2.out.box.c1
  go_wp2_with fail
  refine (DX.out w2 J2.out.bel).mono ?_
  rintro e w3 ⟨rfl, b3⟩
  have J3 := Lib.hid (J2.out.up b3)
  clear b3 J2 d0 d1
  go_wp2_with fail
  go_loopw [4, 5, 6, 7, 14] (fun S _ _ _ c wr => ∃ (j : Nat) (US : Nat → Value) (VS : Nat → Nat → Value), j ≤ d + 1 ∧ c = .int .i64 j ∧ Hid (∀ i, i < j → DD i = true) ∧ Hid (TotJ w k0 (.slice a0 m q0) k0 L j S US VS wr)) (fun _ _ _ _ c _ => 60 - (intOf c).toNat)
  case atStart => exact ⟨0, _, _, by omega, rfl, Lib.hid (fun i hi => absurd hi (Nat.not_lt_zero _)), J3⟩
  case round =>
    clear J3
    obtain ⟨j, US, VS, hj, rfl, hG, hJ⟩ := hrel
    by_cases hlt : j < d + 1
    · have hlt' : (j : Int) < (d : Int) + 1 := by omega
      have CA := SQ.out j (by omega) wr hJ.out.bel
      have d0 := hJ.out.box.c0
      have d1 := hJ.out.box.c1
      by_cases hD : DD j = true
      · rw [if_pos hD] at CA
        have CB := Lib.hid CA
        have HG : Hid (∀ i, i < j + 1 → DD i = true) := Lib.hid fun i hi => by
          by_cases e : i < j
          · exact hG.out i e
          · obtain rfl : i = j := by omega
            exact hD
        clear CA hD hG
        go_wp2_with fail
        refine CB.out.mono ?_
        rintro e w5 ⟨v5, vs5, rfl, f5, s5, b5⟩
        have OW := Lib.hid (own_below hJ.out.fam.out (b5.step1 (twoP_below w5 k0 v5)))
        have SR := Lib.hid (twoP_src w5 k0 v5)
        have SZ : Hid (w.heap.size + 1 ≤ (twoP w5 k0 v5).heap.size) := Lib.hid (by have := hJ.out.box.lt; have := b5.size; have := (twoP_below w5 k0 v5).size; omega)
        have PU := Lib.hid (fun S' w3 => TotJ.push (S' := S') (w3 := w3) hJ.out f5 s5 b5 (twoP_below w5 k0 v5))
        have bx := Box.new w5 27 (.int .i64 k0) v5
        have y0 := bx.c0
        have y1 := bx.c1
        obtain ⟨va, vc, ev, _⟩ := Fam.head f5
        rw [ev] at OW SR SZ PU bx y0 y1
        generalize (L j).length = nl at OW SR SZ PU bx y0 y1 ev
        subst ev
        clear f5 s5 b5 hJ d0 d1
        unfold twoP at OW SR SZ PU
        go_wp2_with (at_builtin; refine wpList_pols _ rfl _ _ rfl (w.heap.size + 1) j _ _ rfl OW.out ⟨w5.heap.size + 1, 0, none⟩ 1 [.int .i64 k0, .slice va nl vc] rfl SR.out rfl (by simp [Value.oneCell']) (by omega) SZ.out ?_; intro v3 w3 ho3 hg3; have I3 := Lib.hid (PU.out v3 w3 ho3 hg3); clear ho3 hg3)
        go_roundw
        case rel => exact ⟨j + 1, _, _, by omega, by go_num, HG, I3⟩
        case measure => simp [intOf]; omega
      · rw [if_neg hD] at CA
        have CB := Lib.hid CA
        have NG : Hid (¬ ∀ j, j ≤ d → DD j = true) := Lib.hid fun h => hD (h j (by omega))
        clear CA hD hG
        go_wp2_with fail
        refine CB.out.mono ?_
        rintro e w5 ⟨v5, vs5, rfl, f5, s5, b5⟩
        obtain ⟨va, vc, rfl, _⟩ := Fam.head f5
        have B5 := Lib.hid ((hJ.out.bel.step1 b5).alloc (hJ.out.bel.step1 b5).size (.cells #[.int .i64 0, .slice va ([] : List (List Int)).length vc] 27))
        clear f5 s5 b5 hJ d0 d1
        go_wp2_with fail
        go_ret2
        exact .inr ⟨NG.out, rfl, B5.out⟩
    · obtain rfl : j = d + 1 := by omega
      have F9 := Lib.hid (hJ.out.fam.base (Nat.le_succ _))
      have S9 := Lib.hid hJ.out.sep
      have B9 := Lib.hid hJ.out.bel
      have G9 : Hid (∀ j, j ≤ d → DD j = true) := Lib.hid fun i hi => hG.out i (by omega)
      clear hJ hG
      go_wp2_with fail
      go_ret2
      exact .inl ⟨G9.out, _, US, VS, rfl, F9.out, S9.out, B9.out⟩
end Go.Proofs.Ytnfhfilconcajaa.Pl
end
