/-
  Joined: RKeys, RRel.
-/
import Derived.Test.YtldlpeohdindaaaZeneratorForm21
import Derived.Test.YtldlpeohdindaaaZeneratorForm12
import Derived.Test.YtldlpeohdindaaaZeneratorForm08
import Derived.Test.YtldlpeohdindaaaZeneratorForm10
import Derived.WalkArith
section
namespace Go.Proofs.Ytldlpeohdindaaa
open Go.RowKit Go.Maps
set_option linter.unusedVariables false
set_option maxRecDepth 100000

theorem keyedAB : Keyed Try.prog 55 := Keyed.of_law (deep_law_laid laidP (m := 3) (by omega) (of_decide_eq_true (by kernel_rfl)) (by kernel_rfl) (by kernel_rfl))
theorem keyedNX : Keyed Try.prog 116 := Keyed.of_law (deep_law_laid laidP (m := 3) (by omega) (of_decide_eq_true (by kernel_rfl)) (by kernel_rfl) (by kernel_rfl))

theorem keyAB_mk (a b : Int) (ha : (Lit.int .i64 a).wf = true) (hb : (Lit.int .i64 b).wf = true) : ∃ l, keyOf Try.prog 55 (keyAB a b) = some l := by
  obtain ⟨L, hL⟩ := arrLits_mk (P := Try.prog) Try.underlying55 Try.underlying2 (by kernel_rfl) (by kernel_rfl) (Try.prog.types.size - 1) (cs := [Value.int .i64 a, Value.int .i64 b]) rfl ⟨[a, b], rfl, by
    intro z hz
    rcases List.mem_cons.1 hz with rfl | hz
    · exact ha
    · rw [List.mem_singleton.1 hz]; exact hb⟩
  have hts : Try.prog.types.size - 1 + 2 = Try.prog.types.size + 1 := by kernel_rfl
  rw [hts] at hL
  have hk : Try.prog.keyType 55 = true := by kernel_rfl
  have hf : (keyAB a b).formed Try.prog 55 = true := by
    have hc : Try.prog.cellsOf 55 = 2 := by kernel_rfl
    simp [keyAB, Value.formed, Try.underlying55, hc]
  refine ⟨.string (keyBytes L), ?_⟩
  unfold keyOf
  rw [Try.underlying55]
  simp only [hk, hf, Bool.and_self, if_true]
  have e : (keyAB a b).cells.toList = [Value.int .i64 a, Value.int .i64 b] := by simp [keyAB, Value.cells]
  rw [e, hL]
  rfl

theorem litsNX_mk (d : Nat) (z : Int) (hz : (Lit.int .i64 z).wf = true) {cs : List Value} (hl : cs.length = 8) (h : Ints .u8 cs) : ∃ l, Try.prog.keyLits (d + 3) 116 (.int .i64 z :: cs) = some l := by
  have hc : Try.prog.cellsOf 116 = 9 := by kernel_rfl
  have hc1 : Try.prog.cellsOf 2 = 1 := by kernel_rfl
  have hc2 : Try.prog.cellsOf 72 = 8 := by kernel_rfl
  unfold Program.keyLits
  rw [Try.underlying116]
  simp only [hc]
  rw [if_pos ⟨by rw [List.length_cons, hl], by kernel_rfl⟩]
  obtain ⟨a0, h0⟩ := intLits_mk Try.underlying2 (d + 1) z hz
  obtain ⟨a1, h1⟩ := arrLits_mk Try.underlying72 Try.underlying5 (by kernel_rfl) (by kernel_rfl) d (cs := cs) hl h
  have e1 : cs.take 8 = cs := List.take_of_length_le (by omega)
  refine ⟨(a0 ++ a1), ?_⟩
  simp [hc1, hc2, h0, h1, e1]

theorem keyNX_mk (n : Int) (x : List Int) (hn : (Lit.int .i64 n).wf = true) (hx : fits x) : ∃ l, keyOf Try.prog 116 (keyNX n x) = some l := by
  obtain ⟨zs, hz, e⟩ := (packK_ok x hx).ints
  have hI : Ints .u8 (packK x).toList := by
    obtain ⟨l, hl⟩ := (packK_ok x hx).key
    obtain ⟨xs, L, h1, hL, _⟩ := keyOf_top (by kernel_rfl) hl
    cases h1
    exact (litsP hL).2
  have h8 : (packK x).toList.length = 8 := by rw [Array.length_toList]; exact (packK_ok x hx).size
  obtain ⟨L, hL⟩ := litsNX_mk (Try.prog.types.size - 2) n hn h8 hI
  have hts : Try.prog.types.size - 2 + 3 = Try.prog.types.size + 1 := by kernel_rfl
  rw [hts] at hL
  have hk : Try.prog.keyType 116 = true := by kernel_rfl
  have hf : (keyNX n x).formed Try.prog 116 = true := by
    have hc : Try.prog.cellsOf 116 = 9 := by kernel_rfl
    simp only [keyNX, Value.formed, Try.underlying116, hc, List.size_toArray, List.length_cons, h8]
    rfl
  refine ⟨.string (keyBytes L), ?_⟩
  unfold keyOf
  rw [Try.underlying116]
  simp only [hk, hf, Bool.and_self, if_true]
  have e : (keyNX n x).cells.toList = .int .i64 n :: (packK x).toList := by simp [keyNX, Value.cells]
  rw [e, hL]
  rfl

/-! ### How many keys there are -/
noncomputable def keysAB : List (Option Lit) := (List.range 41).flatMap fun a : Nat => (List.range 41).map fun b : Nat => keyOf Try.prog 55 (keyAB ((a : Nat) : Int) ((b : Nat) : Int))
noncomputable def keysNX : List (Option Lit) := (List.range 41).flatMap fun n : Nat => (List.range 41).flatMap fun d : Nat => (enumN 6 d d).map fun x => keyOf Try.prog 116 (keyNX ((n : Nat) : Int) x)
theorem flatMap_len {α β : Type} (f : α → List β) (c : Nat) : ∀ (l : List α), (∀ x ∈ l, (f x).length ≤ c) → (l.flatMap f).length ≤ l.length * c
  | [], _ => by simp
  | x :: r, h => by
    have h1 := h x List.mem_cons_self
    have h2 := flatMap_len f c r fun y hy => h y (List.mem_cons_of_mem _ hy)
    rw [List.flatMap_cons, List.length_append, List.length_cons, Nat.succ_mul]
    omega
theorem keysAB_len : keysAB.length ≤ 1681 := by
  unfold keysAB
  have := flatMap_len (fun a : Nat => (List.range 41).map fun b : Nat => keyOf Try.prog 55 (keyAB ((a : Nat) : Int) ((b : Nat) : Int))) 41 (List.range 41) (fun x _ => by rw [List.length_map, List.length_range]; exact Nat.le_refl _)
  rw [List.length_range] at this
  omega
theorem keysNX_len : keysNX.length ≤ 168100 := by
  unfold keysNX
  have := flatMap_len (fun n : Nat => (List.range 41).flatMap fun d : Nat => (enumN 6 d d).map fun x => keyOf Try.prog 116 (keyNX ((n : Nat) : Int) x)) 4100 (List.range 41) (fun n _ => by
    have := flatMap_len (fun d : Nat => (enumN 6 d d).map fun x => keyOf Try.prog 116 (keyNX ((n : Nat) : Int) x)) 100 (List.range 41) (fun d hd => by
      rw [List.length_map, enumN_len]
      exact cnt_40 d (List.mem_range.1 hd))
    rw [List.length_range] at this
    omega)
  rw [List.length_range] at this
  omega
theorem keysAB_mem {a b : Int} {l : Lit} (h : okAB a b) (hl : keyOf Try.prog 55 (keyAB a b) = some l) : some l ∈ keysAB := by
  obtain ⟨h1, h2, h3, h4⟩ := h
  obtain ⟨na, rfl⟩ := Int.eq_ofNat_of_zero_le (by omega : 0 ≤ a)
  obtain ⟨nb, rfl⟩ := Int.eq_ofNat_of_zero_le (by omega : 0 ≤ b)
  exact List.mem_flatMap.2 ⟨na, List.mem_range.2 (by omega), List.mem_map.2 ⟨nb, List.mem_range.2 (by omega), hl⟩⟩
theorem enumN_adm {x : List Int} (h : isAdm x) (h40 : x.sum ≤ 40) : x ∈ enumN 6 x.sum.toNat x.sum.toNat := by
  have hs := isAdm_sum h
  refine enumN_mem 6 _ _ x (isAdm_len h h40) h (by omega) fun a r e => ?_
  subst e
  have := isAdm_sum (isAdm_tail h)
  rw [List.sum_cons] at h40 hs ⊢
  omega
theorem keysNX_mem {n : Int} {x : List Int} {l : Lit} (h : okNX n x) (hl : keyOf Try.prog 116 (keyNX n x) = some l) : some l ∈ keysNX := by
  obtain ⟨h1, h2, h3⟩ := h
  have hs := isAdm_sum h2
  obtain ⟨m, rfl⟩ := Int.eq_ofNat_of_zero_le (by omega : 0 ≤ n)
  exact List.mem_flatMap.2 ⟨m, List.mem_range.2 (by omega), List.mem_flatMap.2 ⟨x.sum.toNat, List.mem_range.2 (by omega), List.mem_map.2 ⟨x, enumN_adm h2 (by omega), hl⟩⟩⟩
theorem adm_fits {x : List Int} (h : isAdm x) (h40 : x.sum ≤ 40) : fits x := by
  refine ⟨by have := isAdm_len h h40; omega, fun i hi => ?_⟩
  rw [List.getElem?_eq_getElem hi]
  have := adm_entries h h40 _ (List.getElem_mem hi)
  simp only [Option.getD_some]
  omega

theorem RInv.known' {R K gk gp : Nat} {X : Nat → Prop} {w : World} (h : RInv R K gk gp X w) : ∃ D n, w.ownsMap Try.prog 55 RawV gk n D ∧ n ≤ 1681 ∧ Ent D (PhiK X w) := by
  obtain ⟨D, n, h1, h2⟩ := h.known
  refine ⟨D, _, ownsMap_exact h1, ?_, h2⟩
  have := h2.few (h1.tidy keyedAB) keysAB fun l v ⟨⟨a, b, h3, h4, _⟩, _⟩ => keysAB_mem h3 h4
  have := keysAB_len
  omega
theorem RInv.prods' {R K gk gp : Nat} {X : Nat → Prop} {w : World} (h : RInv R K gk gp X w) : ∃ D n, w.ownsMap Try.prog 116 RawV gp n D ∧ n ≤ 168100 ∧ Ent D (PhiP X w) := by
  obtain ⟨D, n, h1, h2⟩ := h.prods
  refine ⟨D, _, ownsMap_exact h1, ?_, h2⟩
  have := h2.few (h1.tidy keyedNX) keysNX fun l v ⟨⟨n, x, h3, h4, _⟩, _⟩ => keysNX_mem h3 h4
  have := keysNX_len
  omega

theorem packs_ok {L : List (List Int)} (h : ∀ y ∈ L, fits y) : ∀ k ∈ L.map packK, KOKP k := by
  intro k hk
  obtain ⟨y, hy, rfl⟩ := List.mem_map.1 hk
  exact packK_ok y (h y hy)
theorem res_ok {n : Int} {x : List Int} {L : List (List Int)} (hx : okNX n x) (h : ∀ y, y ∈ L ↔ par (admF 1700 n x) y) : ∀ k ∈ L.map packK, KOKP k :=
  packs_ok fun y hy => by
    have := admF_ok 1700 n x (by have := hx.1; omega) hx.2.1 hx.2.2 (by have := hx.1; have := isAdm_sum hx.2.1; have := hx.2.2; unfold mu; omega) y (par_mem _ _ ((h y).1 hy))
    exact adm_fits this.1 (by rw [this.2]; exact hx.2.2)
end Go.Proofs.Ytldlpeohdindaaa
end
section
namespace Go.Proofs.Ytldlpeohdindaaa
open Go.RowKit Go.Maps
set_option linter.unusedVariables false
set_option maxRecDepth 100000

theorem wf64 (z : Int) (h0 : 0 ≤ z) (h1 : z ≤ 1000000) : (Lit.int .i64 z).wf = true := WalkArith.wf_i64 (by omega)
theorem keyAB_inj {a b a' b' : Int} {l : Lit} (h : keyOf Try.prog 55 (keyAB a b) = some l) (h' : keyOf Try.prog 55 (keyAB a' b') = some l) : a = a' ∧ b = b' := by
  have := keyedAB.inj h h'
  simpa [keyAB] using this
/-- The reducer behind a put into the map of relations. -/
theorem RInv.putK {R K gk gp n : Nat} {X : Nat → Prop} {w w' : World} {D : DataW Value} {l : Lit} {v : Value} (h : RInv R K gk gp X w) (hg : w.grownBy w' (some gk)) (ho : w'.ownsMap Try.prog 55 RawV gk n (D.put l (.held v)))
    (hD : Ent D (PhiK X w)) (hv : PhiK X w l v) : RInv R K gk gp X w' := by
  have m1 := h.m1
  have m2 := h.m2
  have kk : Kp2 gk gp w w' := Kp2.of_grown hg (.inl rfl)
  obtain ⟨D2, n2, o2, e2⟩ := h.prods
  have up : ∀ l u, PhiK X w l u → PhiK X w' l u := fun l u ⟨⟨a, b, h1, h2, h3⟩, h4⟩ => ⟨⟨a, b, h1, h2, RdI.kp h3 m1 m2 kk⟩, h4.ext hg.size fun g hg => .inl hg⟩
  refine ⟨heap_kp h.obj m1 m2 kk, heap_kp h.box m1 m2 kk, ⟨_, n, ho, (hD.mono up).put l v (up l v hv)⟩, ⟨D2, n2, o2.kept hg (by simpa using h.ne.symm), e2.mono fun l u ⟨⟨n, x, h1, h2, L, h3, h5, h6⟩, h4⟩ => ⟨⟨n, x, h1, h2, L, h3, h5, ?_⟩, h4.ext hg.size fun g hg => .inl hg⟩⟩, h.ne, h.nx⟩
  exact h6.kp (res_ok h1 h5) m1 m2 kk

/-- What a relation's call leaves. -/
def RelPost (R K gk gp : Nat) (X : Nat → Prop) (a b : Int) (w : World) (e : Ending) (w' : World) : Prop := ∃ v, e = .returned v ∧ JsIs w' v b a ∧ RInv R K gk gp X w' ∧ Kp2 gk gp w w'

set_option maxHeartbeats 1000000 in
theorem rel_any (R K gk gp : Nat) (X : Nat → Prop) (a b : Int) (w : World) (hX : ∀ g, X g → g < w.heap.size) (h : RInv R K gk gp X w) (hab : okAB a b) :
    Calls Try.prog 36 #[.int .i64 a, .int .i64 b, .pointer (some ⟨K, 0, none⟩)] w (RelPost R K gk gp X a b w) := by
  obtain ⟨a1, a2, a3, a4⟩ := id hab
  obtain ⟨l, hl⟩ := keyAB_mk a b (wf64 a (by omega) (by omega)) (wf64 b (by omega) (by omega))
  obtain ⟨D, n, ho, hn, hD⟩ := h.known'
  have B1 : Hid (Below w.heap.size w (w.alloc (.cells #[.int .i64 a, .int .i64 b] 55))) := Lib.hid ((Below.refl _ w).alloc (Nat.le_refl _) _)
  have HK := Lib.hid hl
  have HO1 := Lib.hid (ho.alloc (.cells #[.int .i64 a, .int .i64 b] 55))
  have HI := Lib.hid h
  have ck : (w.alloc (.cells #[.int .i64 a, .int .i64 b] 55)).cell? ⟨K, 0, none⟩ = some (.map (some gk)) := (B1.out.cell (p := ⟨K, 0, none⟩) (Array.getElem?_eq_some_iff.1 h.box).1).trans (cell_of_row w K 0 _ _ (0, 0) h.box)
  have HD := Lib.hid hD
  cases hh : has D l with
  | true =>
    obtain ⟨u, hu, ⟨a', b', hab', hk', hj⟩, _⟩ := hD.look l hh (.held (.slice none 0 0))
    obtain ⟨rfl, rfl⟩ := keyAB_inj hl hk'
    have HU := Lib.hid hu
    have HJ := Lib.hid hj
    clear hl ho hD hu hj hk' hab' h
    go_enter Try.func36, Try.ntmps36
    go_wp2_with (first | (at_lookup; refine wpList_lookup_own_ok _ rfl _ _ 54 rfl 55 46 keyedAB Try.underlying54 RawV (Try.zeroValue46 _) (.held (.slice none 0 0)) [] rfl gk n D rfl HO1.out _ l rfl HK.out ?_; intro v ps hv))
    go_ret
    obtain rfl : v = u := by
      have e : DataW.held v = D.atKey l (.held (.slice none 0 0)) := congrArg Prod.fst (Option.some.inj hv)
      rw [HU.out] at e
      exact DataW.held.inj e
    exact ⟨v, rfl, RdI.below HJ.out B1.out, HI.out.below B1.out, Kp2.of_below B1.out⟩
  | false =>
    clear hl ho hD h
    obtain ⟨na, rfl⟩ := Int.eq_ofNat_of_zero_le (by omega : 0 ≤ a)
    obtain ⟨nb, rfl⟩ := Int.eq_ofNat_of_zero_le (by omega : 0 ≤ b)
    have O0 : Hid ((w.alloc (.cells #[.int .i64 (na : Int), .int .i64 (nb : Int)] 55)).ownsRow (w.alloc (.cells #[.int .i64 (na : Int), .int .i64 (nb : Int)] 55)).heap.size 2 1 (.slice none 0 0) (jsTo (nb : Int) (na : Int) 0).length ((jsTo (nb : Int) (na : Int) 0).map (Value.int .i64))) := Lib.hid (by simpa [jsTo] using World.ownsRow_nil _ _ _ _)
    have JA : Hid (jsTo (nb : Int) (na : Int) (na / 2 + 1) = js (nb : Int) (na : Int)) := Lib.hid (by have := jsTo_all (nb : Int) (na : Int); rw [Int.toNat_natCast] at this; exact this)
    go_enter Try.func36, Try.ntmps36
    go_wp2_with (first | (at_lookup; refine wpList_lookup_own_ok _ rfl _ _ 54 rfl 55 46 keyedAB Try.underlying54 RawV (Try.zeroValue46 _) (.held (.slice none 0 0)) [] rfl gk n D rfl HO1.out _ l rfl HK.out ?_; intro v ps hv))
    clear hv
    have BN := Lib.hid (heap_alloc_new w (.cells #[.int .i64 (na : Int), .int .i64 (nb : Int)] 55))
    generalize hw1 : w.alloc (.cells #[.int .i64 (na : Int), .int .i64 (nb : Int)] 55) = w1 at *
    have hs1 : w1.heap.size = w.heap.size + 1 := by rw [← hw1]; simp
    clear hw1
    go_loopw [9, 10] (fun S c wr => ∃ j : Nat, j ≤ na / 2 + 1 ∧ c = .int .i64 j ∧ Hid (wr.ownsRow w1.heap.size 2 1 S (jsTo (nb : Int) (na : Int) j).length ((jsTo (nb : Int) (na : Int) j).map (Value.int .i64))) ∧ Hid (Below w1.heap.size w1 wr)) (fun _ c _ => na / 2 + 1 - (intOf c).toNat)
    case atStart => exact ⟨0, by omega, rfl, O0, Lib.hid (Below.refl _ _)⟩
    case round =>
      clear O0
      obtain ⟨j, hj, rfl, hO, hB⟩ := hrel
      by_cases hj2 : 2 * j ≤ na
      · obtain ⟨p, hp⟩ : ∃ p : Nat, (nb : Int) - (j : Int) - 1 = (p : Int) := ⟨nb - j - 1, by omega⟩
        obtain ⟨q, hq⟩ : ∃ q : Nat, (na : Int) - 2 * (j : Int) = (q : Int) := ⟨na - 2 * j, by omega⟩
        have P : Hid (Calls Try.prog 37 #[.int .i64 ((nb : Int) - (j : Int) - 1), .int .i64 ((na : Int) - 2 * (j : Int))] wr fun e w' => e = .returned (.tuple #[.int .i64 (bpar p q), .int .i64 0]) ∧ wr = w') := Lib.hid (by rw [hp, hq]; exact implBinomial_in p q wr (by omega) (by omega))
        have ep : bpar p q = bpar ((nb : Int).toNat - j - 1) ((na : Int).toNat - 2 * j) := by
          rw [show p = (nb : Int).toNat - j - 1 by omega, show q = (na : Int).toNat - 2 * j by omega]
        have hle : (j : Int) ≤ (na : Int) / 2 := by omega
        by_cases hb1 : bpar p q = 1
        · have JY := Lib.hid (jsTo_yes (nb : Int) (na : Int) j (by rw [← ep]; exact hb1))
          rw [hb1] at P
          have B2 := Lib.hid (hB.out.alloc hB.out.size (.cells #[.int .i64 (j : Int)] 2))
          have O2 := Lib.hid (hO.out.alloc (.cells #[.int .i64 (j : Int)] 2))
          have LJ : (jsTo (nb : Int) (na : Int) j).length ≤ 1000 := by
            unfold jsTo
            rw [List.length_map]
            have := List.length_filter_le (fun j => decide (bpar ((nb : Int).toNat - j - 1) ((na : Int).toNat - 2 * j) = 1)) (List.range j)
            rw [List.length_range] at this
            omega
          have CN : Hid (∀ jj u, [Value.int .i64 (j : Int)][jj]? = some u → (wr.alloc (.cells #[.int .i64 (j : Int)] 2)).cell? ((⟨wr.heap.size, 0, none⟩ : Addr).add jj) = some u) := Lib.hid fun jj u hu => by
            have h0 : jj = 0 := by have := (List.getElem?_eq_some_iff.1 hu).1; simp at this; omega
            subst h0
            simp at hu
            subst hu
            exact cell_of_row _ wr.heap.size 0 _ _ (0, 0) (heap_alloc_new wr _)
          clear hp hq ep hb1
          go_wp2_with fail
          refine P.out.mono ?_
          rintro e w2 ⟨rfl, rfl⟩
          go_wp2_with (at_builtin; refine wpList_ints _ rfl _ _ rfl w1.heap.size (jsTo (nb : Int) (na : Int) j).length _ _ rfl O2.out (some ⟨wr.heap.size, 0, none⟩) 1 1 [Value.int .i64 (j : Int)] rfl (.inr ⟨_, rfl, CN.out⟩) rfl (by simp [Value.oneCell']) (by omega) B2.out.size ?_; intro v3 w3 ho3 hg3; have O3 := Lib.hid ho3; have B3 := Lib.hid (B2.out.grown hg3 B2.out.size (fun q hq => (O2.out.lt q hq).1)); clear ho3 hg3)
          go_roundw
          case rel => exact ⟨j + 1, by omega, by go_num, Lib.hid (by rw [JY.out, List.length_append, List.length_singleton, List.map_append]; exact O3.out), B3⟩
          case measure => simp [intOf]; omega
        · have hb0 : bpar p q = 0 := by unfold bpar at hb1 ⊢; split <;> simp_all
          have JN := Lib.hid (jsTo_no (nb : Int) (na : Int) j (by rw [← ep]; exact hb1))
          rw [hb0] at P
          clear hp hq ep hb1 hb0
          go_wp2_with fail
          refine P.out.mono ?_
          rintro e w2 ⟨rfl, rfl⟩
          go_wp2_with fail
          go_roundw
          case rel => exact ⟨j + 1, by omega, by go_num, Lib.hid (by rw [JN.out]; exact hO.out), hB⟩
          case measure => simp [intOf]; omega
      · obtain rfl : j = na / 2 + 1 := by omega
        rw [JA.out] at hO
        have hle : ¬ ((na / 2 + 1 : Nat) : Int) ≤ (na : Int) / 2 := by omega
        have ckr : wr.cell? ⟨K, 0, none⟩ = some (.map (some gk)) := (hB.out.cell (p := ⟨K, 0, none⟩) (World.block_lt_of_cell? w1 _ ck)).trans ck
        have cbr : wr.heap[w.heap.size]? = some (.cells #[.int .i64 (na : Int), .int .i64 (nb : Int)] 55 (0, 0)) := (hB.out.block _ (by omega)).trans BN.out
        have cb0 := cell_of_row wr w.heap.size 0 _ _ (0, 0) cbr
        have cb1 := cell_of_row wr w.heap.size 1 _ _ (0, 0) cbr
        have BW := Lib.hid (B1.out.trans (hB.out.mono B1.out.size))
        have HIR := Lib.hid (HI.out.below BW.out)
        have HOR : Hid (wr.ownsMap Try.prog 55 RawV gk n D) := Lib.hid (by
          obtain ⟨es, clock, hb, rest⟩ := HO1.out
          exact ⟨es, clock, (hB.out.block _ (Array.getElem?_eq_some_iff.1 hb).1).trans hb, rest⟩)
        have HDR : Hid (Ent D (PhiK X wr)) := Lib.hid (HD.out.mono fun l v k => k.keep (fun b hb _ => BW.out.block b hb) BW.out.size fun g hg => .inl hg)
        have HST : Hid (StV X wr u9) := Lib.hid fun g hg => ⟨(hO.out.lt g hg).2, fun hx => by have h1 := hX g hx; have h2 := (hO.out.lt g hg).1; omega⟩
        have HJ : Hid (JsIs wr u9 (nb : Int) (na : Int)) := Lib.hid (rd_of_own hO.out rfl)
        have hnm : n < maxLen := by unfold maxLen; omega
        clear HI HD HO1 B1 BN JA hO
        go_wp2_with (first | (at_mapUpdate; refine wpList_mapUpdate_in _ rfl _ _ _ 54 rfl 55 46 keyedAB Try.underlying54 RawV gk n D rfl HOR.out hnm _ _ l rfl rfl HK.out (.held u9) [] rfl ?_; intro w3 ho3 ht3))
        go_ret
        have kk : Kp2 gk gp wr w3 := Kp2.of_grown ht3.grown (.inl rfl)
        exact ⟨u9, rfl, RdI.kp HJ.out HIR.out.m1 HIR.out.m2 kk, HIR.out.putK ht3.grown ho3 HDR.out ⟨⟨_, _, hab, HK.out, HJ.out⟩, HST.out⟩, (Kp2.of_below BW.out).trans kk⟩
end Go.Proofs.Ytldlpeohdindaaa
end
