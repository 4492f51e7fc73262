/-
  Joined: RAdem, GGw, GGwI, RForm.
-/
import Derived.Test.YtldlpeohdindaaaZeneratorForm35
import Derived.Test.YtldlpeohdindaaaZeneratorForm30
import Derived.Test.YtldlpeohdindaaaZeneratorForm09
import Derived.Test.YtldlpeohdindaaaZeneratorForm23
import Derived.Test.YtldlpeohdindaaaZeneratorForm25
import Derived.Test.YtldlpeohdindaaaZeneratorForm34
import Derived.Test.YtldlpeohdindaaaZeneratorForm33
import Derived.Deep.RegionLaw
section
namespace Go.Proofs.Ytldlpeohdindaaa
open Go.RowKit Go.Maps
set_option linter.unusedVariables false
set_option maxRecDepth 100000

/-- What occurs an odd number of times, in order. -/
def normL : List (List Int) → List (List Int)
  | [] => []
  | x :: r => mrg [x] (normL r)
theorem normL_spec : ∀ T : List (List Int), Asc (normL T) ∧ ∀ z, z ∈ normL T ↔ par T z
  | [] => ⟨List.Pairwise.nil, fun z => by simp [normL, par]⟩
  | x :: r => by
    obtain ⟨h1, h2⟩ := normL_spec r
    obtain ⟨h3, h4⟩ := mrg_spec [x] (normL r) (List.pairwise_singleton _ _) h1
    refine ⟨h3, fun z => ?_⟩
    show z ∈ mrg [x] (normL r) ↔ (x = z ∧ ¬ par r z) ∨ (x ≠ z ∧ par r z)
    rw [h4, h2, List.mem_singleton, eq_comm]
theorem normL_eq {T zs : List (List Int)} (h : Asc zs) (m : ∀ z, z ∈ zs ↔ par T z) : zs = normL T :=
  asc_ext _ _ h (normL_spec T).1 fun z => (m z).trans ((normL_spec T).2 z).symm
/-- Words of one degree are few, and short. -/
theorem normL_few {T : List (List Int)} {d : Int} (h0 : 0 ≤ d ∧ d ≤ 40) (hT : ∀ y ∈ T, isAdm y ∧ y.sum = d) : (normL T).length ≤ 100 ∧ ∀ i, (rowsOf (normL T) i).length ≤ 20 := by
  obtain ⟨h1, h2⟩ := normL_spec T
  obtain ⟨h3, h4⟩ := few_of h1.nodup h2 h0.1 h0.2 hT
  refine ⟨h3, fun i => ?_⟩
  unfold rowsOf
  by_cases hi : i < (normL T).length
  · rw [List.getElem?_eq_getElem hi]
    have := h4 _ (List.getElem_mem hi)
    have := isAdm_len this.1 (by rw [this.2]; exact h0.2)
    simp only [Option.getD_some]
    omega
  · rw [List.getElem?_eq_none (by omega)]
    exact Nat.zero_le _

theorem ab_LW {a b : Int} (ha : 1 ≤ a) (hb : 1 ≤ b) (hs : a + b ≤ 40) : LW [a, b] := by
  refine ⟨fun x hx => ?_, by simp; omega⟩
  simp only [List.mem_cons, List.not_mem_nil, or_false] at hx
  rcases hx with rfl | rfl <;> assumption
/-- A literal list of two. -/
theorem rd_two (w : World) (a b : Int) : RdI (w.alloc (.cells #[.int .i64 a, .int .i64 b] 2)) (.slice (some ⟨w.heap.size, 0, none⟩) 2 2) [a, b].length (fun j => [a, b][j]?.getD 0) := by
  refine ⟨_, 2, rfl, by unfold maxLen; simp, .inr ⟨w.heap.size, 0, rfl, fun i hi => ?_⟩⟩
  have hh := heap_alloc_new w (.cells #[.int .i64 a, .int .i64 b] 2)
  rw [World.cell?, hh]
  have hi2 : i < 2 := hi
  rcases i with _ | _ | i
  · rfl
  · rfl
  · omega
/-- The result's box is written, the result is there. -/
theorem resS_done {w w1 : World} {U : Value} {US : Nat → Value} {L : List (List Int)} {x : Value} {B : Nat} (f : FamL w1 B U US L) (s : Sep L.length US) (hB : w.heap.size ≤ B) (b : Below w.heap.size w w1) (hx : Box1 w1 w.heap.size 24 x) :
    FamL (w1.setCell ⟨w.heap.size, 0, none⟩ U) w.heap.size U US L ∧ Below w.heap.size w (w1.setCell ⟨w.heap.size, 0, none⟩ U) ∧ Box1 (w1.setCell ⟨w.heap.size, 0, none⟩ U) w.heap.size 24 U :=
  ⟨FamL.off_box (Fam.base f hB) (OneOff.set _ _ _) hx, b.setCell (p := ⟨w.heap.size, 0, none⟩) (Nat.le_refl _) U, hx.set U⟩

end Go.Proofs.Ytldlpeohdindaaa
end
section
namespace Go.Proofs.Ytldlpeohdindaaa
open Go.RowKit Go.Maps
set_option linter.unusedVariables false
set_option maxRecDepth 100000

theorem RdN.kpK {gk : Nat} {w w' : World} {v : Value} {xs : List Int} (h : RdN w v xs) (m : IsMapB w gk) (k : Kp2 gk gk w w') : RdN w' v xs := by
  obtain ⟨a, cap, e, h1, h2, hc⟩ := h
  refine ⟨a, cap, e, h1, h2, ?_⟩
  rcases hc with h0 | ⟨b, off, e, hc⟩
  · exact .inl h0
  · exact .inr ⟨b, off, e, fun i hi => (k.cell (p := ⟨b, off + i, none⟩) (World.block_lt_of_cell? w _ (hc i hi)) (m.ne (hc i hi)) (m.ne (hc i hi))).trans (hc i hi)⟩
theorem RdR.kpK {gk : Nat} {w w' : World} {V : Value} {n : Nat} {X : Nat → List Int} (h : RdR w V n X) (m : IsMapB w gk) (k : Kp2 gk gk w w') : RdR w' V n X := by
  obtain ⟨a, cap, e, hm, VS, hc, hr⟩ := h
  refine ⟨a, cap, e, hm, VS, ?_, fun i hi => (hr i hi).kpK m k⟩
  rcases hc with h0 | ⟨b, off, e, hc⟩
  · exact .inl h0
  · exact .inr ⟨b, off, e, fun i hi => (k.cell (p := ⟨b, off + i, none⟩) (World.block_lt_of_cell? w _ (hc i hi)) (m.ne (hc i hi)) (m.ne (hc i hi))).trans (hc i hi)⟩
/-- The forms below k, in the block FB. -/
def FormsAt (W : World) (FB k : Nat) : Prop := ∀ i, 1 ≤ i → i < k → ∃ V, W.cell? ⟨FB, i, none⟩ = some V ∧ RdR W V (normL (gen i)).length (rowsOf (normL (gen i)))
theorem FormsAt.kpK {gk FB n : Nat} {w w' : World} (h : FormsAt w FB n) (m : IsMapB w gk) (k : Kp2 gk gk w w') : FormsAt w' FB n := fun i h1 h2 => by
  obtain ⟨V, hc, hr⟩ := h i h1 h2
  exact ⟨V, (k.cell (p := ⟨FB, i, none⟩) (World.block_lt_of_cell? w _ hc) (m.ne hc) (m.ne hc)).trans hc, hr.kpK m k⟩
theorem normG {i : Nat} (h1 : 1 ≤ i) (h2 : i ≤ 20) : (normL (gen i)).length ≤ 5 ∧ ∀ j, (rowsOf (normL (gen i)) j).length ≤ 6 := gen_few h1 h2 (normL_spec _).1.nodup (normL_spec _).2
theorem par_normL (T : List (List Int)) (y : List Int) : par (normL T) y ↔ par T y := by rw [par_nodup _ (normL_spec T).1.nodup, (normL_spec T).2]

/-- The words when k places are done. -/
def LL (n b a k : Nat) : List (List Int) := jn (normL (gen a)) [[(b : Int)]] ++ (((js (b : Int) (a : Int)).take k).filter fun j => decide (0 < j)).flatMap fun j => jn (normL (gen (n - j.toNat))) (normL (gen j.toNat))
theorem LL_zero (n b a : Nat) : LL n b a 0 = jn (normL (gen a)) [[(b : Int)]] := by
  unfold LL
  rw [List.take_zero, List.filter_nil, List.flatMap_nil, List.append_nil]
theorem LL_yes (n b a k : Nat) (j : Int) (h : (js (b : Int) (a : Int)).take (k + 1) = (js (b : Int) (a : Int)).take k ++ [j]) (hj : 0 < j) : LL n b a (k + 1) = LL n b a k ++ jn (normL (gen (n - j.toNat))) (normL (gen j.toNat)) := by
  unfold LL
  rw [h, List.filter_append, List.filter_cons_of_pos (by simpa using hj), List.filter_nil, List.flatMap_append, List.flatMap_cons, List.flatMap_nil, List.append_nil, List.append_assoc]
theorem LL_no (n b a k : Nat) (j : Int) (h : (js (b : Int) (a : Int)).take (k + 1) = (js (b : Int) (a : Int)).take k ++ [j]) (hj : ¬ 0 < j) : LL n b a (k + 1) = LL n b a k := by
  unfold LL
  rw [h, List.filter_append, List.filter_cons_of_neg (by simpa using hj), List.filter_nil, List.append_nil]
theorem LL_all (n : Nat) (h1 : 1 ≤ n) (h2 : n ≤ 20) (hn : n ≠ pw n) (y : List Int) : par (LL n (pw n) (n - pw n) (js (pw n : Int) ((n - pw n : Nat) : Int)).length) y ↔ par (gen n) y := by
  rw [gen_rec n (by omega) h1 hn]
  unfold LL jsp
  rw [List.take_length]
  exact par_iff_append (fun z => par_jn (par_normL _) (fun _ => Iff.rfl) z) (fun z => par_congr (fun j u => par_jn (par_normL _) (par_normL _) u) z _) y

/-- What generatorWords keeps in its loop. -/
structure GSt (K gk : Nat) (W : World) (v : Value) (b a : Nat) (L : List (List Int)) (S : Value) (VS : Nat → Value) (wr : World) : Prop where
  fam : FamL wr W.heap.size S VS L
  kn : KInv K gk (fun g => S.ownBlock = some g) wr
  kp : Kp2 gk gk W wr
  js : JsIs wr v (b : Int) (a : Int)
  ne : ∀ g, v.ownBlock = some g → g < wr.heap.size ∧ S.ownBlock ≠ some g
section
variable {K gk b a : Nat} {W wr w' : World} {v S : Value} {L : List (List Int)} {VS : Nat → Value}
theorem GSt.up (h : GSt K gk W v b a L S VS wr) (k : Below wr.heap.size wr w') : GSt K gk W v b a L S VS w' :=
  ⟨h.fam.below k, h.kn.below k, h.kp.trans (Kp2.of_below k), RdI.below h.js k, fun g hg => ⟨Nat.lt_of_lt_of_le (h.ne g hg).1 k.size, (h.ne g hg).2⟩⟩
theorem GSt.app {S' U : Value} {US : Nat → Value} {M : List (List Int)} (h : GSt K gk W v b a L S VS wr) (k : FamL wr W.heap.size U US M) (ho : w'.ownsRow W.heap.size 46 1 S' (L.length + M.length) ((List.range L.length).map VS ++ (List.range M.length).map US)) (hg : wr.grownBy w' S.ownBlock) (hl : S'.ownBlock = S.ownBlock ∨ S'.ownBlock = some wr.heap.size) :
    GSt K gk W v b a (L ++ M) S' (catV VS US L.length) w' := by
  refine ⟨FamL.cat h.fam k ho hg, h.kn.keep (fun q hq hx => hg.block q hq (fun e => hx e.symm)) hg.size fun g e => ?_, h.kp.grown hg fun g e => (h.fam.out.lt g e).1, ?_, fun g e => ?_⟩
  · rcases hl with e2 | e2
    · exact .inl (e2 ▸ e)
    · rw [e2] at e; cases e; exact .inr (Nat.le_refl _)
  · exact RdI.keep h.js fun q hq => hg.block q (h.ne q hq).1 fun e => (h.ne q hq).2 e.symm
  · obtain ⟨h1, h2⟩ := h.ne g e
    refine ⟨Nat.lt_of_lt_of_le h1 hg.size, ?_⟩
    rcases hl with e2 | e2
    · rw [e2]; exact h2
    · rw [e2]; intro e3; cases e3; omega
end
end Go.Proofs.Ytldlpeohdindaaa
end
section
namespace Go.Proofs.Ytldlpeohdindaaa
open Go.RowKit Go.Maps
set_option linter.unusedVariables false
set_option maxRecDepth 100000

theorem fam_src {w : World} {B : Nat} {U : Value} {US : Nat → Value} {M : List (List Int)} (h : FamL w B U US M) : ∃ ap c, U = .slice ap M.length c ∧ ((ap = none ∧ M.length = 0 ∧ c = 0) ∨ ∃ ad, ap = some ad ∧ ∀ j u, ((List.range M.length).map US)[j]? = some u → w.cell? (ad.add j) = some u) := by
  rcases h.out.2 with ⟨e, h0⟩ | ⟨g, cap, cur, e, _, _, _, _, _, _⟩
  · exact ⟨none, 0, by rw [e, h0], .inl ⟨rfl, h0, rfl⟩⟩
  · subst e
    exact ⟨_, cap, rfl, .inr ⟨_, rfl, own_src h.out⟩⟩
theorem fam_one {w : World} {B : Nat} {U : Value} {US : Nat → Value} {M : List (List Int)} (h : FamL w B U US M) : ∀ u ∈ (List.range M.length).map US, u.oneCell' = true := by
  intro u hu
  obtain ⟨i, hi, rfl⟩ := List.mem_map.1 hu
  obtain ⟨a, c, e, _⟩ := own_len (h.inn i (List.mem_range.1 hi))
  rw [e]; rfl
theorem normG_mem {i : Nat} (h1 : 1 ≤ i) (h2 : i ≤ 20) {y : List Int} (h : y ∈ normL (gen i)) : y.length ≤ 6 ∧ ∀ z ∈ y, 1 ≤ z ∧ z ≤ 20 :=
  (gen_facts i (by omega) h1).2 y (par_mem _ _ (((normL_spec _).2 y).1 h))
theorem LL_ok (n b a k : Nat) (h2 : n ≤ 20) (ha : 1 ≤ a ∧ a < n) (hb : 1 ≤ b ∧ b ≤ 16) : ∀ y ∈ LL n b a k, y.length ≤ 12 ∧ ∀ z ∈ y, 1 ≤ z ∧ z ≤ 20 := by
  intro y hy
  rcases List.mem_append.1 hy with hy | hy
  · obtain ⟨x, hx, z, hz, rfl⟩ := jn_mem hy
    have := normG_mem ha.1 (by omega) hx
    rw [List.mem_singleton.1 hz]
    refine ⟨by simp; omega, fun u hu => ?_⟩
    rcases List.mem_append.1 hu with hu | hu
    · exact this.2 u hu
    · rw [List.mem_singleton.1 hu]; omega
  · obtain ⟨j, hj, hy⟩ := List.mem_flatMap.1 hy
    obtain ⟨hj1, hj2⟩ := List.mem_filter.1 hj
    have hm := js_mem (by omega) (List.mem_of_mem_take hj1)
    have hj0 : 0 < j := by simpa using hj2
    obtain ⟨x, hx, z, hz, rfl⟩ := jn_mem hy
    have e1 := normG_mem (by omega) (by omega) hx
    have e2 := normG_mem (by omega) (by omega) hz
    refine ⟨by rw [List.length_append]; omega, fun u hu => ?_⟩
    rcases List.mem_append.1 hu with hu | hu
    · exact e1.2 u hu
    · exact e2.2 u hu
def GwPost (K gk n : Nat) (W : World) (e : Ending) (w' : World) : Prop := ∃ V VS, e = .returned V ∧ FamL w' W.heap.size V VS (normL (gen n)) ∧ Sep (normL (gen n)).length VS ∧ KInv K gk (fun _ => False) w' ∧ Kp2 gk gk W w'

set_option maxHeartbeats 2000000 in
theorem gw_any (K gk n FB N cap : Nat) (W : World) (h1 : 1 ≤ n) (h2 : n ≤ 20) (hN : n ≤ N) (hF : FormsAt W FB n) (hK : KInv K gk (fun _ => False) W) :
    Calls Try.prog 18 #[.int .i64 n, .int .i64 (pw n : Int), .slice (some ⟨FB, 0, none⟩) N cap, .func (.func 36) #[] #[.pointer (some ⟨K, 0, none⟩)]] W (GwPost K gk n W) := by
  obtain ⟨p1, p2, p3⟩ := pw_lt h1 h2
  have p4 := pw_16 n
  have HG1 := Lib.hid fun h => gen_one n (by omega) h1 h
  have HALL := Lib.hid (LL_all n h1 h2)
  have HF := Lib.hid hF
  have HK := Lib.hid hK
  have LT := Lib.hid (lit_one W W (pw n : Int) (Nat.le_refl _) (Below.refl _ _))
  clear hF hK
  generalize pw n = b at *
  by_cases h0 : n = b
  · have HG : Hid (normL (gen n) = [[(b : Int)]]) := Lib.hid (by
      rw [HG1.out h0, h0]
      exact (normL_eq (List.pairwise_singleton _ _) fun z => by rw [par_nodup [[(b : Int)]] (by simp)]).symm)
    have e0 : (n : Int) = (b : Int) := by omega
    clear HG1 HALL
    rw [e0]
    go_enter Try.func18, Try.ntmps18
    go_wp2_with fail
    go_ret
    exact ⟨_, _, rfl, by rw [HG.out]; exact LT.out.fam, by rw [HG.out]; exact LT.out.sep, HK.out.below LT.out.bel, Kp2.of_below LT.out.bel⟩
  · obtain ⟨a, ha⟩ : ∃ a, n - b = a := ⟨_, rfl⟩
    have e1 : (n : Int) - (b : Int) = (a : Int) := by omega
    have hne : ¬ (n : Int) = (b : Int) := by omega
    have ha1 : 1 ≤ a ∧ a < n := by omega
    have hab : a < b := by omega
    have HLL : Hid (∀ y, par (LL n b a (js (b : Int) (a : Int)).length) y ↔ par (gen n) y) := Lib.hid (by have := HALL.out h0; rw [ha] at this; exact this)
    have hwa : IntKind.i64.wrap (a : Int) = (a : Int) := by rw [IntKind.wrap_i64]; omega
    obtain ⟨Va, hca, hra⟩ := HF.out a ha1.1 ha1.2
    obtain ⟨g1, g2⟩ := normG ha1.1 (by omega)
    have JN := Lib.hid (joined_any Va _ (normL (gen a)) [[(b : Int)]] _ (hra.below LT.out.bel) (Fam.rdr LT.out.fam) (by omega) (by simp) (fun i => by have := g2 i; omega) (fun i => by
      rcases i with _ | i
      · simp [rowsOf]
      · simp [rowsOf]))
    have cF : (((W.alloc (.cells #[.int .i64 (b : Int)] 2)).alloc (.cells #[.slice (some ⟨W.heap.size, 0, none⟩) 1 1] 46))).cell? ⟨FB, a, none⟩ = some Va := (LT.out.bel.cell (p := ⟨FB, a, none⟩) (World.block_lt_of_cell? W _ hca)).trans hca
    have haN : (a : Int) < (N : Int) := by omega
    clear HG1 HALL ha h0 hca hra g1 g2
    go_enter Try.func18, Try.ntmps18
    go_wp2_with fail
    refine JN.out.mono ?_
    rintro e w2 ⟨V2, VS2, rfl, s2⟩
    have F2 := Lib.hid (Fam.base s2.fam LT.out.bel.size)
    have B2 := Lib.hid (LT.out.bel.trans (s2.bel.mono LT.out.bel.size))
    have K2 : Hid (KInv K gk (fun g => V2.ownBlock = some g) w2) := Lib.hid (HK.out.keep (fun q hq _ => B2.out.block q hq) B2.out.size fun g e => .inr (F2.out.out.lt g e).1)
    have RL := Lib.hid (relK_any K gk (fun g => V2.ownBlock = some g) (a : Int) (b : Int) w2 (fun g e => (F2.out.out.lt g e).2) K2.out ⟨by omega, by omega, by omega, by omega⟩)
    clear s2 JN cF
    go_wp2_with fail
    refine RL.out.mono ?_
    rintro e w3 ⟨v, rfl, jv, sv, k3, kp3⟩
    have F3 : FamL w3 W.heap.size V2 VS2 (jn (normL (gen a)) [[(b : Int)]]) := ⟨own_kp F2.out.out K2.out.m1 K2.out.m1 kp3, fun i hi => own_kp (F2.out.inn i hi) K2.out.m1 K2.out.m1 kp3⟩
    have G0 : Hid (GSt K gk W v b a (LL n b a 0) V2 VS2 w3) := Lib.hid ⟨by rw [LL_zero]; exact F3, k3, (Kp2.of_below B2.out).trans kp3, jv, fun g hg => ⟨(sv g hg).1, (sv g hg).2⟩⟩
    obtain ⟨av, cv, rfl, _, _⟩ := id jv
    have JLEN := js_len (b : Int) (a : Int) (by omega)
    clear F3 jv sv k3 kp3 RL F2 K2 B2
    go_wp2_with fail
    go_loopw [10, 35] (fun S c wr => ∃ (k : Nat) (VS : Nat → Value), k ≤ (js (b : Int) (a : Int)).length ∧ c = .int .i64 k ∧ Hid ((LL n b a k).length ≤ 5 + k * 25) ∧ Hid (GSt K gk W (.slice av (js (b : Int) (a : Int)).length cv) b a (LL n b a k) S VS wr)) (fun _ c _ => (js (b : Int) (a : Int)).length - (intOf c).toNat)
    case atStart => exact ⟨0, VS2, Nat.zero_le _, rfl, Lib.hid (by rw [LL_zero, jn_len]; have := (normG ha1.1 (by omega)).1; simp; omega), G0⟩
    case round =>
      clear G0
      obtain ⟨k, VS, hk, rfl, hl, hG⟩ := hrel
      by_cases hlt : k < (js (b : Int) (a : Int)).length
      · have hlt' : (k : Int) < ((js (b : Int) (a : Int)).length : Int) := by omega
        obtain ⟨j, hj, hj0, hj2, htk⟩ := js_at (b : Int) (a : Int) (by omega) k hlt
        obtain ⟨a9, c9, e9, _, hcj⟩ := hG.out.js
        cases e9
        obtain ⟨bv, ov, rfl, hcj2⟩ := hcj.resolve_left (by omega)
        have cj := hcj2 k hlt
        simp only [hj] at cj
        clear hcj hcj2 hj
        by_cases hjp : 0 < j
        · obtain ⟨q, rfl⟩ : ∃ q : Nat, j = (q : Int) := ⟨j.toNat, by omega⟩
          have LY := LL_yes n b a k (q : Int) htk hjp
          rw [Int.toNat_natCast] at LY
          obtain ⟨c, hc⟩ : ∃ c, n - q = c := ⟨_, rfl⟩
          rw [hc] at LY
          have hcq : (n : Int) - (q : Int) = (c : Int) := by omega
          have hwc : IntKind.i64.wrap (c : Int) = (c : Int) := by rw [IntKind.wrap_i64]; omega
          have GD := Lib.hid (hG.out.up (Below.refl _ _).drew)
          have FD := HF.out.kpK HK.out.m1 GD.out.kp
          obtain ⟨Vc, kc, rc⟩ := FD c (by omega) (by omega)
          obtain ⟨Vq, kq, rq⟩ := FD q (by omega) (by omega)
          have kc' : wr.cell? ⟨FB, c, none⟩ = some Vc := kc
          have kq' : wr.cell? ⟨FB, q, none⟩ = some Vq := kq
          obtain ⟨g1, g2⟩ := normG (i := c) (by omega) (by omega)
          obtain ⟨g3, g4⟩ := normG (i := q) (by omega) (by omega)
          have JN := Lib.hid (joined_any Vc Vq _ _ wr.drew rc rq (by omega) (by omega) (fun i => by have := g2 i; omega) (fun i => by have := g4 i; omega))
          have ML : (jn (normL (gen c)) (normL (gen q))).length ≤ 25 := by rw [jn_len]; exact Nat.le_trans (Nat.mul_le_mul g1 g3) (by omega)
          have HLY := Lib.hid LY
          have LK := hl.out
          have hcN : (c : Int) < (N : Int) := by omega
          have hqN : (q : Int) < (N : Int) := by omega
          have LK2 : (LL n b a (k + 1)).length ≤ 5 + (k + 1) * 25 := by rw [LY, List.length_append]; omega
          clear kc kq rc rq g1 g2 g3 g4 FD htk hc LY hl hG
          generalize jn (normL (gen c)) (normL (gen q)) = M at *
          go_wp2_with fail
          go_region_law (first
            | (go_simp; go_at_call 32; refine JN.out.mono ?_; rintro e w7 ⟨U, US, rfl, s7⟩; obtain ⟨ua, uc, rfl, hsrc⟩ := fam_src s7.fam; have G7 := Lib.hid (GD.out.up s7.bel); have F7 := Lib.hid (Fam.base s7.fam GD.out.kp.size); have SRC := Lib.hid hsrc; have ONE := Lib.hid (fam_one s7.fam); clear s7 hsrc)
            | (refine step_rows_at (by rfl) _ _ (by rfl) W.heap.size (LL n b a k).length _ _ (by rfl) G7.out.fam.out _ M.length _ ((List.range M.length).map US) (by rfl) SRC.out (by simp) ONE.out (by omega) G7.out.kp.size ?_; intro V8 w8 ho8 hg8 hl8; have G8 := Lib.hid (G7.out.app F7.out ho8 hg8 hl8); clear ho8 hg8 hl8))
          all_goals
            go_wp2_with fail
            go_roundw
            case rel => exact ⟨k + 1, catV VS US (LL n b a k).length, by omega, by go_num, Lib.hid LK2, Lib.hid (by rw [HLY.out]; exact G8.out)⟩
            case measure => simp [intOf]; omega
        · have LN := Lib.hid (LL_no n b a k j htk hjp)
          have LK := hl.out
          clear htk
          go_wp2_with fail
          go_roundw
          case rel => exact ⟨k + 1, VS, by omega, by go_num, Lib.hid (by rw [LN.out]; omega), Lib.hid (by rw [LN.out]; exact hG.out)⟩
          case measure => simp [intOf]; omega
      · obtain rfl : k = (js (b : Int) (a : Int)).length := by omega
        have OK := LL_ok n b a (js (b : Int) (a : Int)).length h2 ha1 (by omega)
        obtain ⟨L, hL⟩ : ∃ L, LL n b a (js (b : Int) (a : Int)).length = L := ⟨_, rfl⟩
        rw [hL] at hG hl HLL OK
        have R := rows_short (zs := L) (T := L) (l := 12)
        have SU := sumOfTerms_par _ (.slice none 0 0) L.length 0 (rowsOf L) (fun _ => []) wr hG.out.fam.rdss ⟨⟨none, 0, rfl⟩, Nat.zero_le _, fun _ => undef, .inl rfl, fun i hi => absurd hi (Nat.not_lt_zero _)⟩ (by have := hl.out; omega) (by omega)
          (fun i hi => by unfold rowsOf; rw [List.getElem?_eq_getElem hi]; have := (OK _ (List.getElem_mem hi)).1; simp only [Option.getD_some]; omega) (fun i hi => absurd hi (Nat.not_lt_zero _))
          (fun i hi z hz => by unfold rowsOf at hz; rw [List.getElem?_eq_getElem hi] at hz; have := (OK _ (List.getElem_mem hi)).2 z hz; exact wf64 z (by omega) (by omega)) (fun i hi => absurd hi (Nat.not_lt_zero _)) sort_any
        rw [rowsL_of, show rowsL (fun _ => ([] : List Int)) 0 = [] from rfl, List.append_nil] at SU
        have SU := Lib.hid SU
        have LFI := js_len (b : Int) (a : Int) (by omega)
        clear OK R hL
        generalize (js (b : Int) (a : Int)).length = m at *
        go_wp2_with fail
        refine SU.out.mono ?_
        rintro e w5 ⟨V5, VS5, zs, rfl, f5, s5, b5, a5, m5⟩
        obtain rfl := normL_eq a5 (fun y => (m5 y).trans (HLL.out y))
        have D5 : Hid (FamL w5 W.heap.size V5 VS5 (normL (gen n)) ∧ KInv K gk (fun _ => False) w5 ∧ Kp2 gk gk W w5) := Lib.hid ⟨Fam.base f5 hG.out.kp.size, (hG.out.kn.below b5).keep (fun _ _ _ => rfl) (Nat.le_refl _) (fun g hg => hg.elim), hG.out.kp.trans (Kp2.of_below b5)⟩
        have HS5 := Lib.hid s5
        clear f5 s5 b5 a5 m5 SU
        go_wp2_with fail
        go_ret
        exact ⟨V5, VS5, rfl, D5.out.1, HS5.out, D5.out.2.1, D5.out.2.2⟩
end Go.Proofs.Ytldlpeohdindaaa
end
section
namespace Go.Proofs.Ytldlpeohdindaaa
open Go.RowKit Go.Maps
set_option linter.unusedVariables false
set_option maxRecDepth 100000

theorem dsum_sum (xs : List Int) : ∀ n, n ≤ xs.length → dsum (gOf xs) n = (xs.take n).sum
  | 0, _ => rfl
  | n + 1, h => by
    rw [dsum, dsum_sum xs n (by omega), List.take_add_one, List.sum_append]
    unfold gOf
    rw [List.getElem?_eq_getElem (by omega)]
    simp
theorem sumL_sum (xs : List Int) : sumL xs = xs.sum := by
  unfold sumL
  rw [dsum_sum xs _ (Nat.le_refl _), List.take_length]
theorem isW_LW {xs : List Int} (h : isW xs) : LW xs := by
  obtain ⟨_, h2⟩ := h
  refine ⟨fun x hx => ?_, ?_⟩
  · obtain ⟨i, hi, rfl⟩ := List.getElem_of_mem hx
    have := (h2 i hi).1
    unfold gOf at this
    rw [List.getElem?_eq_getElem hi] at this
    exact this
  · rw [← sumL_sum]
    unfold sumL
    cases hn : xs.length with
    | zero => simp [dsum]
    | succ n => have := (h2 n (by omega)).2; exact this

/-- The result's box is written, the result is there. -/
theorem resS_put {w w1 : World} {U : Value} {US : Nat → Value} {L : List (List Int)} {x : Value} {B g : Nat} (f : FamL w1 B U US L) (hB : w.heap.size ≤ B) (b : Below w.heap.size w w1) (hx : Box1 w1 g 24 x) (hg : w.heap.size ≤ g) :
    FamL (w1.setCell ⟨g, 0, none⟩ U) w.heap.size U US L ∧ Below w.heap.size w (w1.setCell ⟨g, 0, none⟩ U) ∧ Box1 (w1.setCell ⟨g, 0, none⟩ U) g 24 U :=
  ⟨FamL.off_box (Fam.base f hB) (OneOff.set _ _ _) hx, b.setCell (p := ⟨g, 0, none⟩) hg U, hx.set U⟩

/-- The two boxes of an argument and a result. -/
structure Two (w : World) (V : Value) (W : World) : Prop where
  bel : Below w.heap.size w W
  a : Box1 W w.heap.size 24 V
  r : Box1 W (w.heap.size + 1) 24 (.slice none 0 0)
theorem Two.start (w : World) (V : Value) : Two w V ((w.alloc (.cells #[V] 24)).alloc (.cells #[.slice none 0 0] 24)) := by
  refine ⟨((Below.refl w.heap.size w).alloc (Nat.le_refl _) _).alloc (by simp) _, (Box1.new w _ _).alloc _, ?_⟩
  have := Box1.new (w.alloc (.cells #[V] 24)) 24 (.slice none 0 0)
  simpa using this
theorem Two.up {w W W' : World} {V : Value} (h : Two w V W) (k : Below W.heap.size W W') : Two w V W' := ⟨h.bel.step1 k, h.a.up k, h.r.up k⟩
theorem Two.nil {w W : World} {V : Value} (h : Two w V W) (cd : Int) : ResS [] cd w (.returned (.tuple #[.agg #[.slice none 0 0], .int .i64 cd])) W :=
  ⟨_, fun _ => undef, rfl, ⟨World.ownsRow_nil _ _ _ _, fun i hi => absurd hi (Nat.not_lt_zero _)⟩, fun i j hi => absurd hi (Nat.not_lt_zero _), h.bel⟩

end Go.Proofs.Ytldlpeohdindaaa
end
