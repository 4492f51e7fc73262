/-
  Joined: RSum, RTSum, RTimes.
-/
import Derived.Test.YtldlpeohdindaaaZeneratorForm22
import Derived.Test.YtldlpeohdindaaaZeneratorForm24
import Derived.Test.YtldlpeohdindaaaZeneratorForm25
import Derived.Maps.AppendAt
section
namespace Go.Proofs.Ytldlpeohdindaaa
open Go.RowKit Go.Maps
set_option linter.unusedVariables false
set_option maxRecDepth 100000

theorem flat_len8 : ∀ (ks : List (Array Value)), (∀ k ∈ ks, KOKP k) → (ks.flatMap Array.toList).length = ks.length * 8
  | [], _ => rfl
  | k :: ks, h => by
    rw [List.flatMap_cons, List.length_append, flat_len8 ks fun x hx => h x (List.mem_cons_of_mem _ hx), Array.length_toList, (h k List.mem_cons_self).size, List.length_cons]
    omega
theorem wpList_appQ {ops : Array Oper} {rest : List Oper} {o : Oper} {a : Act} {Q : Exit → Act → World → Prop} (w : World) (hgd : o.guard = none) (s x : Operand)
    (ho : o.op = .call { callee := .builtin .append, args := #[s, x], argTypes := #[70, 70] }) (B : Nat) (v : Value) (ks : List (Array Value)) (hs : a.eval s = v) (hown : OwnP w B v ks)
    (u : Value) (qs : List (Array Value)) (hx : a.eval x = u) (hsrc : RdQ w u qs) (hq : ∀ k ∈ qs, KOKP k) (hn : ks.length + qs.length ≤ 1000000000) (hB : B ≤ w.heap.size)
    (h : ∀ v' w', OwnP w' B v' (ks ++ qs) → w.grownBy w' v.ownBlock → (v'.ownBlock = v.ownBlock ∨ v'.ownBlock = some w.heap.size) → wpList Try.prog ops Q rest (a.put o.dst v') w') : wpList Try.prog ops Q (o :: rest) a w := by
  obtain ⟨i0, hi, hz0, hz1, hz2⟩ := info_parts infoEP
  obtain ⟨ap, c, rfl, hm, hc⟩ := hsrc
  rcases hc with ⟨rfl, h0, rfl⟩ | ⟨b, off, rfl, hc⟩
  · obtain rfl : qs = [] := List.eq_nil_of_length_eq_zero h0
    refine wpList_append_own_none hgd s x 70 ho B 72 i0 8 Try.underlying70 hi v ks.length _ hs hown hx ?_
    exact h v w (by simpa using hown) (World.grownBy.refl w _) (.inl rfl)
  · have hl := flat_len8 qs hq
    refine wpList_append_own_at w hgd s x 70 ho B 72 i0 _ 8 8 Try.underlying70 hi hz0 hz1 hz2 rfl (by decide) v ks.length _ hs hown ⟨b, off, none⟩ qs.length c (qs.flatMap Array.toList) hx hl ?_ ?_ (by unfold maxLen; omega) (by omega) hB ?_
    · intro j u hj
      have hjl : j < qs.length * 8 := by rw [← hl]; exact (List.getElem?_eq_some_iff.1 hj).1
      have hd : j / 8 < qs.length := by omega
      have e := flat_at 8 qs (fun k hk => (hq k hk).size) (j / 8) hd (j % 8) (by omega)
      rw [show j / 8 * 8 + j % 8 = j by omega, hj] at e
      rw [Addr.add_mid]
      have := hc (j / 8) hd (j % 8) u e.symm
      rw [show off + j / 8 * 8 + j % 8 = off + j by omega] at this
      exact this
    · intro u hu
      obtain ⟨k, hk, hu⟩ := List.mem_flatMap.1 hu
      exact (Array.all_eq_true_iff_forall_mem.1 (hq k hk).one) u (by simpa using hu)
    · intro v' w' h2 h3 _ h5
      refine h v' w' ?_ h3 h5
      unfold OwnP
      rw [List.length_append, List.flatMap_append]
      exact h2

/-! ### Plain -/
theorem par_iff_append {A B C D : List (List Int)} (h1 : ∀ y, par A y ↔ par C y) (h2 : ∀ y, par B y ↔ par D y) : ∀ y, par (A ++ B) y ↔ par (C ++ D) y := fun y => by rw [par_append, par_append, h1, h2]
/-- A list of different words stands for its own. -/
theorem par_of_mem {L T : List (List Int)} (hn : L.Nodup) (h : ∀ y, y ∈ L ↔ par T y) : ∀ y, par L y ↔ par T y := fun y => by rw [par_nodup L hn, h]
theorem admF_zero (x : List Int) : admF 1700 0 x = [x] := by cases x <;> simp [admF]
theorem admF_ge {n : Int} {x : List Int} (h0 : n ≠ 0) (h : x = [] ∨ ∃ b r, x = b :: r ∧ 2 * b ≤ n) : admF 1700 n x = [n :: x] := by
  rcases h with rfl | ⟨b, r, rfl, h⟩
  · simp [admF, h0]
  · simp [admF, h0, h]
/-- What is asked of the arguments of a product. -/
structure okT (n : Int) (x : List Int) : Prop where
  n0 : 0 ≤ n
  adm : isAdm x
  sum : n + x.sum ≤ 40
theorem okT.mu {n : Int} {x : List Int} (h : okT n x) : mu n x < 1700 := mu_lt h.n0 (isAdm_sum h.adm) h.sum
theorem okT.out {n : Int} {x : List Int} (h : okT n x) : ∀ y ∈ admF 1700 n x, isAdm y ∧ y.sum = n + x.sum := admF_ok 1700 n x h.n0 h.adm h.sum h.mu
theorem okT.fit {n : Int} {x : List Int} (h : okT n x) : fits x := adm_fits h.adm (by have := h.n0; have := h.sum; omega)
theorem okT.step {n b j : Int} {r : List Int} (h : okT n (b :: r)) (h0 : n ≠ 0) (hlt : n < 2 * b) (h1 : 0 ≤ j) (h2 : 2 * j ≤ n) :
    okT j r ∧ Go.Proofs.Ytldlpeohdindaaa.mu j r < Go.Proofs.Ytldlpeohdindaaa.mu n (b :: r) ∧ ∀ z ∈ admF 1700 j r, okT (n + b - j) z ∧ Go.Proofs.Ytldlpeohdindaaa.mu (n + b - j) z < Go.Proofs.Ytldlpeohdindaaa.mu n (b :: r) := by
  have hb := isAdm_pos h.adm
  have hr := isAdm_tail h.adm
  have hrs := isAdm_sum hr
  have hs := h.sum
  have hn0 := h.n0
  have h41 := hs
  rw [List.sum_cons] at h41
  have o1 : okT j r := ⟨h1, hr, by omega⟩
  refine ⟨o1, mu_rest (by omega) hb ⟨h1, h2⟩ hrs hs, fun z hz => ?_⟩
  obtain ⟨a1, a2⟩ := o1.out z hz
  exact ⟨⟨by omega, a1, by rw [a2]; omega⟩, mu_step (by omega) hb hlt ⟨h1, h2⟩ hrs a2 hs⟩
theorem admF_lt {n b : Int} {r : List Int} (h : okT n (b :: r)) (h0 : n ≠ 0) (hlt : n < 2 * b) : admF 1700 n (b :: r) = (js b n).flatMap fun j => (admF 1700 j r).flatMap fun z => admF 1700 (n + b - j) z := by
  rw [admF_rec 1699 n b r h0 hlt]
  refine flatMap_congr fun j hj => ?_
  obtain ⟨h1, h2⟩ := js_mem h.n0 hj
  obtain ⟨o1, m1, o2⟩ := h.step h0 hlt h1 h2
  have mm := h.mu
  rw [admF_fuel 1699 1700 j r h1 o1.adm o1.sum (by omega) o1.mu]
  refine flatMap_congr fun z hz => ?_
  obtain ⟨o3, m3⟩ := o2 z hz
  exact admF_fuel 1699 1700 _ z o3.n0 o3.adm o3.sum (by omega) o3.mu

/-- What a method returns: the words that occur an odd number of times in T. -/
def RedPost (R K gk gp : Nat) (X : Nat → Prop) (T : List (List Int)) (w : World) (e : Ending) (w' : World) : Prop :=
  ∃ (u : Value) (L : List (List Int)), e = .returned u ∧ L.Nodup ∧ (∀ y, y ∈ L ↔ par T y) ∧ RdQ w' u (L.map packK) ∧ RInv R K gk gp X w' ∧ Kp2 gk gp w w'
def TimesAt (R K gk gp f : Nat) : Prop := ∀ (X : Nat → Prop) (n : Int) (x : List Int) (w : World), (∀ g, X g → g < w.heap.size) → RInv R K gk gp X w → okT n x → mu n x < f →
  Calls Try.prog 68 #[.pointer (some ⟨R, 0, none⟩), .int .i64 n, .agg (packK x)] w (RedPost R K gk gp X (admF 1700 n x) w)
def TimesSumAt (R K gk gp f : Nat) : Prop := ∀ (X : Nat → Prop) (n : Int) (L : List (List Int)) (v : Value) (w : World), (∀ g, X g → g < w.heap.size) → RInv R K gk gp X w → RdQ w v (L.map packK) → L.length ≤ 100 → (∀ x ∈ L, okT n x ∧ mu n x < f) →
  Calls Try.prog 53 #[.pointer (some ⟨R, 0, none⟩), .int .i64 n, v] w (RedPost R K gk gp X (L.flatMap (admF 1700 n)) w)

/-- impl.sumOfLists of one list of words. -/
theorem sum_words (v : Value) (A T : List (List Int)) (B : Nat) (w : World) (ho : OwnP w B v (A.map packK)) (hf : ∀ y ∈ A, fits y) (hl : A.length ≤ 500000000) (hp : ∀ y, par A y ↔ par T y) :
    Calls Try.prog 54 #[v, .slice none 0 0] w fun e w' => ∃ (u : Value) (L : List (List Int)), e = .returned u ∧ L.Nodup ∧ (∀ y, y ∈ L ↔ par T y) ∧ OwnP w' w.heap.size u (L.map packK) ∧ (∀ y ∈ L, fits y) ∧ Below w.heap.size w w' := by
  refine (sumOfP v (.slice none 0 0) (A.map packK) [] w (rdP_of_own ho (packs_ok hf)) ⟨none, 0, rfl, Nat.zero_le _, .inl rfl⟩ (packs_ok hf) (by simp) (by rw [List.length_map]; exact hl) (by simp) colP).mono ?_
  rintro e w' ⟨u, rs, rfl, ho2, hb, hnd, hm⟩
  have hpk : pkL A = A.map packK := by
    unfold pkL
    rw [List.filter_eq_self.2 fun y hy => decide_eq_true (hf y hy)]
  obtain ⟨ts, rfl, h1, h2, _, h4⟩ := packs A [] rs hnd (fun k => by rw [hm, hpk]; rfl)
  refine ⟨u, ts, rfl, h1, fun y => ?_, ho2, h2, hb⟩
  rw [h4, List.append_nil, hp]
  exact ⟨fun h => h.2, fun h => ⟨hf y (par_mem _ _ ((hp y).2 h)), h⟩⟩

/-! ### A list that a method collects -/
/-- The list S of words A; T: what they stand for. -/
structure TSt (R K gk gp : Nat) (X : Nat → Prop) (w : World) (T : List (List Int)) (S : Value) (A : List (List Int)) (wr : World) : Prop where
  own : OwnP wr w.heap.size S (A.map packK)
  par : ∀ y, Go.Proofs.Ytldlpeohdindaaa.par A y ↔ Go.Proofs.Ytldlpeohdindaaa.par T y
  fit : ∀ y ∈ A, fits y
  inv : RInv R K gk gp (fun g => X g ∨ S.ownBlock = some g) wr
  kp : Kp2 gk gp w wr
theorem TSt.start {R K gk gp : Nat} {X : Nat → Prop} {w wr : World} (h : RInv R K gk gp X wr) (k : Kp2 gk gp w wr) : TSt R K gk gp X w [] (.slice none 0 0) [] wr :=
  ⟨World.ownsRow_nil _ _ _ _, fun y => Iff.rfl, by simp, h.mono fun g hg => hg.elim id (fun e => by cases e), k⟩
theorem TSt.low {R K gk gp : Nat} {X : Nat → Prop} {w wr : World} {T A : List (List Int)} {S : Value} (h : TSt R K gk gp X w T S A wr) (hX : ∀ g, X g → g < w.heap.size) : ∀ g, (X g ∨ S.ownBlock = some g) → g < wr.heap.size := fun g hg => hg.elim (fun k => by have := hX g k; have := h.kp.size; omega) (fun e => (h.own.lt g e).2)
theorem TSt.up {R K gk gp : Nat} {X : Nat → Prop} {w wr w' : World} {T A : List (List Int)} {S : Value} (h : TSt R K gk gp X w T S A wr) (k : Below wr.heap.size wr w') : TSt R K gk gp X w T S A w' :=
  ⟨own_below h.own k, h.par, h.fit, h.inv.below k, h.kp.trans (Kp2.of_below k)⟩
/-- Behind a call of a method. -/
theorem TSt.call {R K gk gp : Nat} {X : Nat → Prop} {w wr w' : World} {T A : List (List Int)} {S : Value} (h : TSt R K gk gp X w T S A wr) (hi : RInv R K gk gp (fun g => X g ∨ S.ownBlock = some g) w') (k : Kp2 gk gp wr w') : TSt R K gk gp X w T S A w' :=
  ⟨own_kp h.own h.inv.m1 h.inv.m2 k, h.par, h.fit, hi, h.kp.trans k⟩
/-- Behind an append. -/
theorem TSt.app {R K gk gp : Nat} {X : Nat → Prop} {w wr w' : World} {T T2 A B : List (List Int)} {S S' : Value} (h : TSt R K gk gp X w T S A wr) (ho : OwnP w' w.heap.size S' (A.map packK ++ B.map packK)) (hg : wr.grownBy w' S.ownBlock) (hl : S'.ownBlock = S.ownBlock ∨ S'.ownBlock = some wr.heap.size)
    (hp : ∀ y, Go.Proofs.Ytldlpeohdindaaa.par B y ↔ Go.Proofs.Ytldlpeohdindaaa.par T2 y) (hf : ∀ y ∈ B, fits y) : TSt R K gk gp X w (T ++ T2) S' (A ++ B) w' := by
  refine ⟨by rw [List.map_append]; exact ho, par_iff_append h.par hp, fun y hy => (List.mem_append.1 hy).elim (h.fit y) (hf y), ?_, h.kp.grown hg fun g e => (h.own.lt g e).1⟩
  refine h.inv.keep (fun b hb hx => hg.block b hb (fun e => hx (.inr e.symm))) hg.size fun g hg' => ?_
  rcases hg' with k | k
  · exact .inl (.inl k)
  · rcases hl with e | e
    · exact .inl (.inr (e ▸ k))
    · rw [e] at k
      cases k
      exact .inr (Nat.le_refl _)
/-- The sum at the end. -/
theorem TSt.sum {R K gk gp : Nat} {X : Nat → Prop} {w wr : World} {T A : List (List Int)} {S : Value} (h : TSt R K gk gp X w T S A wr) (hl : A.length ≤ 500000000) :
    Calls Try.prog 54 #[S, .slice none 0 0] wr fun e w' => ∃ (u : Value) (L : List (List Int)), e = .returned u ∧ L.Nodup ∧ (∀ y, y ∈ L ↔ Go.Proofs.Ytldlpeohdindaaa.par T y) ∧ OwnP w' wr.heap.size u (L.map packK) ∧ (∀ y ∈ L, fits y) ∧ RInv R K gk gp X w' ∧ Kp2 gk gp w w' ∧ Below wr.heap.size wr w' :=
  (sum_words S A T w.heap.size wr h.own h.fit hl h.par).mono fun e w' ⟨u, L, h1, h2, h3, h4, h5, h6⟩ => ⟨u, L, h1, h2, h3, h4, h5, (h.inv.below h6).mono fun g hg => .inl hg, h.kp.trans (Kp2.of_below h6), h6⟩
/-- Words of one degree. -/
theorem few_of {L T : List (List Int)} (hn : L.Nodup) (h : ∀ y, y ∈ L ↔ par T y) {d : Int} (h0 : 0 ≤ d) (hd : d ≤ 40) (hT : ∀ y ∈ T, isAdm y ∧ y.sum = d) : L.length ≤ 100 ∧ ∀ y ∈ L, isAdm y ∧ y.sum = d := by
  have hL : ∀ y ∈ L, isAdm y ∧ y.sum = d := fun y hy => hT y (par_mem _ _ ((h y).1 hy))
  refine ⟨adm_few L hn d.toNat (by omega) fun y hy => ⟨(hL y hy).1, by rw [(hL y hy).2]; omega⟩, hL⟩

end Go.Proofs.Ytldlpeohdindaaa
end
section
namespace Go.Proofs.Ytldlpeohdindaaa
open Go.RowKit Go.Maps
set_option linter.unusedVariables false
set_option maxRecDepth 100000

theorem take_word (L : List (List Int)) (k : Nat) (h : k < L.length) : ∃ x, L[k]? = some x ∧ x ∈ L ∧ L.take (k + 1) = L.take k ++ [x] ∧ (L.map packK)[k]?.getD #[] = packK x :=
  ⟨L[k], List.getElem?_eq_getElem h, List.getElem_mem h, by rw [List.take_add_one, List.getElem?_eq_getElem h]; rfl, by rw [List.getElem?_map, List.getElem?_eq_getElem h]; rfl⟩

set_option maxHeartbeats 1000000 in
theorem timesSum_of (R K gk gp f : Nat) (T : TimesAt R K gk gp f) : TimesSumAt R K gk gp f := by
  intro X n L v w hX hI hv hlen hok
  have T := Lib.hid T
  have HX := Lib.hid hX
  have HOK := Lib.hid hok
  have HF : Hid (∀ y ∈ L, fits y) := Lib.hid fun y hy => (hok y hy).1.fit
  have HV := Lib.hid hv
  have S0 := Lib.hid (TSt.start (w := w) hI (Kp2.refl gk gp w))
  have M1 := Lib.hid hI.m1
  have M2 := Lib.hid hI.m2
  obtain ⟨a, cap, rfl, hm, hc⟩ := hv
  have HC := Lib.hid hc
  rw [List.length_map] at *
  clear hX hI hok hc
  go_enter Try.func53, Try.ntmps53
  go_wp2_with fail
  go_loopw [7, 9, 12] (fun S _ c wr => ∃ (k : Nat) (A : List (List Int)), k ≤ L.length ∧ c = .int .i64 k ∧ A.length ≤ k * 100 ∧ Hid (TSt R K gk gp X w ((L.take k).flatMap (admF 1700 n)) S A wr)) (fun _ _ c _ => L.length - (intOf c).toNat)
  case atStart => exact ⟨0, [], Nat.zero_le _, rfl, Nat.zero_le _, S0⟩
  case round =>
    clear S0
    obtain ⟨k, A, hk, rfl, hA, hS⟩ := hrel
    by_cases hlt : k < L.length
    · have hlt' : (k : Int) < (L.length : Int) := by omega
      rcases HC.out with ⟨_, h0, _⟩ | ⟨b, off, rfl, _⟩
      · omega
      · obtain ⟨x, hx, hxm, ht, hpk⟩ := take_word L k hlt
        obtain ⟨o1, o2⟩ := HOK.out x hxm
        have HVr := HV.out.kp (packs_ok HF.out) M1.out M2.out hS.out.kp
        obtain ⟨a', cap', e', _, hcr⟩ := HVr
        rw [List.length_map] at e' hcr
        cases e'
        rcases hcr with ⟨h1, _⟩ | ⟨b', off', e2, hcr⟩
        · cases h1
        · cases e2
          have hrk := hcr k hlt
          rw [hpk] at hrk
          obtain ⟨kx, hkx⟩ : ∃ kx, packK x = kx := ⟨_, rfl⟩
          have KO : KOKP kx := by rw [← hkx]; exact packK_ok x o1.fit
          rw [hkx] at hrk
          have HRK := Lib.hid hrk
          have HSZ := Lib.hid KO.size
          have HONE := Lib.hid KO.one
          have S1 := Lib.hid (hS.out.up ((Below.refl _ wr).alloc (Nat.le_refl _) (.cells kx 72)))
          have C := Lib.hid (T.out _ n x _ (S1.out.low HX.out) S1.out.inv o1 o2)
          rw [hkx] at C
          have OUT := Lib.hid o1.out
          have OT := Lib.hid o1
          have HT : Hid ((L.take (k + 1)).flatMap (admF 1700 n) = (L.take k).flatMap (admF 1700 n) ++ admF 1700 n x) := Lib.hid (by rw [ht, List.flatMap_append, List.flatMap_cons, List.flatMap_nil, List.append_nil])
          clear hrk hcr KO hx hxm ht hpk o2
          go_wp2_with (first | (refine ldKP rfl _ rfl b (off + k * 8) rfl kx HRK.out HSZ.out ?_) | (refine ldKP rfl _ rfl wr.heap.size 0 rfl kx (loadNewP wr kx HSZ.out) HSZ.out ?_) | (refine stKP wr rfl _ _ rfl rfl kx rfl HSZ.out HONE.out ?_))
          refine C.out.mono ?_
          rintro e w2 ⟨u2, L2, rfl, nd2, m2, rd2, i2, k2⟩
          have S2 := Lib.hid (S1.out.call i2 k2)
          have s40 : 0 ≤ n + x.sum ∧ n + x.sum ≤ 40 := ⟨by have := OT.out.n0; have := isAdm_sum OT.out.adm; omega, OT.out.sum⟩
          obtain ⟨l2, q2⟩ := few_of nd2 m2 s40.1 s40.2 OUT.out
          have F2 : Hid (∀ y ∈ L2, fits y) := Lib.hid fun y hy => adm_fits (q2 y hy).1 (by rw [(q2 y hy).2]; exact s40.2)
          have P2 := Lib.hid (par_of_mem nd2 m2)
          have RD2 := Lib.hid rd2
          have hA2 : A.length + L2.length ≤ (k + 1) * 100 := by rw [Nat.succ_mul]; omega
          clear nd2 m2 rd2 i2 k2 q2 s40 C
          go_wp2_with (at_builtin; refine wpList_appQ w2 rfl _ _ rfl w.heap.size _ (A.map packK) rfl S2.out.own u2 (L2.map packK) rfl RD2.out (packs_ok F2.out) (by rw [List.length_map, List.length_map]; omega) S2.out.kp.size ?_; intro v3 w3 ho3 hg3 hl3; have S3 := Lib.hid (S2.out.app ho3 hg3 hl3 P2.out F2.out); clear ho3 hg3 hl3)
          go_roundw
          case rel => exact ⟨k + 1, A ++ L2, by omega, by go_num, by rw [List.length_append]; exact hA2, Lib.hid (by rw [HT.out]; exact S3.out)⟩
          case measure => simp [intOf]; omega
    · obtain rfl : k = L.length := by omega
      have ET : Hid (L.take L.length = L) := Lib.hid (List.take_length)
      rw [ET.out] at hS
      have SM := Lib.hid (hS.out.sum (by omega))
      go_wp2_with fail
      refine SM.out.mono ?_
      rintro e w5 ⟨u5, L5, rfl, nd, m5, o5, f5, i5, k5, _⟩
      go_wp2_with fail
      go_ret
      exact ⟨u5, L5, rfl, nd, m5, RdQ.of_own o5 (packs_ok f5), i5, k5⟩
end Go.Proofs.Ytldlpeohdindaaa
end
section
namespace Go.Proofs.Ytldlpeohdindaaa
open Go.RowKit Go.Maps
set_option linter.unusedVariables false
set_option maxRecDepth 100000

theorem redOne {R K gk gp : Nat} {X : Nat → Prop} {w w' : World} {y : List Int} {T : List (List Int)} {g : Nat} (hT : T = [y]) (hy : fits y) (hI : RInv R K gk gp X w) (hb : Below w.heap.size w w') (hg : w'.heap[g]? = some (.cells (packK y) 72 (0, 0))) :
    RedPost R K gk gp X T w (.returned (.slice (some ⟨g, 0, none⟩) 1 1)) w' := by
  subst hT
  refine ⟨_, [y], rfl, by simp, fun z => by rw [par_nodup [y] (by simp)], ⟨_, _, rfl, by unfold maxLen; simp, .inr ⟨g, 0, rfl, fun i hi => ?_⟩⟩, hI.below hb, Kp2.of_below hb⟩
  have h0 : i = 0 := by simp at hi; omega
  subst h0
  simpa using rangeOfP hg

theorem times_zero (R K gk gp : Nat) (X : Nat → Prop) (x : List Int) (w : World) (hI : RInv R K gk gp X w) (hx : fits x) :
    Calls Try.prog 68 #[.pointer (some ⟨R, 0, none⟩), .int .i64 0, .agg (packK x)] w (RedPost R K gk gp X (admF 1700 0 x) w) := by
  have HI := Lib.hid hI
  have ET := Lib.hid (admF_zero x)
  have HFX := Lib.hid hx
  obtain ⟨kx, hkx⟩ : ∃ kx, packK x = kx := ⟨_, rfl⟩
  have KO : KOKP kx := by rw [← hkx]; exact packK_ok x hx
  have HSZ := Lib.hid KO.size
  have HKO := Lib.hid KO
  have HKX := Lib.hid hkx
  rw [hkx]
  clear hkx KO hI hx
  go_enter Try.func68, Try.ntmps68
  go_wp2_with (first | (refine ldKP rfl _ rfl w.heap.size 0 rfl kx (loadNewP w kx HSZ.out) HSZ.out ?_) | (refine bsKP _ rfl _ rfl kx rfl HKO.out ?_))
  go_ret
  have hb : Below w.heap.size w ((w.alloc (.cells kx 72)).alloc (.cells kx 72)) := ((Below.refl _ w).alloc (Nat.le_refl _) _).alloc (by simp) _
  refine redOne ET.out HFX.out HI.out hb ?_
  have := heap_alloc_new (w.alloc (.cells kx 72)) (.cells kx 72)
  rw [World.size_alloc] at this
  rw [HKX.out]
  exact this

theorem times_ge (R K gk gp : Nat) (X : Nat → Prop) (n first : Int) (x rest : List Int) (w : World) (hI : RInv R K gk gp X w) (hn : 0 < n ∧ n ≤ 40) (hx : fits x) (hnx : fits (n :: x)) (hrest : fits rest) (hf : 0 ≤ first ∧ first ≤ 40) (hge : 2 * first ≤ n) (hT : admF 1700 n x = [n :: x])
    (D : ∀ wx, Calls Try.prog 82 #[.agg (packK x)] wx fun e w' => e = .returned (.tuple #[.int .i64 first, .agg (packK rest)]) ∧ Below wx.heap.size wx w') :
    Calls Try.prog 68 #[.pointer (some ⟨R, 0, none⟩), .int .i64 n, .agg (packK x)] w (RedPost R K gk gp X (admF 1700 n x) w) := by
  have HI := Lib.hid hI
  have ET := Lib.hid hT
  have HNX := Lib.hid hnx
  have D := Lib.hid D
  have A := Lib.hid fun wx => after_word n x hnx wx
  obtain ⟨kx, hkx⟩ : ∃ kx, packK x = kx := ⟨_, rfl⟩
  obtain ⟨kr, hkr⟩ : ∃ kr, packK rest = kr := ⟨_, rfl⟩
  obtain ⟨ky, hky⟩ : ∃ ky, packK (n :: x) = ky := ⟨_, rfl⟩
  have KX : KOKP kx := by rw [← hkx]; exact packK_ok x hx
  have KR : KOKP kr := by rw [← hkr]; exact packK_ok rest hrest
  have KY : KOKP ky := by rw [← hky]; exact packK_ok _ hnx
  have HSX := Lib.hid KX.size
  have HSR := Lib.hid KR.size
  have HOR := Lib.hid KR.one
  have HKY := Lib.hid hky
  have HKO := Lib.hid KY
  rw [hkx, hkr] at D
  rw [hkx, hky] at A
  rw [hkx]
  have hn0 : (n == 0) = false := by rw [beq_eq_false_iff_ne]; omega
  have hw0 : IntKind.i64.wrap (2 * first) = 2 * first := by rw [IntKind.wrap_i64]; omega
  have B1 : Hid (Below w.heap.size w (w.alloc (.cells kx 72))) := Lib.hid ((Below.refl _ w).alloc (Nat.le_refl _) _)
  have R1 : Hid ((w.alloc (.cells kx 72)).rangeAt w.heap.size 0 kx.toList) := Lib.hid (loadNewP w kx HSX.out)
  clear hkx hkr hky KX KR KY hI hx hnx hrest hT
  go_enter Try.func68, Try.ntmps68
  go_wp2_with (first | (refine ldKP rfl _ rfl w.heap.size 0 rfl kx R1.out HSX.out ?_))
  refine (D.out _).mono ?_
  rintro e w2 ⟨rfl, b2⟩
  have hs2 : w.heap.size < w2.heap.size := by have := b2.size; simp at this; omega
  have B3 := Lib.hid ((B1.out.trans (b2.mono (by simp))).alloc (by omega) (.cells kr 72))
  have R3 : Hid ((w2.alloc (.cells kr 72)).rangeAt w.heap.size 0 kx.toList) := Lib.hid fun j v hv => by
    have := (R1.out j v hv)
    exact ((b2.alloc b2.size (.cells kr 72) |>.cell (p := ⟨w.heap.size, 0 + j, none⟩) (by simp))).trans this
  clear b2
  go_wp2_with (first | (refine stKP w2 rfl _ _ rfl rfl kr rfl HSR.out HOR.out ?_) | (refine ldKP rfl _ rfl w.heap.size 0 rfl kx R3.out HSX.out ?_))
  refine (A.out _).mono ?_
  rintro e w4 ⟨rfl, b4⟩
  have B4 := Lib.hid (B3.out.trans (b4.mono B3.out.size))
  clear b4
  go_wp2_with (first | (refine bsKP _ rfl _ rfl ky rfl HKO.out ?_))
  go_ret
  refine redOne ET.out HNX.out HI.out (B4.out.alloc B4.out.size _) ?_
  rw [HKY.out]
  exact heap_alloc_new w4 _
end Go.Proofs.Ytldlpeohdindaaa
end
