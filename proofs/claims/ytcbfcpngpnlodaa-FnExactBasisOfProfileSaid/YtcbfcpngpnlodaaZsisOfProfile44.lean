/-
  Joined: QBaI.
-/
import Derived.Test.YtcbfcpngpnlodaaZsisOfProfile40
import Derived.Test.YtcbfcpngpnlodaaZsisOfProfile43
import Derived.Deep.RegionHeld3
import Derived.Deep.AppendLies
section
namespace Go.Proofs.Ytcbfcpngpnlodaa
open Go Go.RowKit Go.Maps
set_option linter.unusedVariables false
set_option maxRecDepth 100000

open Classical in
noncomputable def keyB (X : Nat → List Int) (K : Array Value) (t : Nat) : Bool := decide (kyX (X t) = K)
theorem keyB_iff {X : Nat → List Int} {K : Array Value} {t : Nat} : keyB X K t = true ↔ kyX (X t) = K := by simp [keyB]
theorem grpQ_idx (X : Nat → List Int) (VS : Nat → Value) (K : Array Value) : ∀ j, grpQ X VS j K = (idxB (keyB X K) j).map VS
  | 0 => rfl
  | j + 1 => by
    rw [idxB_succ, List.map_append, ← grpQ_idx X VS K j]
    by_cases h : kyX (X j) = K
    · have e : grpQ X VS (j + 1) K = grpQ X VS j K ++ [VS j] := by
        rw [grpQ]
        exact if_pos h
      rw [e, if_pos (keyB_iff.2 h)]
      rfl
    · have e : grpQ X VS (j + 1) K = grpQ X VS j K := by
        rw [grpQ]
        exact if_neg h
      rw [e, if_neg (fun h' => h (keyB_iff.1 h'))]
      simp
/-- The list has been seen. -/
def visQ (X : Nat → List Int) (left : Lit → Bool) (t : Nat) : Prop := ∃ l, keyOf Try.prog 56 (.agg (kyX (X t))) = some l ∧ left l = false
theorem visQ_turn {X : Nat → List Int} {left : Lit → Bool} {K : Array Value} {kl : Lit} {t : Nat} (ht : okX (X t)) (hk : keyOf Try.prog 56 (.agg K) = some kl) : visQ X (fun z => left z && !z.sameKey kl) t ↔ (visQ X left t ∨ kyX (X t) = K) := by
  obtain ⟨l, hl⟩ := kyX_key ht
  constructor
  · rintro ⟨l', h1, h2⟩
    cases hll : left l' with
    | false => exact .inl ⟨l', h1, hll⟩
    | true =>
      have hs : l'.sameKey kl = true := by simpa [hll] using h2
      have e1 := WideAt.sameKey_eq hs
      subst e1
      have e2 := keyedQ.inj h1 hk
      injection e2 with e2
      exact .inr e2
  · rintro (⟨l', h1, h2⟩ | h)
    · exact ⟨l', h1, by simp [h2]⟩
    · rw [h] at hl
      refine ⟨l, by rw [h]; exact hl, ?_⟩
      rw [hk] at hl
      cases hl
      simp [WideAt.sameKey_self (keyedQ.key hk)]
/-- The loop's state: the walk over the map, and the rows chosen. -/
structure BgJ (wm : World) (m g it k : Nat) (D : DataW Value) (X : Nat → List Int) (VS : Nat → Value) (p : Nat → Bool) (left : Lit → Bool) (cnt : Nat) (v : Value) (σ : List Nat) (wz : World) : Prop where
  j : RgJ wm m g it k D X (fun _ => True) left cnt wz
  own : wz.ownsRow (it + 1) 22 1 v σ.length (σ.map VS)
  nd : σ.Nodup
  lt : ∀ t ∈ σ, t < m
  mem : ∀ t, t < m → (t ∈ σ ↔ (visQ X left t ∧ p t = true))
  gi : g < it
section
variable {wm wz w4 w6 w7 : World} {m g it k cnt cnt' : Nat} {D : DataW Value} {X : Nat → List Int} {VS : Nat → Value} {p : Nat → Bool} {left : Lit → Bool} {v v' : Value} {σ : List Nat} {K : Array Value} {kl : Lit}
theorem BgJ.few (h : BgJ wm m g it k D X VS p left cnt v σ wz) : σ.length ≤ m := by
  have := nodup_len σ (List.range m) h.nd fun x hx => List.mem_range.2 (h.lt x hx)
  rwa [List.length_range] at this
theorem BgJ.off (h : BgJ wm m g it k D X VS p left cnt v σ wz) : v.ownBlock = none ∨ v.ownBlock ≠ some it := by
  by_cases e : v.ownBlock = some it
  · have := (h.own.lt _ e).1; omega
  · exact .inr e
theorem BgJ.row (h : BgJ wm m g it k D X VS p left cnt v σ wz) (hg : wz.grownBy w4 (some it)) (b : Below w4.heap.size w4 w6) : w6.ownsRow (it + 1) 22 1 v σ.length (σ.map VS) := own_below (h.own.kept hg h.off) b
theorem BgJ.out (h : BgJ wm m g it k D X VS p left cnt v σ wz) (hX : ∀ i, i < m → okX (X i)) (hk : keyOf Try.prog 56 (.agg K) = some kl) (hg : wz.grownBy w4 (some it)) (hr : w4.ranges Try.prog 56 RawQ g it k D (fun z => left z && !z.sameKey kl) cnt')
    (hp : ∀ t, t < m → kyX (X t) = K → p t = false) (b : Below w4.heap.size w4 w6) : BgJ wm m g it k D X VS p (fun z => left z && !z.sameKey kl) cnt' v σ w6 := by
  refine ⟨(h.j.turn hk hg hr (fun _ _ _ => trivial)).up b, h.row hg b, h.nd, h.lt, fun t ht => ?_, h.gi⟩
  rw [h.mem t ht, visQ_turn (hX t ht) hk]
  constructor
  · exact fun ⟨h1, h2⟩ => ⟨.inl h1, h2⟩
  · rintro ⟨h1 | h1, h2⟩
    · exact ⟨h1, h2⟩
    · rw [hp t ht h1] at h2; cases h2
theorem BgJ.put (h : BgJ wm m g it k D X VS p left cnt v σ wz) (hX : ∀ i, i < m → okX (X i)) (hk : keyOf Try.prog 56 (.agg K) = some kl) (hlk : left kl = true) (hg : wz.grownBy w4 (some it)) (hr : w4.ranges Try.prog 56 RawQ g it k D (fun z => left z && !z.sameKey kl) cnt')
    (hp : ∀ t, t < m → kyX (X t) = K → p t = true) (b : Below w4.heap.size w4 w6) (ho : w7.ownsRow (it + 1) 22 1 v' (σ.length + (grpQ X VS m K).length) (σ.map VS ++ grpQ X VS m K)) (g7 : w6.grownBy w7 v.ownBlock) :
    BgJ wm m g it k D X VS p (fun z => left z && !z.sameKey kl) cnt' v' (σ ++ idxB (keyB X K) m) w7 := by
  have J6 := (h.j.turn hk hg hr (fun _ _ _ => trivial)).up b
  have r6 := h.row hg b
  have hlt := rgQ_lt J6.rg
  have nb : ∀ q, q ≤ it → some q ≠ v.ownBlock := fun q hq e => by have := (r6.lt q e.symm).1; omega
  have new : ∀ t, t ∈ idxB (keyB X K) m → t ∉ σ := fun t ht hs => by
    obtain ⟨h1, h2⟩ := idxB_mem.1 ht
    obtain ⟨⟨l, h3, h4⟩, _⟩ := (h.mem t h1).1 hs
    rw [keyB_iff.1 h2, hk] at h3
    cases h3
    rw [hlk] at h4
    cases h4
  refine ⟨⟨J6.bel.grown g7 J6.bel.size (fun q hq => by have := (r6.lt q hq).1; have := J6.ge; omega), J6.ge, J6.rg.kept g7 (nb g (by have := h.gi; omega)) (nb it (Nat.le_refl _)), J6.has_, J6.ok⟩, ?_, ?_, fun t ht => ?_, fun t ht => ?_, h.gi⟩
  · rw [grpQ_idx, List.length_map] at ho
    rw [List.length_append, List.map_append]
    exact ho
  · exact List.nodup_append.2 ⟨h.nd, idxB_nodup _ _, fun a ha b hb e => new b hb (e ▸ ha)⟩
  · rcases List.mem_append.1 ht with h1 | h1
    · exact h.lt t h1
    · exact (idxB_mem.1 h1).1
  · rw [List.mem_append, h.mem t ht, visQ_turn (hX t ht) hk, idxB_mem, keyB_iff]
    constructor
    · rintro (⟨h1, h2⟩ | ⟨h1, h2⟩)
      · exact ⟨.inl h1, h2⟩
      · exact ⟨.inr h2, hp t ht h2⟩
    · rintro ⟨h1 | h1, h2⟩
      · exact .inl ⟨h1, h2⟩
      · exact .inr ⟨ht, h1⟩
end

theorem implBa_no (v : Value) (n : Nat) (d : Int) (H : Nat → Int) (w : World) (hv : RdI w v n H) (h2 : ¬ okPr H n) :
    Calls Try.prog 38 #[v, .int .i64 d] w (ImplRes w 1 []) := by
  have A := Lib.hid (implIsPr_no v n H w hv h2)
  go_enter Try.func38, Try.ntmps38
  go_wp2_with fail
  refine A.out.mono ?_
  rintro e w' ⟨rfl, rfl⟩
  go_wp2_with fail
  go_ret2
  exact ⟨_, fun _ => undef, rfl, fam_nil _ _ _, Below.refl _ _, sep_zero _⟩
theorem implBa_far (v : Value) (n : Nat) (d : Int) (H : Nat → Int) (w : World) (hv : RdI w v n H) (h2 : okPr H n) (hd : ¬ (0 ≤ d ∧ d ≤ 40)) :
    Calls Try.prog 38 #[v, .int .i64 d] w (ImplRes w 2 []) := by
  have A := Lib.hid (implIsPr_yes v n H w hv h2)
  have P := Lib.hid (implPartitionsOf_all d w)
  have E2 : pcOf d = 2 := by unfold pcOf; rw [if_neg hd]
  rw [E2] at P
  clear E2 hd
  go_enter Try.func38, Try.ntmps38
  go_wp2_with fail
  refine A.out.mono ?_
  rintro e w' ⟨rfl, rfl⟩
  go_wp2_with fail
  refine P.out.mono ?_
  rintro e w1 ⟨V, VS, rfl, hF, hB, hS⟩
  have B := Lib.hid hB
  clear hF hB hS
  go_wp2_with fail
  go_ret2
  exact ⟨_, fun _ => undef, rfl, fam_nil _ _ _, B.out, sep_zero _⟩

set_option maxHeartbeats 4000000 in
theorem implBa_ok (v : Value) (n d : Nat) (H : Nat → Int) (w : World) (hv : RdI w v n H) (h2 : okPr H n) (hd : d ≤ 40) :
    Calls Try.prog 38 #[v, .int .i64 (d : Int)] w (ImplRes w 0 (basQ n H d)) := by
  have tq := Try.underlying56
  have A := Lib.hid (implIsPr_yes v n H w hv h2)
  have PP := implPartitionsOf_all (d : Int) w
  rw [show ptOf (d : Int) = parts 6 [] d by unfold ptOf; rw [if_pos (by omega)]; rfl, show pcOf (d : Int) = 0 by unfold pcOf; rw [if_pos (by omega)]] at PP
  have PP := Lib.hid PP
  have PF := Lib.hid (fun (wx : World) (hb : Below w.heap.size w wx) => profileOf_any v n H wx (hv.below hb) h2.1)
  have HPR := Lib.hid h2
  have HX : Hid (∀ i, i < (parts 6 [] d).length → okX (rowsOf (parts 6 [] d) i)) := Lib.hid (fun i hi => okX_of (parts_good d hd i hi))
  obtain ⟨pasc, hl⟩ := parts_asc d hd
  have HASC := Lib.hid pasc
  have HB : Hid (basQ n H d = (idxB (inB (parts 6 [] d) n H) (parts 6 [] d).length).map (rowsOf (parts 6 [] d))) := Lib.hid rfl
  obtain ⟨va, vc, rfl⟩ : ∃ a c, v = .slice a n c := by obtain ⟨a, c, e, _⟩ := hv; exact ⟨a, c, e⟩
  unfold SaysA at PF
  clear hv h2 pasc
  generalize basQ n H d = bq at *
  generalize parts 6 [] d = P at *
  go_enter Try.func38, Try.ntmps38
  go_wp2_with fail
  refine A.out.mono ?_
  rintro e w' ⟨rfl, rfl⟩
  go_wp2_with fail
  refine PP.out.mono ?_
  rintro e w1 ⟨V, VS, rfl, hF, hBel, hS⟩
  have FA := Lib.hid hF
  have B1 := Lib.hid hBel
  have SP := Lib.hid hS
  obtain ⟨aA, cA, rfl, hmA, hcA⟩ := hF.head
  have LL := Lib.hid (lists_any (.slice aA P.length cA) P.length (rowsOf P) VS w1 ⟨_, _, rfl⟩ (by omega) (hcA.imp id (fun ⟨b, e, hc⟩ => ⟨b, 0, ⟨cA, by rw [e]⟩, fun i hi => by rw [Nat.zero_add]; exact hc i hi⟩)) (fun i hi => rd_of_own (hF.inn i hi) rfl) HX.out)
  clear hF hBel hS hcA PP A
  go_wp2_with fail
  refine LL.out.mono ?_
  rintro e wm ⟨rfl, b3, k, D, SV, hk, M⟩
  have FM := Lib.hid (Fam.below FA.out b3)
  have BM := Lib.hid (B1.out.step1 b3)
  have GI : Hid (w1.heap.size < wm.heap.size) := Lib.hid M.own.lt
  generalize w1.heap.size = g at *
  have HM := Lib.hid M
  have OWN := Lib.hid M.own
  have M0 : Hid (∀ t, t < P.length → (t ∈ ([] : List Nat) ↔ (visQ (rowsOf P) (Maps.has D) t ∧ inB P n H t = true))) := Lib.hid (fun t ht => by
    constructor
    · intro h
      exact absurd h List.not_mem_nil
    · rintro ⟨⟨l, h3, h4⟩, _⟩
      have := (M.has_ _ l h3).2 ((grpQ_some _ VS _ P.length).2 ⟨t, ht, rfl⟩)
      rw [this] at h4
      cases h4)
  have ST : Hid (∀ w0, wm.grownBy w0 none → w0.ranges Try.prog 56 RawQ g wm.heap.size k D (Maps.has D) (Maps.size D) → BgJ wm P.length g wm.heap.size k D (rowsOf P) VS (inB P n H) (Maps.has D) (Maps.size D) (.slice none 0 0) [] w0) := Lib.hid fun w0 hg0 hr0 =>
    ⟨RgJ.start (Below.refl _ _) M hg0 hr0, World.ownsRow_nil _ _ _ _, List.nodup_nil, fun t ht => absurd ht (List.not_mem_nil), M0.out, GI.out⟩
  clear b3 M LL hk FA B1 GI M0
  go_wp2_with (at_range; refine wpList_range_own _ rfl _ 69 rfl 56 35 keyedQ Try.underlying69 RawQ g k D rfl OWN.out ?_; intro w0 hrg0 hg0 hs0)
  have J0 := Lib.hid (ST.out w0 hg0 hrg0)
  clear hrg0 hg0 hs0 ST OWN
  obtain ⟨it, hit⟩ : ∃ it, wm.heap.size = it := ⟨_, rfl⟩
  rw [hit] at J0 ⊢
  go_wp2_with fail
  go_frame
  go_loopw [8, 9, 10] (fun u _ _ wz => ∃ (σ : List Nat) (left : Lit → Bool) (cnt : Nat), Hid (BgJ wm P.length g it k D (rowsOf P) VS (inB P n H) left cnt u σ wz)) (fun _ _ _ wz => wz.rangeLeft g it)
  case atStart => exact ⟨_, _, _, J0⟩
  case round =>
    clear J0
    obtain ⟨σ, left, cnt, hJ⟩ := hrel
    have hrg := hJ.out.j.rg
    go_wp2_with (at_next; refine wpList_next_ranges _ rfl _ rfl 56 keyedQ RawQ (fun x : PKey => .agg x.1) id (fun key kl hk => by obtain ⟨k, e, hk'⟩ := keyQ_inv hk; exact ⟨⟨k, hk'⟩, e⟩) (fun v _ _ => ⟨v, rfl⟩) g it k D left cnt rfl hrg ?_ ?_)
    · intro hc0 hl0
      have BZ := Lib.hid (BM.out.step1 hJ.out.j.bel)
      have hmem : ∀ t, t ∈ σ ↔ (t < P.length ∧ inB P n H t = true) := fun t => by
        constructor
        · intro ht
          exact ⟨hJ.out.lt t ht, ((hJ.out.mem t (hJ.out.lt t ht)).1 ht).2⟩
        · rintro ⟨h1, h3⟩
          obtain ⟨l, hl'⟩ := kyX_key (HX.out t h1)
          exact (hJ.out.mem t h1).2 ⟨⟨l, hl', hl0 l⟩, h3⟩
      have hfew := hJ.out.few
      have FS := fam_sel (Fam.below FM.out hJ.out.j.bel) hJ.out.lt (own_base hJ.out.own (by have := BM.out.size; omega))
      have SS := sep_sel SP.out hJ.out.lt hJ.out.nd
      have NL : (σ.map (rowsOf P)).Nodup := List.pairwise_map.2 (hJ.out.nd.imp_of_mem (fun {a b} ha hb hne e => hne (rows_inj HASC.out.nodup a b (hJ.out.lt a ha) (hJ.out.lt b hb) e)))
      have SRT := Lib.hid (sort_any _ w.heap.size _ _ (σ.map (rowsOf P)) FS (by rw [List.length_map]; exact SS) NL (by rw [List.length_map]; omega) BZ.out.size)
      have EQ : Hid (∀ zs : List (List Int), Asc zs → (∀ x, x ∈ zs ↔ x ∈ σ.map (rowsOf P)) → zs = bq) := Lib.hid (fun zs ha hm => by
        rw [HB.out]
        refine asc_ext _ _ ha ?_ fun z => ?_
        · refine List.pairwise_map.2 ((List.Pairwise.filter _ (List.pairwise_lt_range (n := P.length))).imp_of_mem fun {a b} ha hb hlt => ?_)
          have h3 := (idxB_mem.1 ha).1
          have h4 := (idxB_mem.1 hb).1
          have := List.pairwise_iff_getElem.1 HASC.out a b h3 h4 hlt
          unfold rowsOf
          rw [List.getElem?_eq_getElem h3, List.getElem?_eq_getElem h4]
          exact this
        · rw [hm z, List.mem_map, List.mem_map]
          constructor
          · rintro ⟨t, ht, e⟩
            exact ⟨t, idxB_mem.2 ((hmem t).1 ht), e⟩
          · rintro ⟨t, ht, e⟩
            exact ⟨t, (hmem t).2 (idxB_mem.1 ht), e⟩)
      clear hrg hc0 hl0 hJ hmem hfew FS SS NL HM
      go_wp2_with fail
      refine SRT.out.mono ?_
      rintro e w9 ⟨rfl, VS', zs, hF9, hS9, hA9, hm9, hb9⟩
      obtain rfl : zs = bq := EQ.out zs hA9 hm9
      have F9 := Lib.hid hF9
      have S9 := Lib.hid hS9
      have B9 := Lib.hid (BZ.out.trans hb9)
      clear hF9 hS9 hb9 SRT hA9 hm9
      go_wp2_with fail
      go_ret2
      exact ⟨_, VS', rfl, F9.out, B9.out, S9.out⟩
    · intro K hK c kl y1 y2 w4 cnt4 hkey hlk hR hat hrg4 hlt4 hg4 hs4 hen
      have hhas : Maps.has D kl = true := has_true_of_atKey hat
      obtain ⟨i0, hi0, ek⟩ := hJ.out.j.has_ K kl hkey hhas
      have ek2 : K = arK (lnX (rowsOf P i0)) := ek.symm
      have hLq := hJ.out.j.rg.left_eq
      have ec : c = SV K := by
        have h1 := hat (.held (.slice none 0 0))
        rw [HM.out.at_ K kl hkey] at h1
        have h2 : (DataW.held c, ([] : List MemPlace)) = (y1, y2) := Option.some.inj hR
        have h3 : DataW.held c = y1 := congrArg Prod.fst h2
        rw [← h3] at h1
        exact (DataW.held.inj h1).symm
      have gr := HM.out.grp K
      have gne : grpQ (rowsOf P) VS P.length K ≠ [] := (grpQ_some _ VS K P.length).2 ⟨i0, hi0, ek⟩
      have GLE := Lib.hid (grpQ_len (rowsOf P) VS K P.length)
      obtain ⟨gg, gc, eSV, _, _⟩ := World.ownsRow.form gr (List.length_pos_iff.2 gne)
      have SRC : Hid (∀ wx, Below wm.heap.size wm wx → ∀ j u, (grpQ (rowsOf P) VS P.length K)[j]? = some u → wx.cell? ((⟨gg, 0, none⟩ : Addr).add j) = some u) := Lib.hid (fun wx hb => World.ownsRow.cells (own_below gr hb) (by rw [eSV]; rfl))
      have H1 : Hid (∀ u ∈ grpQ (rowsOf P) VS P.length K, u.oneCell' = true) := Lib.hid (fun u hu => by
        rw [grpQ_idx] at hu
        obtain ⟨t, ht, rfl⟩ := List.mem_map.1 hu
        obtain ⟨a', c', e', _⟩ := own_len (FM.out.inn t (idxB_mem.1 ht).1)
        rw [e']
        rfl)
      have DEC : ∀ t, t < P.length → kyX (rowsOf P t) = K → (inB P n H t = true ↔ sameA (meetF (lnX (rowsOf P i0)) (padF n H)) (lnX (rowsOf P i0)) = true) := fun t ht e => by
        rw [inB_iff, lnX_in (HX.out i0 hi0) HPR.out]
        exact in_same (HX.out t ht) (HX.out i0 hi0) HPR.out (by rw [e, ek])
      have PUT : Hid (sameA (meetF (lnX (rowsOf P i0)) (padF n H)) (lnX (rowsOf P i0)) = true → ∀ w6 v' w7, Below w4.heap.size w4 w6 → w7.ownsRow (it + 1) 22 1 v' (σ.length + (grpQ (rowsOf P) VS P.length K).length) (σ.map VS ++ grpQ (rowsOf P) VS P.length K) → w6.grownBy w7 (u8).ownBlock →
          BgJ wm P.length g it k D (rowsOf P) VS (inB P n H) (fun z => left z && !z.sameKey kl) cnt4 v' (σ ++ idxB (keyB (rowsOf P) K) P.length) w7) := Lib.hid (fun hb w6 v' w7 b6 ho7 hg7 => hJ.out.put HX.out hkey hlk hg4 hrg4 (fun t ht e => (DEC t ht e).2 hb) b6 ho7 hg7)
      have OUT : Hid (sameA (meetF (lnX (rowsOf P i0)) (padF n H)) (lnX (rowsOf P i0)) = false → ∀ w6, Below w4.heap.size w4 w6 → BgJ wm P.length g it k D (rowsOf P) VS (inB P n H) (fun z => left z && !z.sameKey kl) cnt4 u8 σ w6) := Lib.hid (fun hb w6 b6 => hJ.out.out HX.out hkey hg4 hrg4 (fun t ht e => by
        cases hq : inB P n H t with
        | false => rfl
        | true => rw [(DEC t ht e).1 hq] at hb; cases hb) b6)
      have ROW : Hid (∀ w6, Below w4.heap.size w4 w6 → w6.ownsRow (it + 1) 22 1 u8 σ.length (σ.map VS)) := Lib.hid (fun w6 b6 => hJ.out.row hg4 b6)
      have BM4 : Hid (Below wm.heap.size wm w4) := Lib.hid (hJ.out.j.bel.grown hg4 hJ.out.j.bel.size (fun q hq => by cases hq; exact hJ.out.j.ge))
      have B4 : Hid (Below w.heap.size w w4) := Lib.hid (BM.out.step1 BM4.out)
      have FEW := Lib.hid hJ.out.few
      have HIT : Hid (it + 1 ≤ w4.heap.size) := Lib.hid (rgQ_lt hrg4).2
      have II := Lib.hid (fun wx => isIn_any (lnX (rowsOf P i0)) (padF n H) wx)
      have z1 : (Try.prog.info? 56).map (·.size) = some (arK (lnX (rowsOf P i0))).toList.length := by rw [Array.length_toList]; exact sizeAr _
      have tl1 : (arK (lnX (rowsOf P i0))).toList.toArray = arK (lnX (rowsOf P i0)) := Array.toArray_toList
      have S5 := Lib.hid (arK_size (lnX (rowsOf P i0)))
      have S1 := Lib.hid (arK_one (lnX (rowsOf P i0)))
      have RN := Lib.hid (loadNewQ w4 _ S5.out)
      rw [eSV] at ec
      subst ec
      clear hhas ek hkey hlk hR hat hrg4 hg4 hs4 hrg hJ gr gne DEC eSV
      subst ek2
      unfold SaysV at II
      generalize arK (lnX (rowsOf P i0)) = KF at *
      generalize arK (padF n H) = KP at *
      generalize grpQ (rowsOf P) VS P.length KF = gs at *
      generalize idxB (keyB (rowsOf P) KF) P.length = gi at *
      obtain ⟨xs, hxs⟩ : ∃ xs, σ.map VS = xs := ⟨_, rfl⟩
      rw [hxs] at PUT ROW
      obtain ⟨sn, hsn⟩ : ∃ sn, σ.length = sn := ⟨_, rfl⟩
      rw [hsn] at PUT ROW FEW
      cases hb : sameA (meetF (lnX (rowsOf P i0)) (padF n H)) (lnX (rowsOf P i0)) with
      | true =>
        rw [hb] at II
        have PUT := Lib.hid (PUT.out hb)
        clear OUT hb hxs hsn
        go_wp2_with (refine stKQ w4 rfl _ _ rfl rfl KF rfl S5.out S1.out ?_)
        have bs4 : Hid (Below w4.heap.size w4 (w4.alloc (.cells KF 56))) := Lib.hid ((Below.refl _ w4).alloc (Nat.le_refl _) _)
        have BS : Hid (Below w.heap.size w (w4.alloc (.cells KF 56))) := Lib.hid (B4.out.step1 bs4.out)
        have HB2 : Hid (w4.heap.size < (w4.alloc (.cells KF 56)).heap.size) := Lib.hid (by simp)
        generalize (w4.alloc (.cells KF 56)) = ws at *
        obtain ⟨bk, hbk⟩ : ∃ bk, w4.heap.size = bk := ⟨_, rfl⟩
        rw [hbk] at HB2 RN ⊢
        have R1 : Hid (∀ wx, Below ws.heap.size ws wx → wx.rangeAt bk 0 KF.toList) := Lib.hid (fun wx hb j x hx => (hb.cell (p := ⟨bk, 0 + j, none⟩) HB2.out).trans (RN.out j x hx))
        have y0 : Below ws.heap.size ws ws.drew := (Below.refl _ _).drew
        refine wp_region_noPanic ?_
        refine wp_region_held_drew (S := fun wx => wx.rangeAt bk 0 KF.toList ∧ Below ws.heap.size ws wx) (by kernel_rfl) ⟨R1.out _ y0, y0⟩ (fun hHeld => ?_)
        refine wpAnyH_take (i := 0) (v := _) rfl (by kernel_rfl) (by kernel_rfl) (by kernel_rfl) (fun _ _ _ h => h) (yieldsIf_load_mid (by rfl) _ _ rfl _ _ rfl KF.toList _ (fun wx hw => hw.1) tq rfl z1) hHeld ?_
        simp only [List.getElem_toArray, List.getElem_cons_zero, Act.put, List.setIfInBounds_toArray, List.set_cons_zero, List.set_cons_succ]
        refine wpAnyH_take (i := 1) (v := ?_) rfl (by kernel_rfl) (by kernel_rfl) (by kernel_rfl) (fun _ _ _ h => h) (Or.inl ⟨by rfl, ?_⟩) hHeld ?_
        rotate_left
        · intro wx hw
          go_simp
          try with_reducible rfl
        simp only [List.getElem_toArray, List.getElem_cons_zero, List.getElem_cons_succ, Act.put, List.setIfInBounds_toArray, List.set_cons_zero, List.set_cons_succ]
        refine wpAnyH_ready (rs := [2]) (by kernel_rfl) (by simp) ?_
        refine AllReadyH.cons rfl (fun K hK => ?_) AllReadyH.nil
        go_simp
        go_at_call 55
        refine (PF.out _ (BS.out.step1 y0)).mono ?_
        rintro e wa ⟨rfl, bwa⟩
        have y1 : Below ws.heap.size ws wa := below_one y0 bwa
        refine hK.out _ _ ⟨R1.out _ y1, y1⟩ (fun hHeld => ?_)
        clear hK K
        refine wpAnyH_ready (rs := [3]) (by kernel_rfl) (by simp) ?_
        refine AllReadyH.cons rfl (fun K hK => ?_) AllReadyH.nil
        go_simp
        go_at_call 65
        refine (II.out _).mono ?_
        rintro e wb ⟨rfl, bwb⟩
        have y2 : Below ws.heap.size ws wb := below_one y1 bwb
        refine hK.out _ _ ⟨R1.out _ y2, y2⟩ (fun hHeld => ?_)
        clear hK K
        refine wpAnyH_done (by kernel_rfl) (NoPanic.normal ?_) _
        have B6 := Lib.hid (bs4.out.step1 y2)
        have R6 := Lib.hid (ROW.out wb B6.out)
        have S6 := Lib.hid (SRC.out wb (BM4.out.step1 B6.out))
        have T6 : Hid (it + 1 ≤ wb.heap.size) := Lib.hid (by have := B6.out.size; have := HIT.out; omega)
        clear hbk
        go_wp2_with (refine wpList_rows_at wb rfl _ _ rfl (it + 1) sn _ xs rfl R6.out ⟨gg, 0, none⟩ gs.length gc gs rfl S6.out rfl H1.out (by have := FEW.out; have := GLE.out; omega) T6.out ?_; intro v7 w7 ho7 hg7 hl7; have J7 := Lib.hid (PUT.out wb v7 w7 B6.out ho7 hg7); clear ho7 hg7 hl7)
        go_roundw
        case rel => exact ⟨_, _, cnt4, J7⟩
        case measure => rw [J7.out.j.rg.left_eq, hLq]; exact hlt4
      | false =>
        rw [hb] at II
        have OUT := Lib.hid (OUT.out hb)
        clear PUT hb hxs hsn ROW
        go_wp2_with (refine stKQ w4 rfl _ _ rfl rfl KF rfl S5.out S1.out ?_)
        have bs4 : Hid (Below w4.heap.size w4 (w4.alloc (.cells KF 56))) := Lib.hid ((Below.refl _ w4).alloc (Nat.le_refl _) _)
        have BS : Hid (Below w.heap.size w (w4.alloc (.cells KF 56))) := Lib.hid (B4.out.step1 bs4.out)
        have HB2 : Hid (w4.heap.size < (w4.alloc (.cells KF 56)).heap.size) := Lib.hid (by simp)
        generalize (w4.alloc (.cells KF 56)) = ws at *
        obtain ⟨bk, hbk⟩ : ∃ bk, w4.heap.size = bk := ⟨_, rfl⟩
        rw [hbk] at HB2 RN ⊢
        have R1 : Hid (∀ wx, Below ws.heap.size ws wx → wx.rangeAt bk 0 KF.toList) := Lib.hid (fun wx hb j x hx => (hb.cell (p := ⟨bk, 0 + j, none⟩) HB2.out).trans (RN.out j x hx))
        have y0 : Below ws.heap.size ws ws.drew := (Below.refl _ _).drew
        refine wp_region_noPanic ?_
        refine wp_region_held_drew (S := fun wx => wx.rangeAt bk 0 KF.toList ∧ Below ws.heap.size ws wx) (by kernel_rfl) ⟨R1.out _ y0, y0⟩ (fun hHeld => ?_)
        refine wpAnyH_take (i := 0) (v := _) rfl (by kernel_rfl) (by kernel_rfl) (by kernel_rfl) (fun _ _ _ h => h) (yieldsIf_load_mid (by rfl) _ _ rfl _ _ rfl KF.toList _ (fun wx hw => hw.1) tq rfl z1) hHeld ?_
        simp only [List.getElem_toArray, List.getElem_cons_zero, Act.put, List.setIfInBounds_toArray, List.set_cons_zero, List.set_cons_succ]
        refine wpAnyH_take (i := 1) (v := ?_) rfl (by kernel_rfl) (by kernel_rfl) (by kernel_rfl) (fun _ _ _ h => h) (Or.inl ⟨by rfl, ?_⟩) hHeld ?_
        rotate_left
        · intro wx hw
          go_simp
          try with_reducible rfl
        simp only [List.getElem_toArray, List.getElem_cons_zero, List.getElem_cons_succ, Act.put, List.setIfInBounds_toArray, List.set_cons_zero, List.set_cons_succ]
        refine wpAnyH_ready (rs := [2]) (by kernel_rfl) (by simp) ?_
        refine AllReadyH.cons rfl (fun K hK => ?_) AllReadyH.nil
        go_simp
        go_at_call 55
        refine (PF.out _ (BS.out.step1 y0)).mono ?_
        rintro e wa ⟨rfl, bwa⟩
        have y1 : Below ws.heap.size ws wa := below_one y0 bwa
        refine hK.out _ _ ⟨R1.out _ y1, y1⟩ (fun hHeld => ?_)
        clear hK K
        refine wpAnyH_ready (rs := [3]) (by kernel_rfl) (by simp) ?_
        refine AllReadyH.cons rfl (fun K hK => ?_) AllReadyH.nil
        go_simp
        go_at_call 65
        refine (II.out _).mono ?_
        rintro e wb ⟨rfl, bwb⟩
        have y2 : Below ws.heap.size ws wb := below_one y1 bwb
        refine hK.out _ _ ⟨R1.out _ y2, y2⟩ (fun hHeld => ?_)
        clear hK K
        refine wpAnyH_done (by kernel_rfl) (NoPanic.normal ?_) _
        have J7 := Lib.hid (OUT.out wb (bs4.out.step1 y2))
        clear hbk
        go_wp2_with fail
        go_roundw
        case rel => exact ⟨_, _, cnt4, J7⟩
        case measure => rw [J7.out.j.rg.left_eq, hLq]; exact hlt4
end Go.Proofs.Ytcbfcpngpnlodaa
end
