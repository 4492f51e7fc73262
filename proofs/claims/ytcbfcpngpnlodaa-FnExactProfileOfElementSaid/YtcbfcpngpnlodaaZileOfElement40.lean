/-
  Joined: QElI.
-/
import Derived.Test.YtcbfcpngpnlodaaZileOfElement38
import Derived.Test.YtcbfcpngpnlodaaZileOfElement39
section
namespace Go.Proofs.Ytcbfcpngpnlodaa
open Go Go.RowKit Go.Maps
set_option linter.unusedVariables false
set_option maxRecDepth 100000

/-- The least profile of the first m lists. -/
def supF (X : Nat → List Int) : Nat → Nat → Int
  | 0, _ => 0
  | m + 1, t => max (supF X m t) (lnX (X m) t)
theorem supF_ge {X : Nat → List Int} : ∀ {m i : Nat}, i < m → ∀ t, lnX (X i) t ≤ supF X m t
  | 0, i, h, _ => absurd h (Nat.not_lt_zero _)
  | m + 1, i, h, t => by
    rw [supF]
    by_cases e : i = m
    · subst e; omega
    · have := supF_ge (X := X) (m := m) (i := i) (by omega) t; omega
theorem supF_nn (X : Nat → List Int) : ∀ m t, 0 ≤ supF X m t
  | 0, _ => Int.le_refl _
  | m + 1, t => by rw [supF]; have := supF_nn X m t; omega
theorem supF_src (X : Nat → List Int) : ∀ m t, supF X m t = 0 ∨ ∃ i, i < m ∧ lnX (X i) t = supF X m t
  | 0, _ => .inl rfl
  | m + 1, t => by
    rw [supF]
    rcases Int.le_total (lnX (X m) t) (supF X m t) with h | h
    · rcases supF_src X m t with h1 | ⟨i, hi, h1⟩
      · exact .inl (by omega)
      · exact .inr ⟨i, by omega, by omega⟩
    · exact .inr ⟨m, by omega, by omega⟩

/-- What the loop keeps: the join so far. -/
structure ElJ (w : World) (m g it k : Nat) (D : DataW Value) (X : Nat → List Int) (ab : Nat) (f : Nat → Int) (left : Lit → Bool) (cnt : Nat) (wr : World) : Prop where
  j : RgJ w m g it k D X (fun i => ∀ t, t < 16 → lnX (X i) t ≤ f t) left cnt wr
  a : ArAt wr ab f
  src : ∀ t, t < 16 → f t = 0 ∨ ∃ i, i < m ∧ lnX (X i) t = f t
  nn : ∀ t, t < 16 → 0 ≤ f t
  ge : w.heap.size ≤ ab
  neg : ab ≠ g
  nei : ab ≠ it
section
variable {w wr w' : World} {m g it k ab : Nat} {D : DataW Value} {X : Nat → List Int} {f : Nat → Int} {left : Lit → Bool} {cnt : Nat}
theorem ElJ.fin (h : ElJ w m g it k D X ab f left cnt wr) (hX : ∀ i, i < m → okX (X i)) (hl : ∀ l, left l = false) : ∀ t, t < 16 → f t = supF X m t := fun t ht => by
  have h1 := h.j.all hX hl
  have h2 := h.nn t ht
  have h3 := supF_nn X m t
  rcases supF_src X m t with h4 | ⟨i, hi, h4⟩
  · rcases h.src t ht with h5 | ⟨i, hi, h5⟩
    · omega
    · have := supF_ge (X := X) hi t; omega
  · have := h1 i hi t ht
    rcases h.src t ht with h5 | ⟨i', hi', h5⟩
    · omega
    · have := supF_ge (X := X) hi' t; omega
/-- A key is taken, and its profile joined. -/
theorem ElJ.step {i0 : Nat} {kl : Lit} {cnt' : Nat} {w6 : World} (h : ElJ w m g it k D X ab f left cnt wr) (hX : ∀ i, i < m → okX (X i)) (hi0 : i0 < m) (hk : keyOf Try.prog 56 (.agg (kyX (X i0))) = some kl) (hg : wr.grownBy w' (some it)) (hr : w'.ranges Try.prog 56 RawQ g it k D (fun z => left z && !z.sameKey kl) cnt')
    (b : Below w'.heap.size w' w6) : ElJ w m g it k D X ab (joinF f (lnX (X i0))) (fun z => left z && !z.sameKey kl) cnt' (w6.setRow ab (arK (joinF f (lnX (X i0))))) := by
  have ab_lt : ab < wr.heap.size := h.a.lt
  have a' : ArAt w' ab f := (hg.block ab ab_lt (fun e => h.nei (by injection e))).trans h.a
  have J1 := (h.j.drop (P' := fun i => ∀ t, t < 16 → lnX (X i) t ≤ joinF f (lnX (X i0)) t) (fun i hp t ht => by have := hp t ht; unfold joinF; omega)).turn hk hg hr (fun i hi e t ht => by
    have := kyX_eq e t ht
    unfold joinF
    omega)
  have J2 := J1.up b
  have a6 := a'.up b
  refine ⟨⟨below_setRow J2.bel h.ge _, J2.ge, ?_, J2.has_, J2.ok⟩, setRow_heap _ _ _ _ _ _ a6, fun t ht => ?_, fun t ht => ?_, h.ge, h.neg, h.nei⟩
  · obtain ⟨es, clock, since, seen, c0, h1, h2, h3, h4, h5, h6⟩ := J2.rg
    exact ⟨es, clock, since, seen, c0, (setRow_other _ _ _ _ (Ne.symm h.neg)).trans h1, h2, h3, h4, (setRow_other _ _ _ _ (Ne.symm h.nei)).trans h5, h6⟩
  · unfold joinF
    rcases Int.le_total (lnX (X i0) t) (f t) with c | c
    · rcases h.src t ht with h5 | ⟨i, hi, h5⟩
      · exact .inl (by omega)
      · exact .inr ⟨i, hi, by omega⟩
    · exact .inr ⟨i0, hi0, by omega⟩
  · have := h.nn t ht
    unfold joinF
    omega
end

theorem implEl_bad (a : Option Addr) (m cap : Nat) (w : World) (A : Hid (∀ wx, Below w.heap.size w wx → Calls Try.prog 70 #[.agg #[.slice a m cap]] wx (SaysB false wx))) :
    Calls Try.prog 51 #[.agg #[.slice a m cap]] w (ResI [] 1 w) := by
  have t2 := Try.underlying40
  have B0 : Hid (Below w.heap.size w (w.alloc (.cells #[.slice a m cap] 40))) := Lib.hid ((Below.refl w.heap.size w).alloc (Nat.le_refl _) _)
  go_enter Try.func51, Try.ntmps51
  go_wp2_with fail
  refine (A.out _ B0.out).mono ?_
  rintro e w' ⟨rfl, b2⟩
  have B2 := Lib.hid (B0.out.step1 b2)
  clear b2
  go_wp2_with fail
  go_ret2
  exact ⟨_, rfl, World.ownsRow_nil _ _ _ _, B2.out⟩

set_option maxHeartbeats 4000000 in
theorem implEl_ok (a : Option Addr) (m cap : Nat) (X : Nat → List Int) (w : World) (h : RdSS w (.slice a m cap) m X) (hok : okMl X m) (A : Hid (∀ wx, Below w.heap.size w wx → Calls Try.prog 70 #[.agg #[.slice a m cap]] wx (SaysB true wx))) :
    Calls Try.prog 51 #[.agg #[.slice a m cap]] w (ResI (trim (arL (supF X m))) 0 w) := by
  have t2 := Try.underlying40
  have tq := Try.underlying56
  have B0 : Hid (Below w.heap.size w (w.alloc (.cells #[.slice a m cap] 40))) := Lib.hid ((Below.refl w.heap.size w).alloc (Nat.le_refl _) _)
  have BX : Hid (Box1 (w.alloc (.cells #[.slice a m cap] 40)) w.heap.size 40 (.slice a m cap)) := Lib.hid (Box1.new _ _ _)
  have hm2 : m ≤ 2000 := hok.1.1
  have HX : Hid (∀ i, i < m → okX (X i)) := Lib.hid (fun i hi => okX_of (hok.2 i hi).1)
  have LL := Lib.hid (fun (wx : World) (hb : Below w.heap.size w wx) => lists_rows (h.below hb) (by omega) HX.out)
  clear h hok
  go_enter Try.func51, Try.ntmps51
  go_wp2_with fail
  refine (A.out _ B0.out).mono ?_
  rintro e w2 ⟨rfl, b2⟩
  have B2 := Lib.hid (B0.out.step1 b2)
  have BX2 := Lib.hid (BX.out.up b2)
  clear b2 B0 BX A
  obtain ⟨w3, hw3⟩ : ∃ w3, w3 = w2.alloc (.cells (arK zeroF) 56) := ⟨_, rfl⟩
  have b3 : Below w2.heap.size w2 w3 := by rw [hw3]; exact (Below.refl _ _).alloc (Nat.le_refl _) _
  have A3 : Hid (ArAt w3 w2.heap.size zeroF) := Lib.hid (by rw [hw3]; exact ArAt.new _ _)
  have B3 := Lib.hid (B2.out.step1 b3)
  have c3 := (BX2.out.up b3).c
  have GE : Hid (w.heap.size ≤ w2.heap.size) := Lib.hid B2.out.size
  have LT3 : Hid (w2.heap.size < w3.heap.size) := Lib.hid A3.out.lt
  rw [arK_zero] at hw3
  go_upto_region 4 with fail
  rw [← hw3]
  clear hw3 b3 B2 BX2
  generalize w2.heap.size = ab at *
  go_wp2_with fail
  obtain ⟨VS, L1⟩ := LL.out _ B3.out
  refine L1.mono ?_
  rintro e wm ⟨rfl, b4, k, D, SV, hk, M⟩
  have AM : Hid (ArAt wm ab zeroF) := Lib.hid (A3.out.up b4)
  have BM : Hid (Below w.heap.size w wm) := Lib.hid (B3.out.step1 b4)
  have HNI : Hid (ab ≠ wm.heap.size) := Lib.hid (by have := AM.out.lt; omega)
  have HNG : Hid (ab ≠ w3.heap.size) := Lib.hid (by have := LT3.out; omega)
  clear b4 A3 B3 LT3
  generalize w3.heap.size = g at *
  have OWN := Lib.hid M.own
  have ST : Hid (∀ w0, wm.grownBy w0 none → w0.ranges Try.prog 56 RawQ g wm.heap.size k D (Maps.has D) (Maps.size D) → ElJ w m g wm.heap.size k D X ab zeroF (Maps.has D) (Maps.size D) w0) := Lib.hid fun w0 hg0 hr0 =>
    ⟨RgJ.start BM.out M hg0 hr0, (hg0.block ab AM.out.lt (fun e => by cases e)).trans AM.out, fun t ht => .inl rfl, fun t ht => Int.le_refl _, GE.out, HNG.out, HNI.out⟩
  clear M L1 LL hk c3 HNG AM BM GE
  go_wp2_with (at_range; refine wpList_range_own _ rfl _ 69 rfl 56 35 keyedQ Try.underlying69 RawQ g k D rfl OWN.out ?_; intro w0 hrg0 hg0 hs0)
  have J0 := Lib.hid (ST.out w0 hg0 hrg0)
  clear hrg0 hg0 hs0 ST OWN HNI
  generalize wm.heap.size = it at *
  go_wp2_with fail
  go_frame
  go_loopw [5] (fun _ wz => ∃ (f : Nat → Int) (left : Lit → Bool) (cnt : Nat), Hid (ElJ w m g it k D X ab f left cnt wz)) (fun _ wz => wz.rangeLeft g it)
  case atStart => exact ⟨_, _, _, J0⟩
  case round =>
    clear J0
    obtain ⟨f, left, cnt, hJ⟩ := hrel
    have hrg := hJ.out.j.rg
    go_wp2_with (at_next; refine wpList_next_ranges _ rfl _ rfl 56 keyedQ RawQ (fun x : PKey => .agg x.1) id (fun key kl hk => by obtain ⟨k, e, hk'⟩ := keyQ_inv hk; exact ⟨⟨k, hk'⟩, e⟩) (fun v _ _ => ⟨v, rfl⟩) g it k D left cnt rfl hrg ?_ ?_)
    · intro hc0 hl0
      have HF : Hid (trim (arL (supF X m)) = trim (arL f)) := Lib.hid (by rw [arL_congr (hJ.out.fin HX.out hl0)])
      have BE := Lib.hid hJ.out.j.bel
      have HRA := Lib.hid hJ.out.a.range
      have S5 := Lib.hid (arK_size f)
      have NB := Lib.hid (fun wx => numbers_any f wx)
      clear hrg hc0 hl0 hJ
      generalize arK f = KF at *
      go_wp2_with (refine ldKQ rfl _ rfl ab 0 rfl KF HRA.out S5.out ?_)
      refine (NB.out _).mono ?_
      rintro e w9 ⟨u, rfl, ho, b9⟩
      have O9 := Lib.hid (own_base ho BE.out.size)
      have B9 := Lib.hid (BE.out.step1 b9)
      clear ho b9
      go_wp2_with fail
      go_ret2
      rw [HF.out]
      exact ⟨u, rfl, O9.out, B9.out⟩
    · intro K hK c kl y1 y2 w4 cnt4 hkey hlk hR hat hrg4 hlt4 hg4 hs4 hen
      have hhas : Maps.has D kl = true := has_true_of_atKey hat
      obtain ⟨i0, hi0, ek⟩ := hJ.out.j.has_ K kl hkey hhas
      have ek2 : K = arK (lnX (X i0)) := ek.symm
      have hLq := hJ.out.j.rg.left_eq
      have SN : Hid (∀ w6, Below w4.heap.size w4 w6 → ElJ w m g it k D X ab (joinF f (lnX (X i0))) (fun z => left z && !z.sameKey kl) cnt4 (w6.setRow ab (arK (joinF f (lnX (X i0)))))) := Lib.hid (fun w6 b => hJ.out.step HX.out hi0 (by rw [ek]; exact hkey) hg4 hrg4 b)
      have A4 : Hid (ArAt w4 ab f) := Lib.hid ((hg4.block ab hJ.out.a.lt (fun e => hJ.out.nei (by injection e))).trans hJ.out.a)
      have JA := Lib.hid (fun wx => join_any f (lnX (X i0)) wx)
      have S5 := Lib.hid (arK_size (lnX (X i0)))
      have S1 := Lib.hid (arK_one (lnX (X i0)))
      have S6 := Lib.hid (arK_size f)
      have S8 := Lib.hid (arK_one (joinF f (lnX (X i0))))
      have SZ := Lib.hid (sizeAr (joinF f (lnX (X i0))))
      have SQ : Hid ((arK f).size = (arK (joinF f (lnX (X i0)))).size) := Lib.hid (by rw [arK_size, arK_size])
      have RN := Lib.hid (loadNewQ w4 _ S5.out)
      have b5 : Below w4.heap.size w4 (w4.alloc (.cells (arK (lnX (X i0))) 56)) := (Below.refl _ _).alloc (Nat.le_refl _) _
      have RF := Lib.hid (A4.out.up b5).range
      have HA6 : Hid (∀ w6, Below (w4.alloc (.cells (arK (lnX (X i0))) 56)).heap.size (w4.alloc (.cells (arK (lnX (X i0))) 56)) w6 → w6.heap[ab]? = some (.cells (arK f) 56 (0, 0)) ∧ Below w4.heap.size w4 w6) := Lib.hid (fun w6 b6 => ⟨(A4.out.up b5).up b6, b5.step1 b6⟩)
      clear hhas ek hkey hlk hR hat hrg4 hg4 hs4 hrg hJ b5
      subst ek2
      unfold SaysA at JA
      generalize arK (lnX (X i0)) = KF at *
      generalize arK (joinF f (lnX (X i0))) = KJ at *
      generalize arK f = KA at *
      go_wp2_with (first
        | (refine stKQ w4 rfl _ _ rfl rfl KF rfl S5.out S1.out ?_)
        | (refine ldKQ rfl _ rfl ab 0 rfl KA RF.out S6.out ?_)
        | (refine ldKQ rfl _ rfl w4.heap.size 0 rfl KF RN.out S5.out ?_))
      refine (JA.out _).mono ?_
      rintro e w6 ⟨rfl, b6⟩
      obtain ⟨HO, b7⟩ := HA6.out w6 b6
      have HO := Lib.hid HO
      have J7 := Lib.hid (SN.out w6 b7)
      clear b6 b7 SN HA6
      go_wp2_with (refine wpList_store_row rfl 56 _ _ rfl ab KJ rfl rfl 56 _ HO.out SZ.out SQ.out S8.out ?_)
      simp only [Act.put]
      go_roundw
      case rel => exact ⟨_, _, cnt4, J7⟩
      case measure => rw [J7.out.j.rg.left_eq, hLq]; exact hlt4
end Go.Proofs.Ytcbfcpngpnlodaa
end
