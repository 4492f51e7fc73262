/-
  Joined: RRed.
-/
import Derived.Test.YtldlpeohdindaaaZeneratorForm33
import Derived.Test.YtldlpeohdindaaaZeneratorForm34
import Derived.Test.YtldlpeohdindaaaZeneratorForm29
import Derived.WalkMore
section
namespace Go.Proofs.Ytldlpeohdindaaa
open Go.RowKit Go.Maps
set_option linter.unusedVariables false
set_option maxRecDepth 100000

theorem drop_last (xs : List Int) (k : Nat) (hk : k < xs.length) : xs.drop (xs.length - 1 - k) = (xs[xs.length - 1 - k]?.getD 0) :: xs.drop (xs.length - k) := by
  have := drop_consL xs (xs.length - 1 - k) (by omega)
  rw [this, show xs.length - 1 - k + 1 = xs.length - k by omega]

/-- The activation in the loop over the words. -/
structure OutI (R K gk gp : Nat) (w0 wB : World) (a : Option Addr) (m cap : Nat) (X : Nat → List Int) (av : Act) (W : World) : Prop where
  st : ∃ (k : Nat) (S : Value) (A : List (List Int)) (Mk : Nat → Prop) (DD : List Nat) (j7 j8 j17 j18 j19 j20 j21 j22 j23 j33 j34 j35 j36 : Value), av = { tmps := #[.pointer (some ⟨R, 0, none⟩), .slice a m cap, .pointer (some ⟨w0.heap.size, 0, none⟩), undef, .pointer (some ⟨w0.heap.size + 1, 0, none⟩), S, undef, j7, j8, undef, undef, undef, undef, undef, .slice a m cap, .int .i64 m, .int .i64 k, j17, j18, j19, j20, j21, j22, j23, undef, undef, undef, undef, undef, undef, undef, undef, undef, j33, j34, j35, j36, undef, undef, undef, undef, undef, undef, undef, undef, undef, undef, undef, undef, undef, undef, undef, undef, undef, undef, undef], defers := marksOf DD } ∧ k ≤ m ∧ A.length ≤ k * 100 ∧ RedSt R K gk gp wB Mk DD ((rowsL X k).flatMap formF) S A W

/-- What holds when k letters of a word are done. -/
structure InI (R K gk gp : Nat) (wB : World) (Mk : Nat → Prop) (DD : List Nat) (T : List (List Int)) (S : Value) (A : List (List Int)) (B8 : Nat) (xs : List Int) (k : Nat) (W : World) : Prop where
  st : RedSt R K gk gp wB Mk DD T S A W
  bx : ∃ (u : Value) (L : List (List Int)), W.heap[B8]? = some (.cells #[u] 70 (0, 0)) ∧ L.Nodup ∧ (∀ y, y ∈ L ↔ par (formF (xs.drop (xs.length - k))) y) ∧ RdQ W u (L.map packK)

theorem InI.put {R K gk gp : Nat} {wB : World} {Mk : Nat → Prop} {DD : List Nat} {T A : List (List Int)} {S : Value} {B8 : Nat} {xs : List Int} {k : Nat} {W : World} (h : InI R K gk gp wB Mk DD T S A B8 xs k W) (hx : LW xs) {l : Nat} {o : Obj} (o' : Obj) (hl : W.heap[l]? = some o) (ho : o.isCells = false) (hm : Mk l) (hd : l ∉ DD) : InI R K gk gp wB Mk DD T S A B8 xs k (W.putObj l o') := by
  have k1 := OneOff.put W l o'
  refine ⟨h.st.off k1 hm hd (own_ne_obj h.st.t.own hl ho), ?_⟩
  obtain ⟨u, L, h1, h2, h3, h4⟩ := h.bx
  have hf : ∀ y ∈ L, fits y := fun y hy => by
    have := formF_ok _ (hx.drop (xs.length - k)) y (par_mem _ _ ((h3 y).1 hy))
    exact adm_fits this.1 (by rw [this.2]; exact (hx.drop _).2)
  refine ⟨u, L, (k1.block B8 (fun e => ?_)).trans h1, h2, h3, h4.off (packs_ok hf) k1 (.inl ⟨o, hl, ho⟩)⟩
  rw [e, hl] at h1
  cases h1
  cases ho

/-- A body that comes to its end or returns. -/
def retOnly (G : Act → World → Prop) : Exit → Act → World → Prop
  | .normal, a, w | .ret, a, w => G a w
  | _, _, _ => False

attribute [local go_sem] Oper.semAt_some

set_option maxHeartbeats 2000000 in
theorem reduced_any (R K gk gp : Nat) (v : Value) (m : Nat) (X : Nat → List Int) (w : World) (hI : RInv R K gk gp (fun _ => False) w) (h : RdSS w v m X) (hm : m ≤ 1000000) (hX : ∀ i, i < m → LW (X i)) (d : Int) (hd0 : 0 ≤ d ∧ d ≤ 40) (hd : ∀ i, i < m → (X i).sum = d) :
    Calls Try.prog 31 #[.pointer (some ⟨R, 0, none⟩), v] w fun e w' => ∃ V VS zs, e = .returned (.agg #[V]) ∧ FamL w' w.heap.size V VS zs ∧ Sep zs.length VS ∧ Asc zs ∧ (∀ y, y ∈ zs ↔ par ((rowsL X m).flatMap formF) y) ∧ RInv R K gk gp (fun _ => False) w' ∧ Kp2 gk gp w w' := by
  obtain ⟨⟨a, cap, rfl⟩, hsm, VS, hc, hr⟩ := h
  unfold maxLen at hsm
  obtain ⟨wB, hwB⟩ : ∃ wB, wB = (w.alloc (.cells #[.pointer (some ⟨R, 0, none⟩)] 50)).alloc (.cells #[.slice none 0 0] 24) := ⟨_, rfl⟩
  have b0 : Below w.heap.size w wB := by rw [hwB]; exact ((Below.refl _ w).alloc (Nat.le_refl _) _).alloc (by simp) _
  have HSB : Hid (wB.heap.size = w.heap.size + 2) := Lib.hid (by rw [hwB]; simp)
  have BX2 : Hid (Box1 wB w.heap.size 50 (.pointer (some ⟨R, 0, none⟩))) := Lib.hid (by rw [hwB]; exact (Box1.new w _ _).alloc _)
  have BX4 : Hid (Box1 wB (w.heap.size + 1) 24 (.slice none 0 0)) := Lib.hid (by
    have := Box1.new (w.alloc (.cells #[.pointer (some ⟨R, 0, none⟩)] 50)) 24 (.slice none 0 0)
    rw [World.size_alloc] at this
    rw [hwB]; exact this)
  have IB := Lib.hid (hI.below b0)
  have HC : Hid (m = 0 ∨ ∃ b off, a = some ⟨b, off, none⟩ ∧ ∀ i, i < m → wB.cell? ⟨b, off + i, none⟩ = some (VS i)) := Lib.hid (by
    rcases hc with h0 | ⟨b, off, ⟨cap', e⟩, hc⟩
    · exact .inl h0
    · simp only [Value.slice.injEq] at e
      exact .inr ⟨b, off, e.1, fun i hi => (b0.cell (p := ⟨b, off + i, none⟩) (World.block_lt_of_cell? w _ (hc i hi))).trans (hc i hi)⟩)
  have HR : Hid (∀ i, i < m → RdI wB (VS i) (X i).length (fun j => (X i)[j]?.getD 0)) := Lib.hid fun i hi => (hr i hi).below b0
  have HX := Lib.hid hX
  have HTD : Hid (∀ y ∈ (rowsL X m).flatMap formF, isAdm y ∧ y.sum = d) := Lib.hid fun y hy => by
    obtain ⟨x, hx, hy⟩ := List.mem_flatMap.1 hy
    obtain ⟨i, hi, rfl⟩ := mem_rowsL hx
    have := formF_ok _ (hX i hi) y hy
    exact ⟨this.1, this.2.trans (hd i hi)⟩
  have HB0 := Lib.hid b0
  clear hc hr hX hI b0 hd
  refine callsIn_wide (n := 3).1 ?_
  refine callsIn_of_wp_marks Try.func31 rfl trivial ?_ rfl
  simp only [Try.ntmps31, List.size_toArray, List.length_cons, List.length_nil, Nat.reduceAdd, Nat.reduceSub, Array.replicate_succ, Array.replicate_zero, List.push_toArray, List.append_toArray, List.nil_append, List.cons_append]
  rw [wpIn_wide]
  refine wp_mono (Q := retOnly fun av W => LeavesInM Fence.wide 3 Try.prog Try.f31 av.tmps (fun e w' => ∃ V VS zs, e = .returned (.agg #[V]) ∧ FamL w' w.heap.size V VS zs ∧ Sep zs.length VS ∧ Asc zs ∧ (∀ y, y ∈ zs ↔ par ((rowsL X m).flatMap formF) y) ∧ RInv R K gk gp (fun _ => False) w' ∧ Kp2 gk gp w w') av.defers .returning W) ?_ ?_
  rotate_left
  · intro e av W h
    cases e <;> first | exact h | exact h.elim
  go_wp2_with fail
  go_step3
  go_wp2_with fail
  go_step3
  go_wp2_with fail
  refine wp_loop (OutI R K gk gp w wB a m cap X)  (fun av _ => m - (intOf (av.tmps.getD 16 undef)).toNat) ?start ?round
  case start =>
    have := RedSt.start IB.out
    rw [← hwB]
    exact ⟨0, _, [], _, [], undef, undef, undef, undef, undef, undef, undef, undef, undef, undef, undef, undef, undef, rfl, Nat.zero_le _, Nat.zero_le _, this⟩
  case round =>
  clear hwB
  rintro av wr ⟨k, S, A, Mk, DD, j7, j8, j17, j18, j19, j20, j21, j22, j23, j33, j34, j35, j36, rfl, hk, hA, hS⟩
  have m1 := IB.out.m1
  have m2 := IB.out.m2
  by_cases hlt : k < m
  · obtain ⟨b, off, rfl, hcell⟩ := HC.out.resolve_left (by omega)
    have hlt' : (k : Int) < (m : Int) := by omega
    have hci := hcell k hlt
    have ck : wr.cell? ⟨b, off + k, none⟩ = some (VS k) := (hS.t.kp.cell (p := ⟨b, off + k, none⟩) (World.block_lt_of_cell? wB _ hci) (m1.ne hci) (m2.ne hci)).trans hci
    have hrk := (HR.out k hlt).kp m1 m2 hS.t.kp
    have hxk := HX.out k hlt
    have HT : Hid ((rowsL X (k + 1)).flatMap formF = (rowsL X k).flatMap formF ++ formF (X k)) := Lib.hid (by rw [rowsL_succ, List.flatMap_append, List.flatMap_cons, List.flatMap_nil, List.append_nil])
    obtain ⟨xs, hxs⟩ : ∃ xs, X k = xs := ⟨_, rfl⟩
    obtain ⟨vk, hvk⟩ : ∃ v, VS k = v := ⟨_, rfl⟩
    rw [hxs] at hrk hxk HT
    rw [hvk] at ck hrk
    have HRK := Lib.hid hrk
    obtain ⟨ak, capk, rfl, _, _⟩ := hrk
    have HS := Lib.hid hS
    have HLW := Lib.hid hxk
    have bx2 := (BX2.out.c)
    clear hcell hci hS hxs hvk hxk bx2
    go_wp2_with fail
    refine (backward_any _ _ _ _).mono ?_
    rintro e w2 ⟨rfl, hw2⟩
    have HSZ : Hid (w2.heap.size = wr.heap.size + 3) := Lib.hid (by rw [hw2]; simp)
    have B2 : Hid (Below wr.heap.size wr w2) := Lib.hid (by rw [hw2]; exact ((((Below.refl _ wr).alloc (Nat.le_refl _) _).alloc (by simp) _).alloc (by simp; omega) _))
    have BXF : Hid (w2.heap[wr.heap.size + 1]? = some (.cells #[.slice (some ⟨wr.heap.size, 0, none⟩) 1 1] 70 (0, 0))) := Lib.hid (by
      rw [hw2, heap_alloc_old _ _ (by simp)]
      have := heap_alloc_new (wr.alloc (.cells #[.int .u8 0, .int .u8 0, .int .u8 0, .int .u8 0, .int .u8 0, .int .u8 0, .int .u8 0, .int .u8 0] 72)) (.cells #[.slice (some ⟨wr.heap.size, 0, none⟩) 1 1] 70)
      rw [World.size_alloc] at this
      exact this)
    have BXS : Hid (w2.heap[wr.heap.size + 2]? = some (.cells #[.slice ak xs.length capk] 46 (0, 0))) := Lib.hid (by
      rw [hw2]
      have := heap_alloc_new ((wr.alloc (.cells #[.int .u8 0, .int .u8 0, .int .u8 0, .int .u8 0, .int .u8 0, .int .u8 0, .int .u8 0, .int .u8 0] 72)).alloc (.cells #[.slice (some ⟨wr.heap.size, 0, none⟩) 1 1] 70)) (.cells #[.slice ak xs.length capk] 46)
      simp only [World.size_alloc] at this
      exact this)
    have RW0 : Hid (RdQ w2 (.slice (some ⟨wr.heap.size, 0, none⟩) 1 1) ([[]].map packK)) := Lib.hid (by
      refine ⟨_, 1, rfl, by unfold maxLen; simp, .inr ⟨wr.heap.size, 0, rfl, fun i hi j u hj => ?_⟩⟩
      have h0 : i = 0 := by simpa using hi
      subst h0
      have hh : w2.heap[wr.heap.size]? = some (.cells #[.int .u8 0, .int .u8 0, .int .u8 0, .int .u8 0, .int .u8 0, .int .u8 0, .int .u8 0, .int .u8 0] 72 (0, 0)) := by
        rw [hw2, heap_alloc_old _ _ (by simp; omega), heap_alloc_old _ _ (by simp)]
        exact heap_alloc_new _ _
      have e : ([[]].map packK)[0]?.getD #[] = packK [] := rfl
      rw [e, packK_nil] at hj
      rw [World.cell?, hh]
      simpa using hj)
    have HRK2 := Lib.hid (HRK.out.below B2.out)
    clear hw2
    go_wp2_with fail
    have hB2 := HSZ.out
    obtain ⟨ltr, hltr⟩ : ∃ f : Nat → Int, Hid (f = fun i => xs[xs.length - 1 - i]?.getD 0) := ⟨_, Lib.hid rfl⟩
    have hkp := HS.out.t.kp.size
    have hgk : gk < wB.heap.size := by obtain ⟨es, c, hb⟩ := m1; exact (Array.getElem?_eq_some_iff.1 hb).1
    have hgp : gp < wB.heap.size := by obtain ⟨es, c, hb⟩ := m2; exact (Array.getElem?_eq_some_iff.1 hb).1
    have HG := Lib.hid (And.intro hgk hgp)
    have DLOW : Hid (∀ D ∈ DD, D < wr.heap.size) := Lib.hid fun D hD => (HS.out.low D (HS.out.dx D hD)).2
    have ROW : 0 < xs.length → ∀ g, (Value.slice ak xs.length capk).ownBlock = some g → g < w2.heap.size ∧ ¬ (g = gk ∨ g = gp ∨ g = wr.heap.size + 1) := by
      intro h0 g hg
      obtain ⟨a2, c2, e2, _, h5⟩ := HRK.out
      obtain ⟨b2, o2, rfl, h2⟩ := Or.resolve_left h5 (by omega)
      cases e2
      simp only [Value.ownBlock, Option.some.injEq] at hg
      subst hg
      have h3 := h2 0 h0
      have h4 := World.block_lt_of_cell? wr _ h3
      simp only at h4
      refine ⟨by omega, ?_⟩
      rintro (e | e | e)
      · exact HS.out.t.inv.m1.ne h3 e
      · exact HS.out.t.inv.m2.ne h3 e
      · omega
    refine wpIn_wide (n := 3).1 (range_next (P := Try.prog) (gf := 67) (lb := #[.pointer (some ⟨wr.heap.size + 1 + 1, 0, none⟩)]) rfl (enters_of Try.func67 (by kernel_rfl) rfl) (N := xs.length) (enc := encB xs)
      (Kp := KpY w2.heap.size (fun g => g = gk ∨ g = gp ∨ g = wr.heap.size + 1)) (back_seq (wr.heap.size + 2) w2.heap.size _ xs _ w2 BXS.out ⟨by omega, ?hne⟩ HRK2.out ROW) (fun _ => rfl) (fun h k => h.trans k) ?kp ?k0
      (fun i W => InI R K gk gp wB (fun g => Mk g ∨ g = wr.heap.size + 1 ∨ g = w2.heap.size ∨ g = w2.heap.size + 1) DD ((rowsL X k).flatMap formF) S A (wr.heap.size + 1) xs i W)
      (fun id W => id = 1 ∧ RedSt R K gk gp wB (fun g => Mk g ∨ g = wr.heap.size + 1 ∨ g = w2.heap.size ∨ g = w2.heap.size + 1) DD ((rowsL X k).flatMap formF) S A W ∧ ∀ y, ¬ par (formF xs) y)
      ?ip ?ixp ?i0 (fun i => { tmps := #[.pointer (some ⟨R, 0, none⟩), .slice (some ⟨b, off, none⟩) m cap, .pointer (some ⟨w.heap.size, 0, none⟩), undef, .pointer (some ⟨w.heap.size + 1, 0, none⟩), S, undef, .slice ak xs.length capk, .pointer (some ⟨wr.heap.size + 1, 0, none⟩), undef, .int .i64 (ltr i), undef, undef, undef, .slice (some ⟨b, off, none⟩) m cap, .int .i64 m, .int .i64 k, .bool true, .pointer (some ⟨b, off + k, none⟩), .slice ak xs.length capk, .agg #[.int .u8 0, .int .u8 0, .int .u8 0, .int .u8 0, .int .u8 0, .int .u8 0, .int .u8 0, .int .u8 0], .slice (some ⟨wr.heap.size, 0, none⟩) 1 1, .slice ak xs.length capk, .func (.func 67) #[] #[.pointer (some ⟨wr.heap.size + 1 + 1, 0, none⟩)], .int .i64 ((xs.length : Int) - 1 - i), .int .i64 (ltr i), undef, undef, undef, undef, undef, undef, undef, j33, j34, j35, j36, undef, undef, undef, undef, undef, undef, undef, undef, undef, undef, undef, undef, undef, undef, undef, undef, undef, undef, undef], defers := [] }) ?assign ?body ?done ?stop)
    case hne => rintro (h | h | h) <;> omega
    case kp =>
      rintro W q o o' rfl hq ho
      exact ⟨by simp, fun b hb _ => World.putObj_heap_other (by omega)⟩
    case k0 =>
      intro o o'
      exact ⟨by simp; omega, fun b hb _ => by rw [heap_alloc_old _ _ (by simp; omega), heap_alloc_old _ _ hb]⟩
    case ip =>
      rintro i W q o o' hi rfl hq ho
      exact hi.put HLW.out o' hq ho (.inr (.inr (.inr rfl))) fun hd => by have := DLOW.out _ hd; omega
    case ixp =>
      rintro id W q o o' ⟨h1, h2, h3⟩ rfl hq ho
      exact ⟨h1, h2.off (OneOff.put W _ o') (.inr (.inr (.inr rfl))) (fun hd => by have := DLOW.out _ hd; omega) (own_ne_obj h2.t.own hq ho), h3⟩
    case i0 =>
      intro o o'
      have bb : Below wr.heap.size wr ((w2.alloc o).alloc o') := (B2.out.alloc (by omega) _).alloc (by simp; omega) _
      refine ⟨HS.out.more bb (fun g hg => .inl hg) (fun g hg => ?_), .slice (some ⟨wr.heap.size, 0, none⟩) 1 1, [[]], ?_, by simp, fun y => ?_, ?_⟩
      · rcases hg with hg | hg | hg | hg
        · exact .inl hg
        · exact .inr ⟨by omega, by simp; omega⟩
        · exact .inr ⟨by omega, by simp; omega⟩
        · exact .inr ⟨by omega, by simp; omega⟩
      · exact (((Below.refl _ w2).alloc (Nat.le_refl _) o).alloc (by simp) o').block _ (by omega) |>.trans BXF.out
      · rw [Nat.sub_zero, List.drop_length]
        show y ∈ [[]] ↔ par [[]] y
        rw [par_nodup [([] : List Int)] (by simp)]
      · exact RW0.out.below (packs_ok (L := [[]]) fun y hy => by rw [List.mem_singleton.1 hy]; exact ⟨Nat.zero_le _, fun i hi => absurd hi (Nat.not_lt_zero _)⟩) (((Below.refl _ w2).alloc (Nat.le_refl _) o).alloc (by simp) o')
    case assign =>
      intro l i W KK hKK
      have h1 : encB xs i = #[.int .i64 ((xs.length : Int) - 1 - i), .int .i64 (ltr i)] := by rw [hltr.out]; rfl
      rw [h1]
      clear h1
      generalize Fence.wide = F
      gi_wp2
      exact hKK
    case body =>
      intro l i W hi hI
      have hS := hI.st
      obtain ⟨u, L, bx, nd, mm, rd⟩ := hI.bx
      have hdr := drop_last xs i hi
      have hx : xs[xs.length - 1 - i]?.getD 0 = ltr i := by rw [hltr.out]
      rw [hx] at hdr
      have LWd := HLW.out.drop (xs.length - 1 - i)
      rw [hdr] at LWd
      obtain ⟨L1, L2, L3, L4⟩ := LWd.tail
      have FO := formF_ok _ L1
      obtain ⟨hlen, hz⟩ := few_of nd mm L4 (by omega) FO
      have hok : ∀ z ∈ L, okT (ltr i) z ∧ mu (ltr i) z < 1700 := fun z h =>
        have o : okT (ltr i) z := ⟨by omega, (hz z h).1, by rw [(hz z h).2]; exact L3⟩
        ⟨o, o.mu⟩
      have TM := timesSum_any R K gk gp (fun g => (Mk g ∨ g = wr.heap.size + 1 ∨ g = w2.heap.size ∨ g = w2.heap.size + 1) ∨ S.ownBlock = some g) (ltr i) L u W hS.lowX hS.t.inv rd hlen hok
      have hp : ∀ y, par (L.flatMap (admF 1700 (ltr i))) y ↔ par (formF (xs.drop (xs.length - (i + 1)))) y := fun y => by
        rw [show xs.length - (i + 1) = xs.length - 1 - i by omega, hdr]
        exact par_flatMap _ _ _ _ fun z => by rw [par_nodup L nd, mm]
      have FN := formF_ok _ LWd
      have HFN : Hid (∀ y, par (formF (xs.drop (xs.length - (i + 1)))) y → isAdm y ∧ y.sum ≤ 40) := Lib.hid fun y hy => by
        rw [show xs.length - (i + 1) = xs.length - 1 - i by omega, hdr] at hy
        have := FN y (par_mem _ _ hy)
        exact ⟨this.1, by rw [this.2]; exact LWd.2⟩
      have C : CallsIn (Fence.wide.inRound l) 0 Try.prog 53 #[.pointer (some ⟨R, 0, none⟩), .int .i64 (ltr i), u] W _ := (callsIn_wide (n := 0)).2 TM
      have h42 : (Fence.wide.inRound l).fn 53 := trivial
      have e42 : ∀ args w, (callFunc 53 args).run Try.prog w = .ok (.enter 53 args) w := enters_of Try.func53 (by kernel_rfl) rfl
      have hm2 : w.heap.size ≠ gk ∧ w.heap.size ≠ gp := ⟨IB.out.m1.ne_cells BX2.out, IB.out.m2.ne_cells BX2.out⟩
      have hbx2 := heap_kp BX2.out m1 m2 hS.t.kp
      have hc2 : W.cell? ⟨w.heap.size, 0, none⟩ = some (.pointer (some ⟨R, 0, none⟩)) := Box1.c hbx2
      have hc8 : W.cell? ⟨wr.heap.size + 1, 0, none⟩ = some u := Box1.c bx
      have HP := Lib.hid hp
      have HS1 := Lib.hid hS
      have HBX := Lib.hid bx
      have HLEN := Lib.hid hlen
      have CC := Lib.hid C
      clear hI hdr hx LWd L1 L2 L3 L4 FO hz hok TM hp FN hbx2 bx hS mm rd nd hlen hm2 C
      generalize Fence.wide = F at CC h42 ⊢
      gi_wp2
      refine ⟨h42, CC.out.mono ?_⟩
      rintro e w3 ⟨u3, L3, rfl, nd3, mm3, rd3, in3, kp3⟩
      have hbx3 : Box1 w3 (wr.heap.size + 1) 70 u := heap_kp HBX.out HS1.out.t.inv.m1 HS1.out.t.inv.m2 kp3
      have hS3 := HS1.out.call in3 kp3
      have hm3 : ∀ y, y ∈ L3 ↔ par (formF (xs.drop (xs.length - (i + 1)))) y := fun y => (mm3 y).trans (HP.out y)
      have hf3 : ∀ y ∈ L3, fits y := fun y hy => by
        have := HFN.out y ((hm3 y).1 hy)
        exact adm_fits this.1 this.2
      have o8 := OneOff.set w3 (wr.heap.size + 1) u3
      have hn8 : S.ownBlock ≠ some (wr.heap.size + 1) := own_ne_cells hS3.t.own hbx3 (by decide)
      have hd8 : wr.heap.size + 1 ∉ DD := fun hd => by have := DLOW.out _ hd; omega
      have S4 := Lib.hid (hS3.off o8 (.inr (.inl rfl)) hd8 hn8)
      have hw2s : w2.heap.size ≤ W.heap.size := by have := (HS1.out.low w2.heap.size (.inr (.inr (.inl rfl)))).2; omega
      have KF : Hid (KeepsFrom w2.heap.size W (w3.setCell ⟨wr.heap.size + 1, 0, none⟩ u3) ∧ KpY w2.heap.size (fun g => g = gk ∨ g = gp ∨ g = wr.heap.size + 1) W (w3.setCell ⟨wr.heap.size + 1, 0, none⟩ u3)) := Lib.hid (by
        have hg := HG.out
        have ks := kp3.size
        refine ⟨⟨by rw [o8.size]; exact ks, fun q o hq h1 _ => ?_⟩, by rw [o8.size]; exact ks, fun q hq hy => ?_⟩
        · exact (o8.block q (by omega)).trans ((kp3.block q (Array.getElem?_eq_some_iff.1 h1).1 (by omega) (by omega)).trans h1)
        · have h1 : q ≠ gk := fun e => hy (.inl e)
          have h2 : q ≠ gp := fun e => hy (.inr (.inl e))
          have h3 : q ≠ wr.heap.size + 1 := fun e => hy (.inr (.inr e))
          exact (o8.block q h3).trans (kp3.block q (by omega) h1 h2))
      have RD4 := Lib.hid (rd3.off (packs_ok hf3) o8 (.inr ⟨_, _, _, hbx3⟩))
      have BX4' := Lib.hid (hbx3.set u3)
      have HBX3 := Lib.hid hbx3
      have ND3 := Lib.hid nd3
      have MM3 := Lib.hid hm3
      obtain ⟨a3, c3, rfl, _, _⟩ := rd3
      rw [List.length_map] at *
      have hc3 := HBX3.out.c
      have hf8 := HBX3.out.fr 0
      clear CC hS3 hbx3 hm3 hf3 o8 hn8 hd8 hw2s nd3 mm3 in3 kp3 hc2 hc8
      by_cases h0 : L3.length = 0
      · obtain rfl : L3 = [] := List.eq_nil_of_length_eq_zero h0
        clear h0
        have hz : ∀ y, ¬ par (formF xs) y := by
          refine form_zero (xs.length - (i + 1)) xs fun y hy => ?_
          have := (MM3.out y).2 hy
          cases this
        have HZ := Lib.hid hz
        clear hz
        gi_wp2
        exact ⟨KF.out.1, rfl, S4.out, HZ.out⟩
      · have h0' : ¬ (L3.length : Int) = 0 := by omega
        gi_wp2
        exact ⟨KF.out.1, KF.out.2, S4.out, _, L3, BX4'.out, ND3.out, MM3.out, RD4.out⟩
    case done =>
      intro W hI hD
      obtain ⟨u, L, bx, nd, mm, rd⟩ := hI.bx
      rw [Nat.sub_self, List.drop_zero] at mm
      have hS := hI.st.mark hD (.inr (.inr (.inl rfl))) (fun hd => by have := DLOW.out _ hd; omega)
      have FK := formF_ok xs HLW.out
      obtain ⟨hlen, hz⟩ := few_of nd mm (LW_sum HLW.out.1) HLW.out.2 FK
      have hf : ∀ y ∈ L, fits y := fun y hy => adm_fits (hz y hy).1 (by rw [(hz y hy).2]; exact HLW.out.2)
      have hc8 : W.cell? ⟨wr.heap.size + 1, 0, none⟩ = some u := Box1.c bx
      have PM := Lib.hid (par_of_mem nd mm)
      have HS2 := Lib.hid hS
      have HF := Lib.hid hf
      have RD := Lib.hid rd
      have HL : A.length + L.length ≤ (k + 1) * 100 := by rw [Nat.succ_mul]; omega
      have hA9 : A.length ≤ 100000000 := by omega
      have hk1 : ((k + 1 : Nat) : Int) = (k : Int) + 1 := by omega
      clear hI hS hD hf bx nd mm rd FK hz hB2
      go_wp2_with (at_builtin; refine wpList_appQ W rfl _ _ rfl wB.heap.size _ (A.map packK) rfl HS2.out.t.own u (L.map packK) rfl RD.out (packs_ok HF.out) (by rw [List.length_map, List.length_map]; omega) HS2.out.t.kp.size ?_; intro v3 w3 ho3 hg3 hl3; have S3 := Lib.hid (HS2.out.app ho3 hg3 hl3 PM.out HF.out); clear ho3 hg3 hl3)
      refine ⟨⟨k + 1, v3, A ++ L, _, w2.heap.size :: DD, _, _, _, _, _, _, _, _, _, _, _, _, _, rfl, by omega, by rw [List.length_append]; exact HL, by rw [HT.out]; exact S3.out⟩, ?_⟩
      simp [intOf]
      omega
    case stop =>
      rintro id W ⟨rfl, hS, hz⟩ hD
      have S3 := Lib.hid ((hS.mark hD (.inr (.inr (.inl rfl))) (fun hd => by have := DLOW.out _ hd; omega)).zero hz)
      have hA9 : A.length ≤ (k + 1) * 100 := by rw [Nat.succ_mul]; omega
      clear hS hD hz hB2
      rw [wpIn_wide]
      go_wp2_with fail
      refine ⟨⟨k + 1, S, A, _, w2.heap.size :: DD, _, _, _, _, _, _, _, _, _, _, _, _, _, rfl, by omega, hA9, by rw [HT.out]; exact S3.out⟩, ?_⟩
      simp [intOf]
      omega
  · obtain rfl : k = m := by omega
    have bA : Below wr.heap.size wr (wr.alloc (.cells #[.slice none 0 0] 24)) := (Below.refl _ wr).alloc (Nat.le_refl _) _
    have S1 := hS.more (X' := fun g => Mk g ∨ g = wr.heap.size) bA (fun g h => .inl h) (fun g hg => hg.imp id fun e => ⟨by omega, by simp; omega⟩)
    have SM := Lib.hid (S1.t.sum (by omega))
    have NB : Hid (Box1 (wr.alloc (.cells #[.slice none 0 0] 24)) wr.heap.size 24 (.slice none 0 0)) := Lib.hid (Box1.new wr _ _)
    have HS1 := Lib.hid S1
    have t2 := Try.underlying24
    have HKW := Lib.hid hS.t.kp.size
    clear hS bA S1 hlt
    go_wp2_with fail
    refine SM.out.mono ?_
    rintro e wS ⟨u, L, rfl, nd, mm, ou, fu, iv, kpB, bl⟩
    obtain ⟨hlen, _⟩ := few_of nd mm hd0.1 hd0.2 HTD.out
    have BXB := Lib.hid (NB.out.up bl)
    have O0 : Hid (OutS wS wr.heap.size (.slice none 0 0) (fun _ => undef) (L.take 0) wS) := Lib.hid ⟨⟨World.ownsRow_nil _ _ _ _, fun i hi => absurd hi (Nat.not_lt_zero _)⟩, fun i j hi => absurd hi (Nat.not_lt_zero _), BXB.out, KpX.refl _ _⟩
    obtain ⟨au, cu, rfl, _, _⟩ := RdQ.of_own ou (packs_ok fu)
    rw [List.length_map] at *
    have OU := Lib.hid ou
    have FU := Lib.hid fu
    have ND := Lib.hid nd
    have MM := Lib.hid mm
    have IV := Lib.hid iv
    have KB := Lib.hid kpB
    have BL := Lib.hid bl
    clear SM ou fu nd mm iv kpB bl NB BXB
    have hBT : wr.heap.size < wS.heap.size := by have := BL.out.size; simp at this; omega
    have HBT := Lib.hid hBT
    clear hBT
    go_wp2_with fail
    go_loopw [40] (fun c wq => ∃ (j : Nat) (V : Value) (VS : Nat → Value), j ≤ L.length ∧ c = .int .i64 j ∧ Hid (OutS wS wr.heap.size V VS (L.take j) wq)) (fun c _ => L.length - (intOf c).toNat)
    case atStart => exact ⟨0, _, _, Nat.zero_le _, rfl, O0⟩
    case round =>
      clear O0
      rename World => w1
      obtain ⟨j, V, VS, hj, rfl, hO⟩ := hrel
      by_cases hlt : j < L.length
      · have hlt' : (j : Int) < (L.length : Int) := by omega
        obtain ⟨x, hx, hxm, ht, hpk⟩ := take_word L j hlt
        have RDl : RdQ w1 (.slice au L.length cu) (L.map packK) := RdQ.of_own (own_sameblock OU.out fun g hg => hO.out.kp.block g (OU.out.lt g hg).2 (by have := (OU.out.lt g hg).1; simp at this; omega)) (packs_ok FU.out)
        obtain ⟨a', cap', e', _, hcr⟩ := RDl
        rw [List.length_map] at e' hcr
        cases e'
        obtain ⟨b', off', rfl, hcr2⟩ := hcr.resolve_left (by omega)
        have hrk := hcr2 j hlt
        have fx := FU.out x hxm
        have ok8 := packK_ok x fx
        obtain ⟨y0, y1, y2, y3, y4, y5, y6, y7, hy⟩ := packK_lit x fx
        rw [hpk, hy] at hrk
        have HRK := Lib.hid hrk
        have O8 := Lib.hid ((hO.out.up ((Below.refl _ w1).alloc (Nat.le_refl _) (.cells #[.int .u8 y0, .int .u8 y1, .int .u8 y2, .int .u8 y3, .int .u8 y4, .int .u8 y5, .int .u8 y6, .int .u8 y7] 72))).up (Below.refl _ _).drew)
        have TM := Lib.hid (termP_any x (w1.alloc (.cells #[.int .u8 y0, .int .u8 y1, .int .u8 y2, .int .u8 y3, .int .u8 y4, .int .u8 y5, .int .u8 y6, .int .u8 y7] 72)).drew fx)
        rw [hy] at TM
        have HT1 := Lib.hid ht
        have HLT : (L.take j).length ≤ 100 := by rw [List.length_take]; omega
        generalize L.take j = M at hO O8 HT1 HLT
        have k8 := heap_alloc_new w1 (.cells #[.int .u8 y0, .int .u8 y1, .int .u8 y2, .int .u8 y3, .int .u8 y4, .int .u8 y5, .int .u8 y6, .int .u8 y7] 72)
        have LN := Lib.hid (loadNewP w1 #[.int .u8 y0, .int .u8 y1, .int .u8 y2, .int .u8 y3, .int .u8 y4, .int .u8 y5, .int .u8 y6, .int .u8 y7] rfl)
        have K8 := Lib.hid k8
        clear hcr hcr2 hrk fx ok8 hy hpk hx hxm ht k8
        go_wp2_with (first | (refine ldKP rfl _ rfl b' (off' + j * 8) rfl #[.int .u8 y0, .int .u8 y1, .int .u8 y2, .int .u8 y3, .int .u8 y4, .int .u8 y5, .int .u8 y6, .int .u8 y7] HRK.out rfl ?_) | (refine stKP w1 rfl _ _ rfl rfl #[.int .u8 y0, .int .u8 y1, .int .u8 y2, .int .u8 y3, .int .u8 y4, .int .u8 y5, .int .u8 y6, .int .u8 y7] rfl rfl rfl ?_))
        obtain ⟨w8, hw8⟩ : ∃ w8, w1.alloc (.cells #[.int .u8 y0, .int .u8 y1, .int .u8 y2, .int .u8 y3, .int .u8 y4, .int .u8 y5, .int .u8 y6, .int .u8 y7] 72) = w8 := ⟨_, rfl⟩
        rw [hw8] at O8 TM K8 ⊢
        have k8 := K8.out
        have c0 := cell_of_row w8 w1.heap.size 0 _ _ (0, 0) k8
        have c1 := cell_of_row w8 w1.heap.size 1 _ _ (0, 0) k8
        have c2 := cell_of_row w8 w1.heap.size 2 _ _ (0, 0) k8
        have c3 := cell_of_row w8 w1.heap.size 3 _ _ (0, 0) k8
        have c4 := cell_of_row w8 w1.heap.size 4 _ _ (0, 0) k8
        have c5 := cell_of_row w8 w1.heap.size 5 _ _ (0, 0) k8
        have c6 := cell_of_row w8 w1.heap.size 6 _ _ (0, 0) k8
        have c7 := cell_of_row w8 w1.heap.size 7 _ _ (0, 0) k8
        simp only [List.getElem?_toArray, List.getElem?_cons_zero, List.getElem?_cons_succ] at c0 c1 c2 c3 c4 c5 c6 c7
        have cB : w8.cell? ⟨wr.heap.size, 0, none⟩ = some V := O8.out.box.c
        have hS8 : wS.heap.size ≤ w8.drew.heap.size := O8.out.kp.size
        have HS8 := Lib.hid hS8
        obtain ⟨aV, cV, rfl, _, _⟩ := O8.out.fam.head
        clear k8 hw8 hS8 hO LN
        go_region_law (first
          | (go_simp; go_at_call 55; refine TM.out.mono ?_; rintro e w11 ⟨v, rfl, hv, b11⟩; obtain ⟨ua, uc, rfl, _⟩ := own_len hv; have bo11 := (O8.out.box.up b11).c; have bo12 := ((O8.out.box.up b11).alloc (.cells #[.slice ua x.length uc] 46)).c; have AO11 := Lib.hid (own_below (own_below O8.out.fam.out b11) ((Below.refl w11.heap.size w11).alloc (Nat.le_refl _) (.cells #[.slice ua x.length uc] 46))); have SZ11 := Lib.hid b11.size; have HV11 := Lib.hid hv; have HB11 := Lib.hid b11; clear hv b11)
          | (refine step_rows (by rfl) _ _ (by rfl) wS.heap.size M.length _ _ (by rfl) AO11.out _ 1 _ [.slice ua x.length uc] (by rfl) (.inr ⟨_, rfl, cell_one_new _ _ _⟩) rfl (by intro u hu; rw [List.mem_singleton.1 hu]; rfl) (by omega) (by have := HS8.out; have := SZ11.out; simp; omega) ?_; intro V3 w12 ho hg; obtain ⟨g3, cap3, rfl⟩ := ownsRow_succ ho; have P := Lib.hid (O8.out.put HV11.out rfl HB11.out _ ho hg); have x1 := P.out.1.c; have x2 := P.out.1.fr 0; clear ho hg))
        all_goals
          go_wp2_with fail
          go_roundw
          case rel => exact ⟨j + 1, _, _, by omega, by go_num, Lib.hid (by rw [HT1.out]; exact P.out.2)⟩
          case measure => simp [intOf]; omega
      · obtain rfl : j = L.length := by omega
        rw [List.take_length] at hO
        have SO := Lib.hid (sort_any w1 wS.heap.size V VS L hO.out.fam hO.out.sep ND.out (by omega) hO.out.kp.size)
        have cB : w1.cell? ⟨wr.heap.size, 0, none⟩ = some V := hO.out.box.c
        have HO := Lib.hid hO.out
        obtain ⟨aV, cV, rfl, _, _⟩ := HO.out.fam.head
        clear hO hlt
        go_wp2_with fail
        refine SO.out.mono ?_
        rintro e w5 ⟨rfl, VS5, zs, f5, s5, a5, m5, b5⟩
        have F5 := Lib.hid f5
        have S5 := Lib.hid s5
        have A5 := Lib.hid a5
        have M5 := Lib.hid m5
        have K5 : Hid (KpX wS wr.heap.size w5) := Lib.hid (HO.out.kp.below b5 (Nat.le_refl _))
        have B5 : Box1 w5 wr.heap.size 24 (.slice aV L.length cV) := (b5.block _ HBT.out).trans HO.out.box
        have cB5 := B5.c
        have hkB := HKW.out
        have l4 : w.heap.size + 1 < wB.heap.size := by have := HSB.out; omega
        have n4 : w.heap.size + 1 ≠ gk ∧ w.heap.size + 1 ≠ gp := ⟨m1.ne_cells BX4.out, m2.ne_cells BX4.out⟩
        have B4 : Box1 w5 (w.heap.size + 1) 24 (.slice none 0 0) := by
          have hBTl := HBT.out
          refine (K5.out.block _ (by have := KB.out.size; omega) ?_).trans (heap_kp BX4.out m1 m2 KB.out)
          omega
        have c4 := B4.c
        have f4 := B4.fr 0
        have HB4 := Lib.hid B4
        clear SO f5 s5 a5 m5 b5 cB B5 B4 hkB l4 n4
        go_wp2_with fail
        try rw [Exit.noGoto_ret]
        have F6 : FamL (w5.setCell ⟨w.heap.size + 1, 0, none⟩ (.slice aV L.length cV)) wS.heap.size (.slice aV L.length cV) VS5 zs := F5.out.off_box (OneOff.set _ _ _) HB4.out
        have o6 := OneOff.set w5 (w.heap.size + 1) (.slice aV L.length cV)
        have hkB := HKW.out
        have hBTl := HBT.out
        have hsB := HSB.out
        have I5 : RInv R K gk gp (fun g => Mk g ∨ g = wr.heap.size) w5 := IV.out.keep (fun b hb hn => K5.out.block b hb fun e => hn (.inr e)) K5.out.size fun g hg => .inl hg
        have I6 := I5.offbox o6 HB4.out
        have kp6 : Kp2 gk gp w (w5.setCell ⟨w.heap.size + 1, 0, none⟩ (.slice aV L.length cV)) := by
          have k1 := (Kp2.of_below (gk := gk) (gp := gp) HB0.out).trans KB.out
          have ks := KB.out.size
          refine ⟨o6.os.trans (K5.out.os.trans k1.os), o6.tape.trans (K5.out.tape.trans k1.tape), o6.output.trans (K5.out.output.trans k1.output), by rw [o6.size]; exact Nat.le_trans k1.size K5.out.size, fun b hb h1 h2 => ?_⟩
          exact (o6.block b (by omega)).trans ((K5.out.block b (by omega) (by omega)).trans (k1.block b hb h1 h2))
        have mk6 : MarksAll DD (w5.setCell ⟨w.heap.size + 1, 0, none⟩ (.slice aV L.length cV)) := fun D hD => by
          have h1 := HS1.out.mks D hD
          have h2 := HS1.out.low D (HS1.out.dx D hD)
          have h3 : D ≠ wr.heap.size := by
            rintro rfl
            have := heap_alloc_new wr (.cells #[.slice none 0 0] 24)
            rw [this] at h1
            cases h1
          have h4 := BL.out.size
          have h5 := BL.out.block D h2.2
          exact (o6.block D (by omega)).trans ((K5.out.block D (by omega) h3).trans (h5.trans h1))
        have MK6 := Lib.hid mk6
        have bx6 := HB4.out.set (.slice aV L.length cV)
        have mm6 : ∀ y, y ∈ zs ↔ par ((rowsL X k).flatMap formF) y := fun y => (M5.out y).trans (MM.out y)
        refine leaves_marks (fun g => Mk g ∨ g = wr.heap.size) (fun W => Box1 W (w.heap.size + 1) 24 (.slice aV L.length cV) ∧ FamL W w.heap.size (.slice aV L.length cV) VS5 zs ∧ RInv R K gk gp (fun g => Mk g ∨ g = wr.heap.size) W ∧ Kp2 gk gp w W) ?_ ?_ DD _ HS1.out.dx ⟨bx6, Fam.base F6 (by have := KB.out.size; omega), I6, kp6⟩ MK6.out HS1.out.nd
        · rintro W D hx ⟨g1, g2, g3, g4⟩ hD
          have oD := OneOff.put W D (.deferred none)
          have h2 := HS1.out.low D hx
          refine ⟨(oD.block _ (by omega)).trans g1, g2.off_obj oD hD rfl, g3.keep (fun b hb hn => oD.block b fun e => hn (e ▸ hx)) (by rw [oD.size]; exact Nat.le_refl _) (fun g hg => .inl hg), ?_⟩
          exact ⟨g4.os, g4.tape, g4.output, by rw [oD.size]; exact g4.size, fun b hb h1 h2 => (oD.block b (by omega)).trans (g4.block b hb h1 h2)⟩
        · rintro W ⟨g1, g2, g3, g4⟩
          exact ⟨_, results_cell_row rfl _ _ (w.heap.size + 1) 24 _ (0, 0) _ rfl g1 t2 rfl (by kernel_rfl), _, VS5, zs, rfl, g2, S5.out, A5.out, mm6, g3.mono fun g hg => hg.elim, g4⟩
end Go.Proofs.Ytldlpeohdindaaa
end
