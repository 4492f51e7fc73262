/-
  Joined: YSqQ, YSqY, YPad, YMulB, YSqB.
-/
import Derived.Test.YtggebkcmokpcmaaZBHit26
import Derived.Test.YtggebkcmokpcmaaZBHit27
import Derived.Test.YtggebkcmokpcmaaZBHit20
import Derived.Test.YtggebkcmokpcmaaZBHit23
import Derived.Test.YtggebkcmokpcmaaZBHit22
import Derived.Test.YtggebkcmokpcmaaZBHit12
import Derived.Test.YtggebkcmokpcmaaZBHit21
section
namespace Go.Proofs.Ytggebkcmokpcmaa
open Go.RowKit Go.Maps
set_option linter.unusedVariables false
set_option maxRecDepth 100000

set_option maxHeartbeats 4000000 in
theorem squareY_any (va : Value) (xs : List (List Int)) (d i : Nat) (w : World) (ha : RdY w va (xs.map pwK)) (hx : ∀ x ∈ xs, Mono4 d x) (hdi : d + i ≤ 40) (hl : xs.length ≤ 100000) :
    Calls Try.prog 75 #[va, .int .i64 (i : Int)] w (MonsRes (oddY (sqAll xs i)) w) := by
  obtain ⟨aa, ca, rfl, hma, hca⟩ := ha
  rw [List.length_map] at hma hca
  rw [List.length_map]
  have HCA := Lib.hid hca
  have HX := Lib.hid hx
  have HPQ := Lib.hid hdi
  have ADD : Hid (∀ x, Mono4 d x → ∀ (g : Nat) (T : List (List Int)) (wx : World), SumT wx g (d + i) T → Calls Try.prog 99 #[.pointer (some ⟨g, 0, none⟩), .agg (pwK x), .int .i64 0, .int .i64 (i : Int)] wx (AddsT g (d + i) (T ++ sqL x i) wx)) := Lib.hid (fun x h4 g T wx hs => by
    have hn : ∀ z ∈ x, 0 ≤ z := by
      obtain ⟨a, b, c, f, rfl, _⟩ := h4
      intro z hz
      simp at hz
      rcases hz with h | h | h | h <;> omega
    have := addSquare_any g (d + i) hdi x hn [] i d T wx (by rw [List.nil_append]; exact h4) rfl hs
    rw [show (sqL x i).map (([] : List Int) ++ ·) = sqL x i by simp, List.nil_append] at this
    exact this)
  obtain ⟨w1, hw1⟩ : ∃ w1, w1 = w.alloc (.cells Try.zeroCells99 99) := ⟨_, rfl⟩
  have J0 : Hid (TmJ w (d + i) (sqAll (xs.take 0) i) w1) := Lib.hid (by rw [hw1]; exact ⟨(Below.refl _ w).alloc (Nat.le_refl _) _, SumT.new w _⟩)
  clear hca hx hdi
  go_enter Try.func75, Try.ntmps75
  go_wp2_with fail
  rw [← hw1]
  clear hw1
  go_loopw [7, 10] (fun _ c wr => ∃ k : Nat, k ≤ xs.length ∧ c = .int .i64 k ∧ Hid (TmJ w (d + i) (sqAll (xs.take k) i) wr)) (fun _ c _ => xs.length - (intOf c).toNat)
  case atStart => exact ⟨0, by omega, rfl, J0⟩
  case round =>
    clear J0
    obtain ⟨k, hi2, rfl, hJ⟩ := hrel
    by_cases hlt : k < xs.length
    · have hlt' : (k : Int) < (xs.length : Int) := by omega
      obtain ⟨b, off, rfl, hbl, hrg⟩ := HCA.out.resolve_left (by omega)
      obtain ⟨x, hx⟩ : ∃ x, x = xs[k] := ⟨_, rfl⟩
      have hxm : x ∈ xs := by rw [hx]; exact List.getElem_mem hlt
      have hrk := hrg k hlt
      rw [List.getElem?_map, List.getElem?_eq_getElem hlt, ← hx] at hrk
      have hrk2 : w.rangeAt b (off + k * 4) (pwK x).toList := hrk
      have HRW : Hid (wr.rangeAt b (off + k * 4) (pwK x).toList) := Lib.hid fun q u hq => (hJ.out.bel.cell (p := ⟨b, off + k * 4 + q, none⟩) hbl).trans (hrk2 q u hq)
      have OKX := Lib.hid (HX.out x hxm)
      have SX : Hid ((pwK x).size = 4) := Lib.hid (by rw [pwK_size, OKX.out.len])
      have ONX : Hid ((pwK x).all (·.oneCell') = true) := Lib.hid (pwK_one x)
      have NX : Hid ((wr.alloc (.cells (pwK x) 71)).rangeAt wr.heap.size 0 (pwK x).toList) := Lib.hid (PwAt.new wr x).range
      have TK : Hid (sqAll (xs.take (k + 1)) i = sqAll (xs.take k) i ++ sqL x i) := Lib.hid (by rw [← sqAll_snoc, hx, List.take_add_one, List.getElem?_eq_getElem hlt]; rfl)
      have B1 : Hid (Below wr.heap.size wr (wr.alloc (.cells (pwK x) 71))) := Lib.hid ((Below.refl _ _).alloc (Nat.le_refl _) _)
      generalize sqAll (xs.take k) i = Z at *
      have AD := Lib.hid (ADD.out x OKX.out w.heap.size Z (wr.alloc (.cells (pwK x) 71)) (hJ.out.sum.up B1.out))
      clear hrg hrk hrk2 hxm hx
      go_wp2_with (first | (refine ldKY rfl _ rfl b (off + k * 4) rfl (pwK x) HRW.out SX.out ?_) | (refine stKY wr rfl _ _ rfl rfl (pwK x) rfl SX.out ONX.out ?_) | (refine ldKY rfl _ rfl wr.heap.size 0 rfl (pwK x) NX.out SX.out ?_))
      refine AD.out.mono ?_
      rintro e w4 ⟨rfl, hs, hg⟩
      have I9 : Hid (TmJ w (d + i) (sqAll (xs.take (k + 1)) i) w4) := Lib.hid (by rw [TK.out]; exact ⟨(hJ.out.bel.step1 B1.out).grown hg (hJ.out.bel.step1 B1.out).size (fun q hq => by cases hq; exact Nat.le_refl _), hs⟩)
      clear hs hg hJ AD HRW NX
      go_wp2_with fail
      go_roundw
      case rel => exact ⟨k + 1, by omega, by go_num, I9⟩
      case measure => simp [intOf]; omega
    · obtain rfl : k = xs.length := by omega
      rw [List.take_length] at hJ
      have MO := Lib.hid (monsT_any _ _ _ wr hJ.out.sum HPQ.out)
      go_wp2_with fail
      refine MO.out.mono ?_
      rintro e w9 ⟨u, rfl, o9, b9⟩
      have O9 := Lib.hid (own_base o9 hJ.out.bel.size)
      have B9 := Lib.hid (hJ.out.bel.step1 b9)
      clear o9 b9 MO
      go_wp2_with fail
      go_ret
      exact ⟨u, rfl, O9.out, B9.out⟩
end Go.Proofs.Ytggebkcmokpcmaa
end
section
namespace Go.Proofs.Ytggebkcmokpcmaa.Pl
open Go.RowKit
set_option linter.unusedVariables false
set_option maxRecDepth 100000


/-- What ends the call with a polynomial. -/
theorem okEndQ {w w3 wD : World} {k0 : Int} {V0 : Value} {C : Int} {M : List (List Int)} {va : Option Addr} {vc : Nat} {VS : Nat → Value} (h : Bx2Q w k0 V0 w3) (b : Below w3.heap.size w3 wD) (f : FamL wD w.heap.size (.slice va M.length vc) VS M) (s : Sep M.length VS) (cd : Int) :
    Box ((wD.setCell ⟨w.heap.size + 1, 0, none⟩ (.int .i64 C)).setCell ⟨w.heap.size + 1, 1, none⟩ (.slice va M.length vc)) (w.heap.size + 1) 31 (.int .i64 C) (.slice va M.length vc) ∧
    ResY C M cd w (.returned (.tuple #[.agg #[.int .i64 C, .slice va M.length vc], .int .i64 cd])) ((wD.setCell ⟨w.heap.size + 1, 0, none⟩ (.int .i64 C)).setCell ⟨w.heap.size + 1, 1, none⟩ (.slice va M.length vc)) := by
  have S9 := h.up b
  have FIN := OwnF.stored (w0 := w) (c := C) S9.boxR f s (by omega)
  exact ⟨FIN.box, _, VS, rfl, FIN.fam, FIN.sep, (S9.bel.setCell (p := ⟨w.heap.size + 1, 0, none⟩) (by simp) _).setCell (p := ⟨w.heap.size + 1, 1, none⟩) (by simp) _⟩

end Go.Proofs.Ytggebkcmokpcmaa.Pl
end
section
namespace Go.Proofs.Ytggebkcmokpcmaa
open Go.RowKit
set_option linter.unusedVariables false
set_option maxRecDepth 100000

theorem isX_sm {xs : List Int} (h : isX xs) (h4 : xs.length ≤ 4) : SmL xs := by
  refine ⟨h4, fun j => ?_⟩
  by_cases hj : j < xs.length
  · have := (isX_iff.1 h).1 j hj
    unfold gOf at this
    omega
  · rw [List.getElem?_eq_none (by omega)]
    simp
theorem pad_mono {xs : List Int} (h : isX xs) (h4 : xs.length ≤ 4) : Mono4 (sumL xs).toNat (padY xs) := by
  have h1 := (isX_iff.1 h).1
  match xs, h4, h1 with
  | [], _, _ => exact ⟨0, 0, 0, 0, rfl, by simp [sumL, dsum]⟩
  | [a], _, h1 =>
    have ha := (h1 0 (by simp)).1
    simp [gOf] at ha
    exact ⟨a.toNat, 0, 0, 0, by simp [padY, List.replicate]; omega, by simp [sumL, dsum, gOf]⟩
  | [a, b], _, h1 =>
    have ha := (h1 0 (by simp)).1
    have hb := (h1 1 (by simp)).1
    simp [gOf] at ha hb
    exact ⟨a.toNat, b.toNat, 0, 0, by simp [padY, List.replicate]; omega, by simp [sumL, dsum, gOf]; omega⟩
  | [a, b, c], _, h1 =>
    have ha := (h1 0 (by simp)).1
    have hb := (h1 1 (by simp)).1
    have hc := (h1 2 (by simp)).1
    simp [gOf] at ha hb hc
    exact ⟨a.toNat, b.toNat, c.toNat, 0, by simp [padY]; omega, by simp [sumL, dsum, gOf]; omega⟩
  | [a, b, c, d], _, h1 =>
    have ha := (h1 0 (by simp)).1
    have hb := (h1 1 (by simp)).1
    have hc := (h1 2 (by simp)).1
    have hd := (h1 3 (by simp)).1
    simp [gOf] at ha hb hc hd
    exact ⟨a.toNat, b.toNat, c.toNat, d.toNat, by simp [padY]; omega, by simp [sumL, dsum, gOf]; omega⟩
theorem pad_plus {r s : List Int} (h : r.length = s.length) (h4 : r.length ≤ 4) : padY (plusL r s) = addY (padY r) (padY s) := by
  match r, s, h, h4 with
  | [], [], _, _ => simp [padY, plusL, plusTo, List.replicate, addY_lit]
  | [a], [a'], _, _ => simp [padY, plusL, plusTo, List.replicate, addY_lit, List.range_succ]
  | [a, b], [a', b'], _, _ => simp [padY, plusL, plusTo, List.replicate, addY_lit, List.range_succ]
  | [a, b, c], [a', b', c'], _, _ => simp [padY, plusL, plusTo, addY_lit, List.range_succ]
  | [a, b, c, d], [a', b', c', d'], _, _ => simp [padY, plusL, plusTo, addY_lit, List.range_succ]
theorem take_pad {k : Nat} {xs : List Int} (h : xs.length = k) : (padY xs).take k = xs := by
  unfold padY
  rw [← h]
  exact List.take_left' rfl
theorem lexLt_append : ∀ (xs ys zs : List Int), xs.length = ys.length → lexLt (xs ++ zs) (ys ++ zs) = lexLt xs ys
  | [], [], zs, _ => by rw [List.nil_append]; rw [lexLt_irrefl]; rfl
  | x :: xs, y :: ys, zs, h => by
    rw [List.cons_append, List.cons_append, lexLt, lexLt, lexLt_append xs ys zs (by simpa using h)]
theorem pad_inj {k : Nat} (xs ys : List Int) (hx : xs.length = k) (hy : ys.length = k) (h : padY xs = padY ys) : xs = ys := by
  rw [← take_pad hx, ← take_pad hy, h]
theorem oddY_pad {k : Nat} (T : List (List Int)) (h : ∀ t ∈ T, t.length = k) : oddY (T.map padY) = (oddY T).map padY := by
  refine (oddY_eq ?_ fun z => ?_).symm
  · unfold Asc
    rw [List.pairwise_map]
    refine (oddY_spec T).1.imp_of_mem ?_
    intro a b ha hb hab
    have e1 := h a (oddY_mem ha)
    have e2 := h b (oddY_mem hb)
    unfold padY
    rw [e1, e2, lexLt_append _ _ _ (e1.trans e2.symm)]
    exact hab
  · constructor
    · intro hz
      obtain ⟨t, ht, rfl⟩ := List.mem_map.1 hz
      have hp := ((oddY_spec T).2 t).1 ht
      exact (par_map padY (fun t => t.length = k) (fun x y hx hy e => pad_inj x y hx hy e) t (h t (par_mem _ _ hp)) T h).2 hp
    · intro hz
      obtain ⟨t, ht, rfl⟩ := List.mem_map.1 (par_mem _ _ hz)
      exact List.mem_map.2 ⟨t, ((oddY_spec T).2 t).2 ((par_map padY (fun t => t.length = k) (fun x y hx hy e => pad_inj x y hx hy e) t (h t ht) T h).1 hz), rfl⟩
theorem take_pads {k : Nat} (T : List (List Int)) (h : ∀ t ∈ T, t.length = k) : (T.map padY).map (List.take k) = T := by
  rw [List.map_map]
  conv => rhs; rw [← List.map_id T]
  exact List.map_congr_left fun t ht => take_pad (h t ht)
/-- The program's sum, cut to its variables, is the specification's. -/
theorem take_odd {k : Nat} (T : List (List Int)) (h : ∀ t ∈ T, t.length = k) : (oddY (T.map padY)).map (List.take k) = oddY T := by
  rw [oddY_pad T h, take_pads _ fun t ht => h t (oddY_mem ht)]
theorem prodY_pad {k : Nat} (h4 : k ≤ 4) (U V : List (List Int)) (hU : ∀ t ∈ U, t.length = k) (hV : ∀ t ∈ V, t.length = k) : prodY (U.map padY) (V.map padY) = (sumsY U V).map padY := by
  unfold prodY sumsY
  rw [List.flatMap_map, List.map_flatMap]
  have : ∀ r ∈ U, List.map (addY (padY r)) (V.map padY) = (V.map (plusL r)).map padY := fun r hr => by
    rw [List.map_map, List.map_map]
    exact List.map_congr_left fun s hs => by
      show addY (padY r) (padY s) = padY (plusL r s)
      rw [pad_plus ((hU r hr).trans (hV s hs).symm) (by rw [hU r hr]; exact h4)]
  clear hU
  induction U with
  | nil => rfl
  | cons r U ih =>
    rw [List.flatMap_cons, List.flatMap_cons, this r List.mem_cons_self, ih fun r' hr' => this r' (List.mem_cons_of_mem _ hr')]
theorem plusL_len (r s : List Int) : (plusL r s).length = r.length := plusTo_len _ _ _
theorem sumsY_row {k : Nat} {U V : List (List Int)} (hU : ∀ t ∈ U, t.length = k) : ∀ t ∈ sumsY U V, t.length = k := fun t ht => by
  obtain ⟨r, hr, ht⟩ := List.mem_flatMap.1 ht
  obtain ⟨s, _, rfl⟩ := List.mem_map.1 ht
  rw [plusL_len, hU r hr]
end Go.Proofs.Ytggebkcmokpcmaa
end
section
namespace Go.Proofs.Ytggebkcmokpcmaa.Pl
open Go.RowKit
set_option linter.unusedVariables false
set_option maxRecDepth 100000

/-- The degree, 0 for 0. -/
def dgP (X : Nat → List Int) (m : Nat) : Int := if m = 0 then 0 else sumL (X 0)
theorem dgP_bnd {k : Int} {X : Nat → List Int} {m : Nat} (h : okPl k X m) : 0 ≤ dgP X m ∧ dgP X m ≤ 40 := by
  unfold dgP
  split
  · omega
  · have h1 := (h.2.2 0 (by omega)).2.1
    have h2 := isX_iff.1 h1
    refine ⟨?_, h2.2⟩
    exact dsum_nn _ _ (fun j hj => (h2.1 j hj).1)
/-- The rows of a polynomial. -/
theorem _root_.Go.Proofs.Ytggebkcmokpcmaa.okPl.rows {k : Int} {X : Nat → List Int} {m : Nat} (h : okPl k X m) (i : Nat) (hi : i < m) : (X i).length = k.toNat ∧ isX (X i) ∧ sumL (X i) = dgP X m := by
  have h1 := h.2.2 i hi
  have h2 := h.1
  exact ⟨by have := h1.1; omega, h1.2.1, by unfold dgP; rw [if_neg (by omega)]; exact h1.2.2⟩
theorem _root_.Go.Proofs.Ytggebkcmokpcmaa.okPl.sm {k : Int} {X : Nat → List Int} {m : Nat} (h : okPl k X m) (i : Nat) (hi : i < m) : (X i).length = k.toNat ∧ SmL (X i) := by
  obtain ⟨a, b, _⟩ := h.rows i hi
  exact ⟨a, isX_sm b (by have := h.1; omega)⟩
theorem _root_.Go.Proofs.Ytggebkcmokpcmaa.okPl.mono {k : Int} {X : Nat → List Int} {m : Nat} (h : okPl k X m) : ∀ t ∈ (rowsL X m).map padY, Mono4 (dgP X m).toNat t := fun t ht => by
  obtain ⟨r, hr, rfl⟩ := List.mem_map.1 ht
  obtain ⟨i, hi, rfl⟩ := mem_rowsL hr
  obtain ⟨a, b, c⟩ := h.rows i hi
  rw [← c]
  exact pad_mono b (by have := h.1; omega)
theorem _root_.Go.Proofs.Ytggebkcmokpcmaa.okPl.len {k : Int} {X : Nat → List Int} {m : Nat} (h : okPl k X m) : ∀ t ∈ rowsL X m, t.length = k.toNat := fun t ht => by
  obtain ⟨i, hi, rfl⟩ := mem_rowsL ht
  exact (h.rows i hi).1
theorem _root_.Go.Proofs.Ytggebkcmokpcmaa.okPl.few {k : Int} {X : Nat → List Int} {m : Nat} (h : okPl k X m) : m ≤ 2000 := h.2.1.1

theorem degP_any {k : Int} {X : Nat → List Int} {m : Nat} (h : okPl k X m) (a : Option Addr) (q : Nat) (w : World) (r : RdSS w (.slice a m q) m X) : DegPM w k a m q (dgP X m) := fun wx hb => by
  refine degreeP_any k a m q (dgP X m) wx (fun h0 => if_pos h0) fun hm => ?_
  obtain ⟨b, o, v, cap, e, c, d⟩ := headP h hm (r.below hb)
  cases e
  exact ⟨b, o, v, rfl, c, by rw [show dgP X m = sumL (X 0) from if_neg (by omega)]; exact d⟩
theorem packedP_any {k : Int} {X : Nat → List Int} {m : Nat} (h : okPl k X m) (a : Option Addr) (q : Nat) (w : World) (r : RdSS w (.slice a m q) m X) :
    ∀ wx, Below w.heap.size w wx → Calls Try.prog 60 #[.agg #[.int .i64 k, .slice a m q]] wx fun e w' => ∃ u, e = .returned u ∧ RdY w' u (((rowsL X m).map padY).map pwK) ∧ Below wx.heap.size wx w' := fun wx hb => by
  refine (packed_any k _ m X wx (r.below hb) h.few fun i hi => by have := (h.sm i hi).2.1; omega).mono ?_
  rintro e w' ⟨u, h1, h2, h3⟩
  have e2 : (rowsL X m).map keyY = ((rowsL X m).map padY).map pwK := by rw [List.map_map]; rfl
  rw [e2] at h2
  exact ⟨u, h1, rdY_of_own h2 fun z hz => (h.mono z hz).len, h3⟩

/-- The two answers, told so that the law can take them. -/
theorem rows4 {k : Nat} {L : List (List Int)} (h : ∀ t ∈ L, t.length = k) (hk : k ≤ 4) : ∀ i, (rowsOf L i).length ≤ 20 := fun i => by
  unfold rowsOf
  by_cases hi : i < L.length
  · rw [List.getElem?_eq_getElem hi]
    have := h _ (List.getElem_mem hi)
    simp only [Option.getD_some]
    omega
  · rw [List.getElem?_eq_none (by omega)]
    exact Nat.zero_le _
theorem rows0 : ∀ i, (rowsOf ([] : List (List Int)) i).length ≤ 20 := fun i => Nat.zero_le _
theorem fitL_rows {k : Nat} {L : List (List Int)} (h : ∀ t ∈ L, t.length = k) (hk : k ≤ 4) : ∀ i, (rowsOf (fitL L) i).length ≤ 20 := by
  unfold fitL
  split
  · exact rows4 h hk
  · exact rows0
theorem fitL_len (L : List (List Int)) : (fitL L).length ≤ 4000 := by
  by_cases h : L.length ≤ 2000
  · rw [show fitL L = L from if_pos h]; omega
  · rw [show fitL L = [] from if_neg h]; exact Nat.zero_le _

end Go.Proofs.Ytggebkcmokpcmaa.Pl
end
section
namespace Go.Proofs.Ytggebkcmokpcmaa.Pl
open Go.RowKit
set_option linter.unusedVariables false
set_option maxRecDepth 100000

theorem sqL_zeros (i : Nat) : ∀ n : Nat, sqL (List.replicate n (0 : Int)) i = if i = 0 then [List.replicate n (0 : Int)] else []
  | 0 => by rw [List.replicate_zero, sqL]
  | n + 1 => by
    have ih := sqL_zeros i n
    rw [List.replicate_succ, sqL_cons]
    have e : min (0 : Int).toNat i + 1 = 1 := by simp
    rw [e]
    unfold sqTo
    have hb : bpar (0 : Int).toNat 0 = 1 := rfl
    simp only [List.range_succ, List.range_zero, List.nil_append, List.flatMap_cons, List.flatMap_nil, List.append_nil, Nat.sub_zero]
    rw [if_pos hb, ih]
    split <;> simp
theorem sqL_app (z : Nat) : ∀ (x : List Int) (i : Nat), sqL (x ++ List.replicate z (0 : Int)) i = (sqL x i).map (· ++ List.replicate z (0 : Int))
  | [], i => by
    rw [List.nil_append, sqL_zeros, sqL]
    split <;> simp
  | n :: x, i => by
    rw [List.cons_append, sqL_cons, sqL_cons]
    unfold sqTo
    rw [List.map_flatMap]
    congr 1
    funext j
    split
    · rw [sqL_app z x, List.map_map, List.map_map]
      rfl
    · rfl
theorem sqL_pad (x : List Int) (i : Nat) : sqL (padY x) i = (sqL x i).map padY := by
  unfold padY
  rw [sqL_app]
  exact List.map_congr_left fun t ht => by rw [sqL_row x i t ht]
theorem sqAll_pad (L : List (List Int)) (i : Nat) : sqAll (L.map padY) i = (sqAll L i).map padY := by
  unfold sqAll
  rw [List.flatMap_map, List.map_flatMap]
  congr 1
  funext x
  exact sqL_pad x i
theorem sqAll_len_row {k : Nat} {L : List (List Int)} {i : Nat} (h : ∀ t ∈ L, t.length = k) : ∀ t ∈ sqAll L i, t.length = k := fun t ht => by
  obtain ⟨x, hx, ht⟩ := List.mem_flatMap.1 ht
  rw [sqL_row x i t ht, h x hx]
theorem small_of_mono {d : Nat} {x : List Int} (h : Mono4 d (padY x)) (hd : d ≤ 1000) : ∀ z ∈ x, 0 ≤ z ∧ z ≤ 1000 := fun z hz => by
  obtain ⟨a, b, c, f, e, s⟩ := h
  have h2 : z ∈ padY x := by unfold padY; exact List.mem_append_left _ hz
  rw [e] at h2
  simp at h2
  rcases h2 with h | h | h | h <;> omega

end Go.Proofs.Ytggebkcmokpcmaa.Pl
end
