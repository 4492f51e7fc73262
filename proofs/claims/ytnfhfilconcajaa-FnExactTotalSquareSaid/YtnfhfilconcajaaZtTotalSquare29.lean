/-
  Joined: YTimes.
-/
import Derived.Test.YtnfhfilconcajaaZtTotalSquare17
import Derived.Test.YtnfhfilconcajaaZtTotalSquare28
section
namespace Go.Proofs.Ytnfhfilconcajaa
open Go.RowKit Go.Maps
set_option linter.unusedVariables false
set_option maxRecDepth 100000

/-- A sum in block g, of monomials of the degree D. -/
structure SumT (w : World) (g D : Nat) (T : List (List Int)) : Prop where
  ok : ∀ t ∈ T, Mono4 D t
  at_ : SumAt w g (if T = [] then 0 else (D : Int)) (T.map ix4)
section
variable {w w' : World} {g D : Nat} {T : List (List Int)}
theorem SumT.up (h : SumT w g D T) (k : Below w.heap.size w w') : SumT w' g D T := ⟨h.ok, h.at_.up k⟩
theorem SumT.drewN (h : SumT w g D T) (q : Nat) : SumT (w.drewN q) g D T := ⟨h.ok, h.at_⟩
theorem SumT.alloc (h : SumT w g D T) (o : Obj) : SumT (w.alloc o) g D T := ⟨h.ok, h.at_.alloc o⟩
theorem SumT.new (w : World) (D : Nat) : SumT (w.alloc (.cells Try.zeroCells96 96)) w.heap.size D [] := ⟨(fun t ht => by cases ht), by rw [if_pos rfl]; exact SumAt.new w⟩
theorem SumT.lt (h : SumT w g D T) : g < w.heap.size := h.at_.lt
end

/-- What adding a monomial leaves. -/
def AddT (g D : Nat) (T : List (List Int)) (w : World) (e : Ending) (w' : World) : Prop := e = .returned (.tuple #[]) ∧ SumT w' g D T ∧ w.grownBy w' (some g)
theorem addT_any (g D : Nat) (T : List (List Int)) (m : List Int) (w : World) (h : SumT w g D T) (hm : Mono4 D m) (hD : D ≤ 40) :
    Calls Try.prog 85 #[.pointer (some ⟨g, 0, none⟩), .agg (pwK m)] w (AddT g D (T ++ [m]) w) := by
  obtain ⟨a, b, c, f, rfl, hs⟩ := id hm
  refine (add_any g a b c f _ _ w h.at_ (by omega)).mono ?_
  rintro e w' ⟨h1, h2, h3⟩
  refine ⟨h1, ⟨fun t ht => ?_, ?_⟩, h3⟩
  · rcases List.mem_append.1 ht with ht | ht
    · exact h.ok t ht
    · rw [List.mem_singleton.1 ht]; exact hm
  · rw [if_neg (by simp), List.map_append, ← hs]
    exact h2
theorem monsT_any (g D : Nat) (T : List (List Int)) (w : World) (h : SumT w g D T) (hD : D ≤ 40) :
    Calls Try.prog 86 #[.pointer (some ⟨g, 0, none⟩)] w (MonsRes (oddY T) w) := by
  by_cases h0 : T = []
  · subst h0
    have h1 := h.at_
    rw [if_pos rfl] at h1
    have := monomialsY_any g 0 _ w h1 (by omega)
    rw [show ([] : List (List Int)).map ix4 = [] from rfl, monL_nil] at this
    exact this
  · have h1 := h.at_
    rw [if_neg h0] at h1
    have := monomialsY_any g D _ w h1 hD
    rw [monL_odd T D hD h.ok] at this
    exact this

theorem addY_lit (a b c f a' b' c' f' : Int) : addY [a, b, c, f] [a', b', c', f'] = [a + a', b + b', c + c', f + f'] := by
  simp [addY, addToY, List.range_succ]
theorem Mono4.add {p q : Nat} {x y : List Int} (hx : Mono4 p x) (hy : Mono4 q y) : Mono4 (p + q) (addY x y) := by
  obtain ⟨a, b, c, f, rfl, e⟩ := hx
  obtain ⟨a', b', c', f', rfl, e'⟩ := hy
  exact ⟨a + a', b + b', c + c', f + f', by rw [addY_lit]; simp, by omega⟩
theorem Mono4.small {p : Nat} {x : List Int} (h : Mono4 p x) (hp : p ≤ 1000000) (j : Nat) : 0 ≤ x[j]?.getD 0 ∧ x[j]?.getD 0 ≤ 1000000 := by
  obtain ⟨a, b, c, f, rfl, e⟩ := h
  match j with
  | 0 => simp; omega
  | 1 => simp; omega
  | 2 => simp; omega
  | 3 => simp; omega
  | j + 4 => simp
/-- All products. -/
def prodY (xs ys : List (List Int)) : List (List Int) := xs.flatMap fun x => ys.map (addY x)
theorem prodY_snoc (xs ys : List (List Int)) (x : List Int) : prodY (xs ++ [x]) ys = prodY xs ys ++ ys.map (addY x) := by simp [prodY]

/-- What the loops of times keep. -/
structure TmJ (w0 : World) (D : Nat) (T : List (List Int)) (w : World) : Prop where
  bel : Below w0.heap.size w0 w
  sum : SumT w w0.heap.size D T
structure TmI (w0 : World) (D : Nat) (T : List (List Int)) (h : Nat) (x : List Int) (w : World) : Prop where
  j : TmJ w0 D T w
  mon : PwAt w h x
  ne : h ≠ w0.heap.size
theorem TmI.step {w0 w w3 w4 : World} {D : Nat} {T : List (List Int)} {h : Nat} {x m : List Int} (k : TmI w0 D T h x w) (b3 : Below w.heap.size w w3) (hs : SumT w4 w0.heap.size D (T ++ [m])) (hg : w3.grownBy w4 (some w0.heap.size)) : TmI w0 D (T ++ [m]) h x w4 :=
  ⟨⟨(k.j.bel.step1 b3).grown hg (k.j.bel.step1 b3).size (fun q hq => by cases hq; exact Nat.le_refl _), hs⟩, (hg.block h (k.mon.up b3).lt (by simpa using k.ne)).trans (k.mon.up b3), k.ne⟩

set_option maxHeartbeats 4000000 in
theorem timesY_any (va vb : Value) (xs ys : List (List Int)) (p q : Nat) (w : World) (ha : RdY w va (xs.map pwK)) (hb : RdY w vb (ys.map pwK)) (hx : ∀ x ∈ xs, Mono4 p x) (hy : ∀ y ∈ ys, Mono4 q y) (hpq : p + q ≤ 40) (hl : xs.length ≤ 100000) (hl2 : ys.length ≤ 100000) :
    Calls Try.prog 64 #[va, vb] w (MonsRes (oddY (prodY xs ys)) w) := by
  obtain ⟨aa, ca, rfl, hma, hca⟩ := ha
  obtain ⟨ab, cb, rfl, hmb, hcb⟩ := hb
  rw [List.length_map] at hma hmb hca hcb
  rw [List.length_map, List.length_map]
  have HCA := Lib.hid hca
  have HCB := Lib.hid hcb
  have HX := Lib.hid hx
  have HY := Lib.hid hy
  have HPQ := Lib.hid hpq
  obtain ⟨w1, hw1⟩ : ∃ w1, w1 = w.alloc (.cells Try.zeroCells96 96) := ⟨_, rfl⟩
  have J0 : Hid (TmJ w (p + q) (prodY (xs.take 0) ys) w1) := Lib.hid (by rw [hw1]; exact ⟨(Below.refl _ w).alloc (Nat.le_refl _) _, SumT.new w _⟩)
  clear hca hcb hx hy hpq
  go_enter Try.func64, Try.ntmps64
  go_wp2_with fail
  rw [← hw1]
  clear hw1
  go_loopw [7, 9, 12] (fun _ _ c wr => ∃ i : Nat, i ≤ xs.length ∧ c = .int .i64 i ∧ Hid (TmJ w (p + q) (prodY (xs.take i) ys) wr)) (fun _ _ c _ => xs.length - (intOf c).toNat)
  case atStart => exact ⟨0, by omega, rfl, J0⟩
  case round =>
    clear J0
    obtain ⟨i, hi2, rfl, hJ⟩ := hrel
    by_cases hlt : i < xs.length
    · have hlt' : (i : Int) < (xs.length : Int) := by omega
      obtain ⟨b, off, rfl, hbl, hrg⟩ := HCA.out.resolve_left (by omega)
      obtain ⟨x, hx⟩ : ∃ x, x = xs[i] := ⟨_, rfl⟩
      have hxm : x ∈ xs := by rw [hx]; exact List.getElem_mem hlt
      have hrk := hrg i hlt
      rw [List.getElem?_map, List.getElem?_eq_getElem hlt, ← hx] at hrk
      have hrk2 : w.rangeAt b (off + i * 4) (pwK x).toList := hrk
      have HRW : Hid (wr.rangeAt b (off + i * 4) (pwK x).toList) := Lib.hid fun q u hq => (hJ.out.bel.cell (p := ⟨b, off + i * 4 + q, none⟩) hbl).trans (hrk2 q u hq)
      have OKX := Lib.hid (HX.out x hxm)
      have SX : Hid ((pwK x).size = 4) := Lib.hid (by rw [pwK_size, OKX.out.len])
      have ONX : Hid ((pwK x).all (·.oneCell') = true) := Lib.hid (pwK_one x)
      have TK : Hid (xs.take (i + 1) = xs.take i ++ [x]) := Lib.hid (by rw [hx, List.take_add_one, List.getElem?_eq_getElem hlt]; rfl)
      have I0 : Hid (TmI w (p + q) (prodY (xs.take i) ys ++ (ys.take 0).map (addY x)) wr.heap.size x (wr.alloc (.cells (pwK x) 98))) := Lib.hid ⟨⟨hJ.out.bel.alloc hJ.out.bel.size _, by rw [List.take_zero, List.map_nil, List.append_nil]; exact hJ.out.sum.alloc _⟩, PwAt.new _ _, by have := hJ.out.sum.lt; omega⟩
      obtain ⟨Z, hZ⟩ : ∃ Z, prodY (xs.take i) ys = Z := ⟨_, rfl⟩
      rw [hZ] at I0
      have HZ := Lib.hid hZ
      clear hZ hrg hrk hrk2 hxm hx hJ
      go_wp2_with (first | (refine ldKY rfl _ rfl b (off + i * 4) rfl (pwK x) HRW.out SX.out ?_) | (refine stKY wr rfl _ _ rfl rfl (pwK x) rfl SX.out ONX.out ?_))
      obtain ⟨g, hg⟩ : ∃ g, wr.heap.size = g := ⟨_, rfl⟩
      rw [hg] at I0 ⊢
      generalize (wr.alloc (.cells (pwK x) 98)) = w2 at *
      clear hg HRW
      go_loopw [9, 18] (fun _ c wi => ∃ j : Nat, j ≤ ys.length ∧ c = .int .i64 j ∧ Hid (TmI w (p + q) (Z ++ (ys.take j).map (addY x)) g x wi)) (fun _ c _ => ys.length - (intOf c).toNat)
      case atStart => exact ⟨0, by omega, rfl, I0⟩
      case round =>
        clear I0
        obtain ⟨j, hj2, rfl, hI⟩ := hrel
        by_cases hjl : j < ys.length
        · have hjl' : (j : Int) < (ys.length : Int) := by omega
          obtain ⟨b, off, rfl, hbl, hrg⟩ := HCB.out.resolve_left (by omega)
          obtain ⟨y, hy⟩ : ∃ y, y = ys[j] := ⟨_, rfl⟩
          have hym : y ∈ ys := by rw [hy]; exact List.getElem_mem hjl
          have hrk := hrg j hjl
          rw [List.getElem?_map, List.getElem?_eq_getElem hjl, ← hy] at hrk
          have hrk2 : w.rangeAt b (off + j * 4) (pwK y).toList := hrk
          have HRW2 : Hid (wr.rangeAt b (off + j * 4) (pwK y).toList) := Lib.hid fun q u hq => (hI.out.j.bel.cell (p := ⟨b, off + j * 4 + q, none⟩) hbl).trans (hrk2 q u hq)
          have OKY := Lib.hid (HY.out y hym)
          have SY : Hid ((pwK y).size = 4) := Lib.hid (by rw [pwK_size, OKY.out.len])
          have ONY : Hid ((pwK y).all (·.oneCell') = true) := Lib.hid (pwK_one y)
          have TK2 : Hid (ys.take (j + 1) = ys.take j ++ [y]) := Lib.hid (by rw [hy, List.take_add_one, List.getElem?_eq_getElem hjl]; rfl)
          have MX : Hid ((wr.alloc (.cells (pwK y) 98)).rangeAt g 0 (pwK x).toList) := Lib.hid (hI.out.mon.alloc _).range
          have NY : Hid ((wr.alloc (.cells (pwK y) 98)).rangeAt wr.heap.size 0 (pwK y).toList) := Lib.hid (PwAt.new wr y).range
          have TM := Lib.hid (times4_any x y (wr.alloc (.cells (pwK y) 98)) OKX.out.len OKY.out.len (fun n => ⟨(OKX.out.small (by have := HPQ.out; omega) n).1, (OKX.out.small (by have := HPQ.out; omega) n).2, (OKY.out.small (by have := HPQ.out; omega) n).1, (OKY.out.small (by have := HPQ.out; omega) n).2⟩))
          have b1 : Below wr.heap.size wr (wr.alloc (.cells (pwK y) 98)) := (Below.refl _ _).alloc (Nat.le_refl _) _
          have B1 := Lib.hid b1
          have MM := Lib.hid (OKX.out.add OKY.out)
          have NXT : Hid (Z ++ (ys.take (j + 1)).map (addY x) = (Z ++ (ys.take j).map (addY x)) ++ [addY x y]) := Lib.hid (by rw [TK2.out, List.map_append, List.append_assoc]; rfl)
          generalize Z ++ (ys.take j).map (addY x) = us at *
          clear hrg hrk hrk2 hym hy b1
          go_wp2_with (first | (refine ldKY rfl _ rfl b (off + j * 4) rfl (pwK y) HRW2.out SY.out ?_) | (refine stKY wr rfl _ _ rfl rfl (pwK y) rfl SY.out ONY.out ?_) | (refine ldKY rfl _ rfl g 0 rfl (pwK x) MX.out SX.out ?_) | (refine ldKY rfl _ rfl wr.heap.size 0 rfl (pwK y) NY.out SY.out ?_))
          refine TM.out.mono ?_
          rintro e w3 ⟨rfl, b3⟩
          have B3 := Lib.hid (B1.out.trans (b3.mono B1.out.size))
          have AD := Lib.hid (addT_any w.heap.size (p + q) us (addY x y) w3 (hI.out.j.sum.up B3.out) MM.out HPQ.out)
          clear b3 B1 TM HRW2 NY MX
          go_wp2_with fail
          refine AD.out.mono ?_
          rintro e w4 ⟨rfl, hs, hg⟩
          have I9 : Hid (TmI w (p + q) (Z ++ (ys.take (j + 1)).map (addY x)) g x w4) := Lib.hid (by rw [NXT.out]; exact TmI.step hI.out B3.out hs hg)
          clear hs hg hI AD
          go_wp2_with fail
          go_roundw
          case rel => exact ⟨j + 1, by omega, by go_num, I9⟩
          case measure => simp [intOf]; omega
        · obtain rfl : j = ys.length := by omega
          rw [List.take_length] at hI
          have J9 : Hid (TmJ w (p + q) (prodY (xs.take (i + 1)) ys) wr) := Lib.hid (by rw [TK.out, prodY_snoc, HZ.out]; exact hI.out.j)
          clear hI
          go_wp2_with fail
          go_roundw
          case rel => exact ⟨i + 1, by omega, by go_num, J9⟩
          case measure => simp [intOf]; omega
    · obtain rfl : i = xs.length := by omega
      rw [List.take_length] at hJ
      have MO := Lib.hid (monsT_any _ _ _ wr hJ.out.sum HPQ.out)
      go_wp2_with fail
      refine MO.out.mono ?_
      rintro e w9 ⟨u, rfl, o9, b9⟩
      have O9 := Lib.hid (own_base o9 hJ.out.bel.size)
      have B9 := Lib.hid (hJ.out.bel.step1 b9)
      clear o9 b9 MO
      go_wp2_with fail
      go_ret
      exact ⟨u, rfl, O9.out, B9.out⟩
end Go.Proofs.Ytnfhfilconcajaa
end
