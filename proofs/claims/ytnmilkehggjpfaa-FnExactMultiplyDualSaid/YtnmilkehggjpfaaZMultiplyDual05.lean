/-
  Joined: EMonP, EMonD.
-/
import Derived.Test.YtnmilkehggjpfaaZMultiplyDual04
import Derived.Maps.AppendAt
import Derived.Test.YtnmilkehggjpfaaZBMil34
import Derived.Test.YtnmilkehggjpfaaZBMil03
import Derived.Test.YtnmilkehggjpfaaZBMil27
import Derived.Deep.RegionLaw
section
namespace Go.Proofs.Ytnmilkehggjpfaa
open Go.RowKit Go.Maps
set_option linter.unusedVariables false
set_option maxRecDepth 100000

theorem bsKM {ops : Array Oper} {rest : List Oper} {o : Oper} {a : Act} {Q : Exit → Act → World → Prop} (w : World) (hgd : o.guard = none) (x : Operand) (ho : o.op = .buildSlice 87 1 #[(0, x)])
    (k : Array Value) (hx : a.eval x = .agg k) (hk : KOKM k) (h : wpList Try.prog ops Q rest (a.put o.dst (.slice (some ⟨w.heap.size, 0, none⟩) 1 1)) (w.alloc (.cells k 94))) : wpList Try.prog ops Q (o :: rest) a w := by
  refine wpList_plain hgd fun K' hK' => ?_
  have hr := bsRunM w k hk
  unfold Oper.wp execOp
  simp only [ho, List.map_toArray, List.map_cons, List.map_nil, hx, hr, Sem.run_bind, Sem.run_pure, Result.andThen_ok]
  exact hK' _ _ h

/-- Five small numbers. -/
def Ok5 (B : Int) (zs : List Int) : Prop := zs.length = 5 ∧ ∀ z ∈ zs, 0 ≤ z ∧ z ≤ B
theorem Ok5.at {B : Int} (hB : 0 ≤ B) {zs : List Int} (h : Ok5 B zs) (j : Nat) : 0 ≤ zs[j]?.getD 0 ∧ zs[j]?.getD 0 ≤ B := by
  by_cases hj : j < zs.length
  · rw [List.getElem?_eq_getElem hj]
    exact h.2 _ (List.getElem_mem hj)
  · rw [List.getElem?_eq_none (by omega)]
    exact ⟨Int.le_refl _, hB⟩
theorem Ok5.wf {B : Int} (hB : B ≤ 1000000000000) {zs : List Int} (h : Ok5 B zs) : ∀ z ∈ zs, (Lit.int .i64 z).wf = true := fun z hz => by
  have := h.2 z hz
  exact (Bool.and_eq_true _ _).mpr ⟨decide_eq_true (by omega : (-9223372036854775808 : Int) ≤ z), decide_eq_true (by omega : z ≤ (9223372036854775807 : Int))⟩
theorem Ok5.kok {B : Int} (hB : B ≤ 1000000000000) {zs : List Int} (h : Ok5 B zs) : KOKM (monK zs) := monK_ok h.1 (h.wf hB)
theorem Ok5.add {B C : Int} (hB : 0 ≤ B) (hC : 0 ≤ C) {xs ys : List Int} (hx : Ok5 B xs) (hy : Ok5 C ys) : Ok5 (B + C) (addL xs ys) := by
  refine ⟨addTo_len _ _ _, fun z hz => ?_⟩
  obtain ⟨i, hi, rfl⟩ := List.mem_map.1 hz
  have h1 := hx.at hB i
  have h2 := hy.at hC i
  have h3 := List.mem_range.1 hi
  rw [if_pos h3]
  omega

/-- All products. -/
def prodK (xs ys : List (List Int)) : List (List Int) := xs.flatMap fun x => ys.map (addL x)
theorem prodK_snoc (xs ys : List (List Int)) (x : List Int) : prodK (xs ++ [x]) ys = prodK xs ys ++ ys.map (addL x) := by simp [prodK]
theorem prodK_len (xs ys : List (List Int)) : (prodK xs ys).length = xs.length * ys.length := by
  induction xs with
  | nil => simp [prodK]
  | cons x xs ih =>
    have e : prodK (x :: xs) ys = ys.map (addL x) ++ prodK xs ys := by simp [prodK]
    rw [e, List.length_append, ih, List.length_map, List.length_cons, Nat.succ_mul]
    omega

/-- What the inner loop keeps. -/
structure ProI (w0 : World) (S : Value) (zs : List (List Int)) (g : Nat) (xs : List Int) (w : World) : Prop where
  bel : Below w0.heap.size w0 w
  row : OwnM w w0.heap.size S (zs.map monK)
  mon : MonAt w g xs
  ne : S.ownBlock = none ∨ S.ownBlock ≠ some g

theorem ownM_snoc {w : World} {B : Nat} {v : Value} {zs : List (List Int)} {z : List Int} (h : w.ownsRow B 94 5 v (zs.length + 1) ((zs.map monK).flatMap Array.toList ++ (monK z).toList)) : OwnM w B v ((zs ++ [z]).map monK) := by
  unfold OwnM
  rw [List.map_append, List.length_append, List.map_cons, List.map_nil, List.length_singleton, List.flatMap_append]
  simpa using h

theorem ProI.push {w0 w w2 w3 w5 : World} {S S' : Value} {zs : List (List Int)} {g : Nat} {xs z : List Int} (h : ProI w0 S zs g xs w) (b2 : Below w.heap.size w w2) (e3 : w3 = w2.alloc (.cells (monK z) 94))
    (hown : w5.ownsRow w0.heap.size 94 5 S' (zs.length + 1) ((zs.map monK).flatMap Array.toList ++ (monK z).toList)) (hg : w3.grownBy w5 S.ownBlock) (hb : S'.ownBlock = S.ownBlock ∨ S'.ownBlock = some w3.heap.size) : ProI w0 S' (zs ++ [z]) g xs w5 := by
  have b3 : Below w.heap.size w w3 := by rw [e3]; exact b2.alloc b2.size _
  have hlt := h.mon.lt
  refine ⟨(h.bel.step1 b3).grown hg (Nat.le_trans h.bel.size b3.size) (fun q hq => (h.row.lt q hq).1), ownM_snoc hown, ?_, ?_⟩
  · have h3 := h.mon.up b3
    refine (hg.block g h3.lt ?_).trans h3
    intro e
    rcases h.ne with hn | hn
    · rw [hn] at e; cases e
    · exact hn e.symm
  · rcases hb with e | e
    · rw [e]; exact h.ne
    · right
      rw [e]
      intro e2
      have := Option.some.inj e2
      have := b3.size
      omega

set_option maxHeartbeats 4000000 in
theorem productOfSums_any (va vb : Value) (xs ys : List (List Int)) (w : World) (ha : RdM w va (xs.map monK)) (hb : RdM w vb (ys.map monK)) (hx : ∀ x ∈ xs, Ok5 1000000 x) (hy : ∀ y ∈ ys, Ok5 1000000 y) (hl : xs.length ≤ 10000) (hl2 : ys.length ≤ 10000) :
    Calls Try.prog 72 #[va, vb] w (SumResM w ((prodK xs ys).map monK)) := by
  obtain ⟨i0, hi, hz0, hz1, hz2⟩ := info_parts infoEM
  obtain ⟨aa, ca, rfl, hma, hca⟩ := ha
  obtain ⟨ab, cb, rfl, hmb, hcb⟩ := hb
  rw [List.length_map] at hma hmb hca hcb
  rw [List.length_map, List.length_map]
  have HCA := Lib.hid hca
  have HCB := Lib.hid hcb
  have HX := Lib.hid hx
  have HY := Lib.hid hy
  have O0 : Hid (OwnM w w.heap.size (.slice none 0 0) ((prodK (xs.take 0) ys).map monK)) := Lib.hid (World.ownsRow_nil _ _ _ _)
  clear hca hcb hx hy
  go_enter Try.func72, Try.ntmps72
  go_wp2_with fail
  go_loopw [5, 7, 9, 12] (fun S _ _ c wr => ∃ i : Nat, i ≤ xs.length ∧ c = .int .i64 i ∧ Hid (OwnM wr w.heap.size S ((prodK (xs.take i) ys).map monK)) ∧ Hid (Below w.heap.size w wr)) (fun _ _ _ c _ => xs.length - (intOf c).toNat)
  case atStart => exact ⟨0, by omega, rfl, O0, Lib.hid (Below.refl _ _)⟩
  case round =>
    clear O0
    obtain ⟨i, hi2, rfl, hO, hB⟩ := hrel
    by_cases hlt : i < xs.length
    · have hlt' : (i : Int) < (xs.length : Int) := by omega
      obtain ⟨b, off, rfl, hbl, hrg⟩ := HCA.out.resolve_left (by omega)
      obtain ⟨x, hx⟩ : ∃ x, x = xs[i] := ⟨_, rfl⟩
      have hxm : x ∈ xs := by rw [hx]; exact List.getElem_mem hlt
      have hrk := hrg i hlt
      rw [List.getElem?_map, List.getElem?_eq_getElem hlt, ← hx] at hrk
      have hrk2 : w.rangeAt b (off + i * 5) (monK x).toList := hrk
      have HRW : Hid (wr.rangeAt b (off + i * 5) (monK x).toList) := Lib.hid fun q u hq => (hB.out.cell (p := ⟨b, off + i * 5 + q, none⟩) hbl).trans (hrk2 q u hq)
      have OKX := Lib.hid (HX.out x hxm)
      have SX : Hid ((monK x).size = 5) := Lib.hid (by rw [monK_size, OKX.out.1])
      have ONX : Hid ((monK x).all (·.oneCell') = true) := Lib.hid (monK_one x)
      have TK : Hid (xs.take (i + 1) = xs.take i ++ [x]) := Lib.hid (by rw [hx, List.take_add_one, List.getElem?_eq_getElem hlt]; rfl)
      have NE : Hid (u5.ownBlock = none ∨ u5.ownBlock ≠ some wr.heap.size) := Lib.hid (by
        cases e : u5.ownBlock with
        | none => exact .inl rfl
        | some q => right; intro e2; have := (hO.out.lt q e).2; have := Option.some.inj e2; omega)
      have P0 : Hid (ProI w u5 (prodK (xs.take i) ys ++ (ys.take 0).map (addL x)) wr.heap.size x (wr.alloc (.cells (monK x) 94))) := Lib.hid ⟨hB.out.alloc hB.out.size _, by rw [List.take_zero, List.map_nil, List.append_nil]; exact own_below hO.out ((Below.refl _ _).alloc (Nat.le_refl _) _), MonAt.new _ _, NE.out⟩
      have LZ : Hid ((prodK (xs.take i) ys).length ≤ 100000000) := Lib.hid (by
        rw [prodK_len, List.length_take, Nat.min_eq_left (by omega)]
        exact Nat.le_trans (Nat.mul_le_mul (by omega : i ≤ 10000) hl2) (by decide))
      obtain ⟨zs, hzs⟩ : ∃ zs, prodK (xs.take i) ys = zs := ⟨_, rfl⟩
      rw [hzs] at P0 LZ
      have HZS := Lib.hid hzs
      clear hzs
      obtain ⟨K, hK⟩ : ∃ K, K = monK x := ⟨_, rfl⟩
      rw [← hK] at HRW SX ONX P0
      have HK := Lib.hid hK
      clear hK hrg hrk hrk2 hxm hx NE hO
      go_wp2_with (first | (refine ldKM rfl _ rfl b (off + i * 5) rfl K HRW.out SX.out ?_) | (refine stKM wr rfl _ _ rfl rfl K rfl SX.out ONX.out ?_))
      obtain ⟨g, hg⟩ : ∃ g, wr.heap.size = g := ⟨_, rfl⟩
      generalize wr.alloc (.cells K 94) = w1 at *
      rw [hg] at P0
      rw [hg]
      clear hg hB
      go_loopw [5, 9, 18] (fun S _ c wr => ∃ j : Nat, j ≤ ys.length ∧ c = .int .i64 j ∧ Hid (ProI w S (zs ++ (ys.take j).map (addL x)) g x wr)) (fun _ _ c _ => ys.length - (intOf c).toNat)
      case atStart => exact ⟨0, by omega, rfl, P0⟩
      case round =>
        clear P0
        obtain ⟨j, hj, rfl, hP⟩ := hrel
        by_cases hjl : j < ys.length
        · have hjl' : (j : Int) < (ys.length : Int) := by omega
          obtain ⟨b, off, rfl, hbl, hrg⟩ := HCB.out.resolve_left (by omega)
          obtain ⟨y, hy⟩ : ∃ y, y = ys[j] := ⟨_, rfl⟩
          have hym : y ∈ ys := by rw [hy]; exact List.getElem_mem hjl
          have hrk := hrg j hjl
          rw [List.getElem?_map, List.getElem?_eq_getElem hjl, ← hy] at hrk
          have hrk2 : w.rangeAt b (off + j * 5) (monK y).toList := hrk
          have HRW2 : Hid (wr.rangeAt b (off + j * 5) (monK y).toList) := Lib.hid fun q u hq => (hP.out.bel.cell (p := ⟨b, off + j * 5 + q, none⟩) hbl).trans (hrk2 q u hq)
          have OKY := Lib.hid (HY.out y hym)
          have SY : Hid ((monK y).size = 5) := Lib.hid (by rw [monK_size, OKY.out.1])
          have ONY : Hid ((monK y).all (·.oneCell') = true) := Lib.hid (monK_one y)
          have TK2 : Hid (ys.take (j + 1) = ys.take j ++ [y]) := Lib.hid (by rw [hy, List.take_add_one, List.getElem?_eq_getElem hjl]; rfl)
          have MX : Hid ((wr.alloc (.cells (monK y) 94)).rangeAt g 0 (monK x).toList) := Lib.hid (hP.out.mon.alloc _).range
          have NY : Hid ((wr.alloc (.cells (monK y) 94)).rangeAt wr.heap.size 0 (monK y).toList) := Lib.hid (MonAt.new wr y).range
          have TM := Lib.hid (times5_any x y (wr.alloc (.cells (monK y) 94)) OKX.out.1 OKY.out.1 (fun q => ⟨(OKX.out.at (by omega) q).1, (OKX.out.at (by omega) q).2, (OKY.out.at (by omega) q).1, (OKY.out.at (by omega) q).2⟩))
          have b1 : Below wr.heap.size wr (wr.alloc (.cells (monK y) 94)) := (Below.refl _ _).alloc (Nat.le_refl _) _
          have B1 := Lib.hid b1
          have LZ2 : Hid (((zs ++ (ys.take j).map (addL x)).map monK).length ≤ 100010000) := Lib.hid (by rw [List.length_map, List.length_append, List.length_map, List.length_take]; have := LZ.out; omega)
          have OKP := Lib.hid ((Ok5.add (by omega) (by omega) OKX.out OKY.out).kok (by omega))
          have NXT : Hid (zs ++ (ys.take (j + 1)).map (addL x) = (zs ++ (ys.take j).map (addL x)) ++ [addL x y]) := Lib.hid (by rw [TK2.out, List.map_append, List.append_assoc]; rfl)
          generalize zs ++ (ys.take j).map (addL x) = us at *
          rw [← HK.out] at MX TM
          clear hrg hrk hrk2 hym hy b1
          go_wp2_with (first | (refine ldKM rfl _ rfl b (off + j * 5) rfl (monK y) HRW2.out SY.out ?_) | (refine stKM wr rfl _ _ rfl rfl (monK y) rfl SY.out ONY.out ?_) | (refine ldKM rfl _ rfl g 0 rfl K MX.out SX.out ?_) | (refine ldKM rfl _ rfl wr.heap.size 0 rfl (monK y) NY.out SY.out ?_))
          refine TM.out.mono ?_
          rintro e w3 ⟨rfl, b3⟩
          have B3 := Lib.hid (B1.out.trans (b3.mono B1.out.size))
          have PA : Hid ((w3.alloc (.cells (monK (addL x y)) 94)).ownsRow w.heap.size 94 5 u5 (us.map monK).length ((us.map monK).flatMap Array.toList)) := Lib.hid (own_below (own_below hP.out.row B3.out) ((Below.refl _ _).alloc (Nat.le_refl _) _))
          have HBS : Hid (w.heap.size ≤ (w3.alloc (.cells (monK (addL x y)) 94)).heap.size) := Lib.hid (by have := hP.out.bel.size; have := B3.out.size; simp; omega)
          have lz := LZ2.out
          clear b3 B1 TM HRW2 NY MX
          go_wp2_with (first
            | (refine bsKM w3 rfl _ rfl (monK (addL x y)) rfl OKP.out ?_)
            | (at_builtin; refine wpList_append_own_at _ rfl _ _ 87 rfl w.heap.size 94 i0 (.agg #[Value.int .i64 0, Value.int .i64 0, Value.int .i64 0, Value.int .i64 0, Value.int .i64 0]) 5 40 Try.underlying87 hi hz0 hz1 hz2 rfl (by decide) _ _ _ rfl PA.out ⟨w3.heap.size, 0, none⟩ 1 1 (monK (addL x y)).toList rfl ?c1 ?c2 ?c3 ?c4 ?c5 HBS.out ?_))
          case c1 => rw [Array.length_toList, OKP.out.size]
          case c2 => intro q u hu; rw [Addr.add_mid]; exact (loadNewM w3 _ OKP.out.size) q u hu
          case c3 => exact fun u hu => (Array.all_eq_true_iff_forall_mem.1 OKP.out.one) u (by simpa using hu)
          case c4 => unfold maxLen; omega
          case c5 => omega
          intro v' w5 hown' hgrow _ hblk
          have P9 : Hid (ProI w v' (zs ++ (ys.take (j + 1)).map (addL x)) g x w5) := Lib.hid (by rw [NXT.out]; exact ProI.push hP.out B3.out rfl hown' hgrow (by rw [World.size_alloc]; exact hblk))
          clear hown' hgrow hblk hP
          go_wp2_with fail
          go_roundw
          case rel => exact ⟨j + 1, by omega, by go_num, P9⟩
          case measure => simp [intOf]; omega
        · obtain rfl : j = ys.length := by omega
          rw [List.take_length] at hP
          have O9 := Lib.hid hP.out.row
          have B9 := Lib.hid hP.out.bel
          clear hP
          go_wp2_with fail
          go_roundw
          case rel => exact ⟨i + 1, by omega, by go_num, Lib.hid (by rw [TK.out, prodK_snoc, HZS.out]; exact O9.out), B9⟩
          case measure => simp [intOf]; omega
    · obtain rfl : i = xs.length := by omega
      rw [List.take_length] at hO
      have LP : Hid (((prodK xs ys).map monK).length ≤ 500000000) := Lib.hid (by
        rw [List.length_map, prodK_len]
        exact Nat.le_trans (Nat.mul_le_mul hl hl2) (by decide))
      have OKA : Hid (∀ k ∈ (prodK xs ys).map monK, KOKM k) := Lib.hid fun k hk => by
        obtain ⟨z, hz, rfl⟩ := List.mem_map.1 hk
        obtain ⟨x, hx, hz⟩ := List.mem_flatMap.1 hz
        obtain ⟨y, hy, rfl⟩ := List.mem_map.1 hz
        exact (Ok5.add (by omega) (by omega) (HX.out x hx) (HY.out y hy)).kok (by omega)
      have SM := Lib.hid (sumOfM u5 (.slice none 0 0) ((prodK xs ys).map monK) [] wr (rdK_of_own hO.out fun k hk => (OKA.out k hk).size) ⟨none, 0, rfl, Nat.zero_le _, .inl rfl⟩ OKA.out (fun k hk => by cases hk) LP.out (Nat.zero_le _) colM)
      rw [List.append_nil] at SM
      clear hO
      go_wp2_with fail
      refine SM.out.mono ?_
      rintro e w3 ⟨u, rs, rfl, ho, b3, hn, hm⟩
      have R9 : Hid (SumResM w ((prodK xs ys).map monK) (.returned u) w3) := Lib.hid ⟨u, rs, rfl, own_base ho hB.out.size, hB.out.step1 b3, hn, hm⟩
      clear ho b3 hn hm hB SM
      go_wp2_with fail
      go_ret
      exact R9.out
end Go.Proofs.Ytnmilkehggjpfaa
end
section
namespace Go.Proofs.Ytnmilkehggjpfaa
open Go.RowKit Go.Maps
set_option linter.unusedVariables false
set_option maxRecDepth 100000

theorem trimTo_len5 (l : List Int) : ∀ j, (trimTo l j).length ≤ j
  | 0 => Nat.le_refl _
  | j + 1 => by
    rw [trimTo]
    split
    · have := trimTo_len5 l j; omega
    · rw [List.length_take]; omega
theorem trimTo_pad (l : List Int) : ∀ j, j ≤ l.length → trimTo l j ++ List.replicate (j - (trimTo l j).length) 0 = l.take j
  | 0, _ => by simp [trimTo]
  | j + 1, h => by
    rw [trimTo]
    split
    · rename_i hz
      have ih := trimTo_pad l j (by omega)
      have hl := trimTo_len5 l j
      have e : List.replicate (j + 1 - (trimTo l j).length) (0 : Int) = List.replicate (j - (trimTo l j).length) 0 ++ [0] := by
        rw [← List.replicate_succ']; congr 1; omega
      rw [e, ← List.append_assoc, ih, List.take_add_one, List.getElem?_eq_getElem (by omega)]
      rw [List.getElem?_eq_getElem (by omega)] at hz
      have hz : l[j] = 0 := hz
      rw [hz]
      rfl
    · rw [List.length_take, Nat.min_eq_left h, Nat.sub_self]
      simp
theorem pad_trim {l : List Int} (h : l.length = 5) : padL (trim l) = l := by
  have := trimTo_pad l 5 (by omega)
  unfold padL trim
  rw [h, this, List.take_of_length_le (by omega)]
theorem trim_len5 {l : List Int} (h : l.length = 5) : (trim l).length ≤ 5 := by unfold trim; rw [h]; exact trimTo_len5 l 5
theorem trim_inj {a b : List Int} (ha : a.length = 5) (hb : b.length = 5) (h : trim a = trim b) : a = b := by rw [← pad_trim ha, ← pad_trim hb, h]

theorem take_at5 {α : Type} (l : List α) (j : Nat) (h : j < l.length) : ∃ x, l[j]? = some x ∧ x ∈ l ∧ l.take (j + 1) = l.take j ++ [x] :=
  ⟨l[j], List.getElem?_eq_getElem h, List.getElem_mem h, by rw [List.take_add_one, List.getElem?_eq_getElem h]; rfl⟩
theorem key_at5 (f : List Int → Array Value) (s : Nat) {w : World} {B : Nat} {T : TypeId} {a : Option Addr} {n cap : Nat} {ts : List (List Int)} (h : w.ownsRow B T s (.slice a n cap) (ts.map f).length ((ts.map f).flatMap Array.toList)) (hk : ∀ y ∈ ts, (f y).size = s)
    (j : Nat) (hj : j < ts.length) (x : List Int) (hx : ts[j]? = some x) : ∃ b off, a = some ⟨b, off, none⟩ ∧ w.rangeAt b (off + j * s) (f x).toList := by
  obtain ⟨a', cap', e, _, hc⟩ := rdK_of_own h (fun k hk' => by obtain ⟨y, hy, rfl⟩ := List.mem_map.1 hk'; exact hk y hy)
  obtain ⟨b, off, e2, _, hc⟩ := hc.resolve_left (by rw [List.length_map]; omega)
  have h1 := hc j (by rw [List.length_map]; exact hj)
  rw [List.getElem?_map, hx] at h1
  simp only [Value.slice.injEq] at e
  exact ⟨b, off, e.1.trans e2, h1⟩

/-- What the loop of dualOf keeps. -/
structure DuI (w : World) (kv : Value) (ks : List (List Int)) (S : Value) (VS : Nat → Value) (L : List (List Int)) (wr : World) : Prop where
  ge : w.heap.size + 2 ≤ wr.heap.size
  fam : FamL wr (w.heap.size + 2) S VS L
  sep : Sep L.length VS
  keys : OwnM wr (w.heap.size + 2) kv (ks.map monK)
  bA : Box1 wr (w.heap.size + 1) 27 S
  bR : Box1 wr w.heap.size 27 (.slice none 0 0)
  low : Below w.heap.size w wr

theorem DuI.push {w wr w1 w5 w8 : World} {kv S v V8 : Value} {ks L : List (List Int)} {VS : Nat → Value} {x : List Int} {K : Array Value} (h : DuI w kv ks S VS L wr) (e1 : w1 = wr.alloc (.cells K 94)) (b5 : Below w1.heap.size w1 w5)
    (hv : w5.ownsRow w1.heap.size 2 1 v x.length (x.map (Value.int .i64))) (o : Obj) (ho : w8.ownsRow (w.heap.size + 2) 65 1 V8 (L.length + 1) ((List.range L.length).map VS ++ [v])) (hg : (w5.alloc o).grownBy w8 S.ownBlock) :
    Box1 w8 (w.heap.size + 1) 27 S ∧ DuI w kv ks V8 (ext VS L.length v) (L ++ [x]) (w8.setCell ⟨w.heap.size + 1, 0, none⟩ V8) := by
  have bb : Below wr.heap.size wr w1 := by rw [e1]; exact (Below.refl _ _).alloc (Nat.le_refl _) _
  have hs1 := bb.size
  have hge := h.ge
  have F1 : FamL w1 (w.heap.size + 2) S VS L := h.fam.below bb
  obtain ⟨f8, s8, b8⟩ := fam_put F1 h.sep (by omega) hv rfl b5 o ho hg
  have bA8 : Box1 w8 (w.heap.size + 1) 27 S := (h.bA.up bb).below b8 (by omega)
  have bR8 : Box1 w8 w.heap.size 27 (.slice none 0 0) := (h.bR.up bb).below b8 (by omega)
  have FO : FamL (w5.alloc o) (w.heap.size + 2) S VS L := (F1.below b5).below ((Below.refl _ _).alloc (Nat.le_refl _) _)
  have KO : OwnM (w5.alloc o) (w.heap.size + 2) kv (ks.map monK) := own_below (own_below (own_below h.keys bb) b5) ((Below.refl _ _).alloc (Nat.le_refl _) _)
  have K8 : OwnM w8 (w.heap.size + 2) kv (ks.map monK) := World.ownsRow.kept KO hg (own_types KO FO.out (by decide))
  have hne : ∀ g, w.heap.size + 2 ≤ g → (w8.setCell ⟨w.heap.size + 1, 0, none⟩ V8).heap[g]? = w8.heap[g]? := fun g hg => heap_setCell_other _ _ _ _ (by simp; omega)
  have hs8 := b8.size
  refine ⟨bA8, ⟨?_, ⟨?_, ?_⟩, s8, ?_, bA8.set V8, bR8.other _ _ (by simp), ?_⟩⟩
  · rw [World.size_setCell]; omega
  · exact own_sameblock f8.out fun g hg => hne g (f8.out.lt g hg).1
  · exact fun i hi => own_sameblock (f8.inn i hi) fun g hg => hne g ((f8.inn i hi).lt g hg).1
  · exact own_sameblock K8 fun g hg => hne g (World.ownsRow.lt K8 g hg).1
  · exact (((h.low.step1 bb).trans (b8.mono (by omega)))).setCell (p := ⟨w.heap.size + 1, 0, none⟩) (by simp) V8

/-- A struct of the sum of monomials. -/
def ResP (zs : List (List Int)) (w : World) (e : Ending) (w' : World) : Prop :=
  ∃ V VS L, e = .returned (.agg #[V]) ∧ FamL w' w.heap.size V VS L ∧ Sep L.length VS ∧ Below w.heap.size w w' ∧ Asc L ∧ ∀ z, z ∈ L ↔ ∃ k, par zs k ∧ trim k = z
end Go.Proofs.Ytnmilkehggjpfaa
end
