/-
  Joined: GWords, KSumP, KMapP.
-/
import Derived.Test.YtldlpeohdindaaaZeneratorForm13
import Derived.Test.YtldlpeohdindaaaZeneratorForm03
import Derived.BigRegion
import Derived.Lib.Hide
section
namespace Go.Proofs.Ytldlpeohdindaaa
open Go.RowKit
set_option linter.unusedVariables false
set_option maxRecDepth 100000

/-- Lists that a call makes, as they come. -/
structure WSt (w : World) (L : List (List Int)) (V : Value) (VS : Nat → Value) (wr : World) : Prop where
  fam : FamL wr w.heap.size V VS L
  sep : Sep L.length VS
  bel : Below w.heap.size w wr
theorem WSt.up {w wr w' : World} {L : List (List Int)} {V : Value} {VS : Nat → Value} (h : WSt w L V VS wr) (k : Below wr.heap.size wr w') : WSt w L V VS w' :=
  ⟨h.fam.below k, h.sep, h.bel.trans (k.mono h.bel.size)⟩
theorem WSt.start (w : World) : WSt w [] (.slice none 0 0) (fun _ => undef) w := ⟨⟨World.ownsRow_nil _ _ _ _, fun i hi => absurd hi (Nat.not_lt_zero _)⟩, fun i j hi => absurd hi (Nat.not_lt_zero _), Below.refl _ _⟩
def WordsPost (L : List (List Int)) (w : World) (e : Ending) (w' : World) : Prop := ∃ V VS, e = .returned V ∧ WSt w L V VS w'

set_option maxHeartbeats 2000000 in
theorem joined_any (va vb : Value) (A C : List (List Int)) (w : World) (ha : RdR w va A.length (rowsOf A)) (hb : RdR w vb C.length (rowsOf C)) (hA : A.length ≤ 100) (hC : C.length ≤ 100) (la : ∀ i, (rowsOf A i).length ≤ 100) (lc : ∀ i, (rowsOf C i).length ≤ 100) :
    Calls Try.prog 32 #[va, vb] w (WordsPost (jn A C) w) := by
  have S0 : Hid (WSt w (jn (A.take 0) C) (.slice none 0 0) (fun _ => undef) w) := Lib.hid (WSt.start w)
  have HA := Lib.hid ha
  have HB := Lib.hid hb
  have LA := Lib.hid la
  have LC := Lib.hid lc
  obtain ⟨aa, ca, rfl, _, _⟩ := id ha
  obtain ⟨ab, cb, rfl, _, _⟩ := id hb
  clear ha hb la lc
  go_enter Try.func32, Try.ntmps32
  go_wp2_with fail
  go_loopw [5, 12] (fun S c wr => ∃ (i : Nat) (VS : Nat → Value), i ≤ A.length ∧ c = .int .i64 i ∧ Hid (WSt w (jn (A.take i) C) S VS wr)) (fun _ c _ => A.length - (intOf c).toNat)
  case atStart => exact ⟨0, _, Nat.zero_le _, rfl, S0⟩
  case round =>
    clear S0
    obtain ⟨i, VS, hi, rfl, hS⟩ := hrel
    by_cases hlt : i < A.length
    · have hlt' : (i : Int) < (A.length : Int) := by omega
      obtain ⟨x, hx⟩ : ∃ x, rowsOf A i = x := ⟨_, rfl⟩
      have NX : Hid (jn (A.take (i + 1)) C = jn (A.take i) C ++ C.map fun y => x ++ y) := Lib.hid (by rw [List.take_add_one, List.getElem?_eq_getElem hlt, ← hx]; unfold rowsOf; rw [List.getElem?_eq_getElem hlt]; exact jn_snoc _ _ _)
      have JL : Hid ((jn (A.take i) C).length ≤ 10000) := Lib.hid (by rw [jn_len, List.length_take]; exact Nat.le_trans (Nat.mul_le_mul (Nat.le_trans (Nat.min_le_right _ _) hA) hC) (by omega))
      have S1 : Hid (WSt w (jn (A.take i) C ++ (C.take 0).map fun y => x ++ y) u5 VS wr) := Lib.hid (by simpa using hS.out)
      obtain ⟨ba, oa, ca', au, cu, e1, c0, r1⟩ := HA.out.cellAt hlt
      cases e1
      rw [hx] at c0 r1
      have c1 := (hS.out.bel.cell (p := ⟨ba, oa + i, none⟩) (World.block_lt_of_cell? w _ c0)).trans c0
      have RXW : Hid (∀ wx, Below w.heap.size w wx → RdN wx (.slice au x.length cu) x) := Lib.hid fun wx hb => r1.below hb
      have lx := LA.out i
      rw [hx] at lx
      clear hS r1 hx c0
      go_wp2_with fail
      go_loopw [5, 18] (fun S2 c wq => ∃ (k : Nat) (VS2 : Nat → Value), k ≤ C.length ∧ c = .int .i64 k ∧ Hid (WSt w (jn (A.take i) C ++ (C.take k).map fun y => x ++ y) S2 VS2 wq)) (fun _ c _ => C.length - (intOf c).toNat)
      case atStart => exact ⟨0, VS, Nat.zero_le _, rfl, S1⟩
      case round =>
        clear S1
        rename World => w1
        obtain ⟨k, VS2, hk, rfl, hS2⟩ := hrel
        by_cases hlk : k < C.length
        · have hlk' : (k : Int) < (C.length : Int) := by omega
          obtain ⟨bb, ob, cb', bu, du, e2, c2, r2⟩ := (HB.out.below hS2.out.bel).cellAt hlk
          cases e2
          obtain ⟨y, hy⟩ : ∃ y, rowsOf C k = y := ⟨_, rfl⟩
          have NY : Hid (jn (A.take i) C ++ (C.take (k + 1)).map (fun y => x ++ y) = (jn (A.take i) C ++ (C.take k).map fun y => x ++ y) ++ [x ++ y]) := Lib.hid (by rw [List.take_add_one, List.getElem?_eq_getElem hlk, List.map_append, List.append_assoc, ← hy]; unfold rowsOf; rw [List.getElem?_eq_getElem hlk]; rfl)
          have ly := LC.out k
          rw [hy] at c2 r2 ly
          have LL : (jn (A.take i) C ++ (C.take k).map fun y => x ++ y).length ≤ 20000 := by rw [List.length_append, List.length_map, List.length_take]; have := JL.out; omega
          have BA : Below w1.heap.size w1 (w1.alloc (.cells #[.slice au x.length cu, .slice bu y.length du] 46)) := (Below.refl _ w1).alloc (Nat.le_refl _) _
          have hh := heap_alloc_new w1 (.cells #[.slice au x.length cu, .slice bu y.length du] 46)
          have CT := Lib.hid (concat_two w1.heap.size x y _ _ _ ((RXW.out w1 hS2.out.bel).below BA) (r2.below BA) (cell_of_row _ w1.heap.size 0 _ _ (0, 0) hh) (cell_of_row _ w1.heap.size 1 _ _ (0, 0) hh) lx ly)
          have SA := Lib.hid (hS2.out.up BA)
          generalize jn (A.take i) C ++ (C.take k).map (fun y => x ++ y) = M at *
          have lz : (x ++ y).length ≤ 200 := by rw [List.length_append]; omega
          generalize x ++ y = z at NY CT lz
          clear hh r2 hy hS2 BA
          go_wp2_with fail
          refine CT.out.mono ?_
          rintro e w2 ⟨v, rfl, hv, hb2⟩
          obtain ⟨ua, uc, rfl, _⟩ := own_len hv
          have hszA := SA.out.bel.size
          have hsz2 := hb2.size
          have HV := Lib.hid hv
          have HB2 := Lib.hid hb2
          have F3 : Hid ((w2.alloc (.cells #[.slice ua z.length uc] 46)).ownsRow w.heap.size 46 1 u5 M.length ((List.range M.length).map VS2)) := Lib.hid ((SA.out.fam.below hb2).out.alloc _)
          have SZ : Hid (w.heap.size ≤ (w2.alloc (.cells #[.slice ua z.length uc] 46)).heap.size) := Lib.hid (by simp at hszA hsz2 ⊢; omega)
          clear hv hb2 CT hszA hsz2
          go_wp2_with (at_builtin; refine wpList_rows _ rfl _ _ rfl w.heap.size M.length _ _ rfl F3.out (some ⟨w2.heap.size, 0, none⟩) 1 1 [.slice ua z.length uc] rfl (.inr ⟨_, rfl, cell_one_new _ _ _⟩) rfl (by intro u hu; rw [List.mem_singleton.1 hu]; rfl) (by omega) SZ.out ?_; intro V4 w4 hV4 hg4; have R := Lib.hid (fam_put SA.out.fam SA.out.sep SA.out.bel.size HV.out rfl HB2.out _ hV4 hg4); clear hV4 hg4)
          go_roundw
          case rel => exact ⟨k + 1, ext VS2 M.length (.slice ua z.length uc), by omega, by go_num, Lib.hid (by rw [NY.out]; exact ⟨R.out.1, R.out.2.1, SA.out.bel.trans R.out.2.2⟩)⟩
          case measure => simp [intOf]; omega
        · obtain rfl : k = C.length := by omega
          rw [List.take_length, ← NX.out] at hS2
          go_wp2_with fail
          go_roundw
          case rel => exact ⟨i + 1, VS2, by omega, by go_num, hS2⟩
          case measure => simp [intOf]; omega
    · obtain rfl : i = A.length := by omega
      rw [List.take_length] at hS
      go_wp2_with fail
      go_ret
      exact ⟨_, VS, rfl, hS.out⟩
end Go.Proofs.Ytldlpeohdindaaa
end
section
namespace Go.Proofs.Ytldlpeohdindaaa
open Go.RowKit Go.Maps
set_option linter.unusedVariables false
set_option maxRecDepth 100000

theorem keyedP : Keyed Try.prog 72 := Keyed.of_law (deep_law_laid laidP (m := 3) (by omega) (of_decide_eq_true (by kernel_rfl)) (by kernel_rfl) (by kernel_rfl))
theorem sizeP : (Try.prog.info? 72).map (·.size) = some 8 := by kernel_rfl

theorem listP {zs : List Int} (h : zs.length = 8) : ∃ z0 z1 z2 z3 z4 z5 z6 z7, zs = [z0, z1, z2, z3, z4, z5, z6, z7] := by
  match zs, h with
  | [z0, z1, z2, z3, z4, z5, z6, z7], _ => exact ⟨z0, z1, z2, z3, z4, z5, z6, z7, rfl⟩

/-- A key's cells. -/
structure KOKP (k : Array Value) : Prop where
  ints : ∃ zs : List Int, zs.length = 8 ∧ k = (zs.map (Value.int .u8)).toArray
  key : ∃ l, keyOf Try.prog 72 (.agg k) = some l
theorem KOKP.lit {k : Array Value} (h : KOKP k) : ∃ z0 z1 z2 z3 z4 z5 z6 z7 : Int, k = #[Value.int .u8 z0, Value.int .u8 z1, Value.int .u8 z2, Value.int .u8 z3, Value.int .u8 z4, Value.int .u8 z5, Value.int .u8 z6, Value.int .u8 z7] := by
  obtain ⟨zs, hz, e⟩ := h.ints
  obtain ⟨z0, z1, z2, z3, z4, z5, z6, z7, rfl⟩ := listP hz
  exact ⟨z0, z1, z2, z3, z4, z5, z6, z7, e⟩

/-- v reads as the keys ks. -/
def RdP (w : World) (v : Value) (ks : List (Array Value)) : Prop :=
  ∃ a cap, v = .slice a ks.length cap ∧ ks.length ≤ maxLen ∧ (ks.length = 0 ∨ ∃ b off, a = some ⟨b, off, none⟩ ∧ b < w.heap.size ∧ ∀ i, i < ks.length → w.rangeAt b (off + i * 8) (ks[i]?.getD #[]).toList)
theorem RdP.below {w w' : World} {v : Value} {ks : List (Array Value)} (h : RdP w v ks) (k : Below w.heap.size w w') : RdP w' v ks := by
  obtain ⟨a, cap, e, hm, hc⟩ := h
  refine ⟨a, cap, e, hm, ?_⟩
  rcases hc with h0 | ⟨b, off, e, hb, hc⟩
  · exact .inl h0
  · exact .inr ⟨b, off, e, Nat.lt_of_lt_of_le hb k.size, fun i hi j u hj => (k.cell (p := ⟨b, off + i * 8 + j, none⟩) hb).trans (hc i hi j u hj)⟩

theorem loadP (w : World) (b o : Nat) (k : Array Value) (h : w.rangeAt b o k.toList) (hs : k.size = 8) : (Instr.loadAt 72 (.pointer (some ⟨b, o, none⟩))).run Try.prog w = .ok (.agg k) w := by
  have := run_loadAt_mid w b o 72 k.toList _ h Try.underlying72 rfl (by rw [sizeP]; simp [hs])
  simpa using this
theorem KOKP.size {k : Array Value} (h : KOKP k) : k.size = 8 := by
  obtain ⟨zs, hz, rfl⟩ := h.ints
  simp [hz]
theorem KOKP.one {k : Array Value} (h : KOKP k) : k.all (·.oneCell') = true := by
  obtain ⟨zs, hz, rfl⟩ := h.ints
  simp [Value.oneCell']

theorem loadCP (w : World) (b o : Nat) (k : Array Value) (h : w.rangeAt b o k.toList) (hs : k.size = 8) : (loadCellsFrom ⟨b, o, none⟩ 0 8 #[]).run Try.prog w = .ok k w := by
  have := run_loadCells_list (P := Try.prog) w ⟨b, o, none⟩ k.toList (fun j v hv => by rw [Addr.add_mid]; exact h j v hv)
  simpa [loadCells, hs] using this
theorem loadNewP (w : World) (k : Array Value) (hs : k.size = 8) : (w.alloc (.cells k 72)).rangeAt w.heap.size 0 k.toList := by
  intro j v hv
  rw [Nat.zero_add, cell_of_row _ w.heap.size j k 72 (0, 0) (heap_alloc_new w _)]
  simpa using hv

/-- A key is loaded whole. -/
theorem ldKP {ops : Array Oper} {rest : List Oper} {op : Oper} {a : Act} {w : World} {Q : Exit → Act → World → Prop} (hgd : op.guard = none) (x : Operand) (ho : op.op = .load 72 x)
    (b o : Nat) (hx : a.eval x = .pointer (some ⟨b, o, none⟩)) (k : Array Value) (hc : w.rangeAt b o k.toList) (hs : k.size = 8) (h : wpList Try.prog ops Q rest (a.put op.dst (.agg k)) w) : wpList Try.prog ops Q (op :: rest) a w :=
  wpList_load_mid hgd 72 x ho b o hx k.toList _ hc Try.underlying72 rfl (by rw [sizeP]; simp [hs]) (by simpa using h)
/-- A key is stored into the variable that was made last. -/
theorem stKP {ops : Array Oper} {rest : List Oper} {op : Oper} {a : Act} {Q : Exit → Act → World → Prop} (w : World) (hgd : op.guard = none) (x y : Operand) (ho : op.op = .store 72 x y)
    (hx : a.eval x = .pointer (some ⟨w.heap.size, 0, none⟩)) (k : Array Value) (hy : a.eval y = .agg k) (hs : k.size = 8) (h1 : k.all (·.oneCell') = true)
    (h : wpList Try.prog ops Q rest (a.put op.dst undef) (w.alloc (.cells k 72))) : wpList Try.prog ops Q (op :: rest) a (w.alloc (.cells #[Value.int .u8 0, Value.int .u8 0, Value.int .u8 0, Value.int .u8 0, Value.int .u8 0, Value.int .u8 0, Value.int .u8 0, Value.int .u8 0] 72)) := by
  refine wpList_plain hgd fun K' hK' => ?_
  unfold Oper.wp execOp
  simp only [ho, hx, hy, run_storeAt_new (P := Try.prog) w 72 #[Value.int .u8 0, Value.int .u8 0, Value.int .u8 0, Value.int .u8 0, Value.int .u8 0, Value.int .u8 0, Value.int .u8 0, Value.int .u8 0] k (by rw [sizeP, hs]) (by rw [hs]; rfl) h1, Sem.run_bind, Sem.run_pure, Result.andThen_ok]
  exact hK' _ _ h

/-- The state between two rounds. -/
structure StP (w : World) (va vb : Value) (p : List (Array Value)) (wr : World) : Prop where
  map : ∃ (D : DataW Unit) (n : Nat), wr.ownsMap Try.prog 72 (plainElem Try.prog 4) w.heap.size n D ∧ n ≤ p.length ∧ MapIs 72 D p
  bel : Below w.heap.size w wr
  two : wr.heap[w.heap.size + 1]? = some (.cells #[va, vb] 70 (0, 0))
  big : w.heap.size + 2 ≤ wr.heap.size
end Go.Proofs.Ytldlpeohdindaaa
end
section
namespace Go.Proofs.Ytldlpeohdindaaa
open Go.RowKit Go.Maps
set_option linter.unusedVariables false
set_option maxRecDepth 100000

/-- A row of keys that a call owns. -/
def OwnP (w : World) (B : Nat) (v : Value) (ks : List (Array Value)) : Prop := w.ownsRow B 72 8 v ks.length (ks.flatMap Array.toList)

/-- What is collected from a map. -/
def ColP (w : World) (D : DataW Unit) (e : Ending) (w' : World) : Prop :=
  ∃ u rs, e = .returned u ∧ OwnP w' w.heap.size u rs ∧ Below w.heap.size w w' ∧ rs.Nodup ∧ ∀ k, k ∈ rs ↔ ∃ l, keyOf Try.prog 72 (.agg k) = some l ∧ has D l = true
def ColAllP : Prop := ∀ (w : World) (Bm m n : Nat) (D : DataW Unit), w.cell? ⟨Bm, 0, none⟩ = some (.map (some m)) → w.ownsMap Try.prog 72 (plainElem Try.prog 4) m n D → n ≤ 1000000000 →
  Calls Try.prog 69 #[.func (.func 85) #[] #[.pointer (some ⟨Bm, 0, none⟩)]] w (ColP w D)

theorem keysOfP (mb : Option Nat) (w : World) :
    Calls Try.prog 70 #[.map mb] w fun e w' => e = .returned (.func (.func 85) #[] #[.pointer (some ⟨w.heap.size, 0, none⟩)]) ∧ w' = w.alloc (.cells #[.map mb] 93) := by
  go_enter Try.func70, Try.ntmps70
  go_wp2
  go_ret
  exact ⟨rfl, rfl⟩

/-- What sumOfLists returns. -/
def SumResP (w : World) (ks : List (Array Value)) (e : Ending) (w' : World) : Prop :=
  ∃ u rs, e = .returned u ∧ OwnP w' w.heap.size u rs ∧ Below w.heap.size w w' ∧ rs.Nodup ∧ (∀ k, k ∈ rs ↔ par ks k)

set_option maxHeartbeats 1000000 in
theorem sumOfP (va vb : Value) (xs ys : List (Array Value)) (w : World) (ha : RdP w va xs) (hb : RdP w vb ys) (hka : ∀ k ∈ xs, KOKP k) (hkb : ∀ k ∈ ys, KOKP k) (hla : xs.length ≤ 500000000) (hlb : ys.length ≤ 500000000) (COL : ColAllP) :
    Calls Try.prog 54 #[va, vb] w (SumResP w (xs ++ ys)) := by
  have hmm := @run_makeMap Try.prog
  have HA := Lib.hid ha
  have HB := Lib.hid hb
  have HKA := Lib.hid hka
  have HKB := Lib.hid hkb
  have COL0 := Lib.hid COL
  obtain ⟨aa, ca, rfl, ha2⟩ := ha
  obtain ⟨ab, cb, rfl, hb2⟩ := hb
  clear ha2 hb2
  clear hka hkb COL
  go_enter Try.func54, Try.ntmps54
  go_wp2_with fail
  have S0 : Hid (StP w (.slice aa xs.length ca) (.slice ab ys.length cb) [] ((w.alloc (.map #[] 0)).alloc (.cells #[.slice aa xs.length ca, .slice ab ys.length cb] 70))) := Lib.hid
    ⟨⟨.map [], 0, (World.ownsMap_made w _ _ _).alloc _, Nat.le_refl _, MapIs.nil _⟩, ((Below.refl _ w).alloc (Nat.le_refl _) _).alloc (by simp) _, by have := heap_alloc_new (w.alloc (.map #[] 0)) (.cells #[.slice aa xs.length ca, .slice ab ys.length cb] 70); simpa using this, by simp⟩
  generalize ((w.alloc (.map #[] 0)).alloc (.cells #[.slice aa xs.length ca, .slice ab ys.length cb] 70)) = w1 at S0 ⊢
  clear hmm
  go_loopw [7, 9, 15] (fun _ _ c wr => ∃ i : Nat, i ≤ 2 ∧ c = .int .i64 i ∧ Hid (StP w (.slice aa xs.length ca) (.slice ab ys.length cb) (preK xs ys i) wr)) (fun _ _ c _ => 2 - (intOf c).toNat)
  case atStart => exact ⟨0, by omega, rfl, S0⟩
  case round =>
    clear S0
    obtain ⟨i, hi, rfl, hS⟩ := hrel
    by_cases hlt : i < 2
    · have hlt' : (i : Int) < 2 := by omega
      have hpick : ∃ (v : Value) (ks : List (Array Value)), wr.cell? ⟨w.heap.size + 1, i, none⟩ = some v ∧ RdP w v ks ∧ (∀ k ∈ ks, KOKP k) ∧ preK xs ys i ++ ks = preK xs ys (i + 1) ∧ ks.length ≤ 500000000 ∧ (preK xs ys i).length ≤ 500000000 := by
        have h2 := hS.out.two
        by_cases h0 : i = 0
        · subst h0
          exact ⟨_, xs, cell_of_row wr _ 0 _ _ (0, 0) h2, HA.out, HKA.out, rfl, hla, Nat.zero_le _⟩
        · obtain rfl : i = 1 := by omega
          exact ⟨_, ys, cell_of_row wr _ 1 _ _ (0, 0) h2, HB.out, HKB.out, rfl, hlb, hla⟩
      obtain ⟨v, ks, c1, hr, hks, hnext, hkl, hpl⟩ := hpick
      have HR := Lib.hid hr
      have HKS := Lib.hid hks
      have HNX := Lib.hid hnext
      obtain ⟨av, cv, rfl, hmv, hcv⟩ := hr
      have HCV := Lib.hid hcv
      clear hks hnext hcv
      go_wp2_with fail
      have S1 : Hid (StP w (.slice aa xs.length ca) (.slice ab ys.length cb) (preK xs ys i ++ ks.take 0) wr) := Lib.hid (by rw [List.take_zero, List.append_nil]; exact hS.out)
      obtain ⟨wo, hwo⟩ : ∃ wo, wo = wr := ⟨_, rfl⟩
      subst hwo
      go_loopw [9, 21] (fun _ c wr => ∃ j : Nat, j ≤ ks.length ∧ c = .int .i64 j ∧ Hid (StP w (.slice aa xs.length ca) (.slice ab ys.length cb) (preK xs ys i ++ ks.take j) wr)) (fun _ c _ => ks.length - (intOf c).toNat)
      case atStart => exact ⟨0, by omega, rfl, S1⟩
      case round =>
        clear S1
        obtain ⟨j, hj, rfl, hS⟩ := hrel
        by_cases hjl : j < ks.length
        · have hjl' : (j : Int) < (ks.length : Int) := by omega
          obtain ⟨b, off, rfl, hbl, hrg⟩ := HCV.out.resolve_left (by omega)
          obtain ⟨k, hk⟩ : ∃ k, k = ks[j]?.getD #[] := ⟨_, rfl⟩
          have hrk := hrg j hjl
          rw [← hk] at hrk
          have hmem : k ∈ ks := by
            rw [hk, List.getElem?_eq_getElem hjl]
            exact List.getElem_mem hjl
          have HT : Hid (ks.take (j + 1) = ks.take j ++ [k]) := Lib.hid (by
            rw [hk, List.take_add_one, List.getElem?_eq_getElem hjl]
            rfl)
          obtain ⟨l, hkey⟩ := (HKS.out k hmem).key
          have hsz := (HKS.out k hmem).size
          have hone := (HKS.out k hmem).one
          have hrw : wr.rangeAt b (off + j * 8) k.toList := fun q u hq => (hS.out.bel.cell (p := ⟨b, off + j * 8 + q, none⟩) hbl).trans (hrk q u hq)
          clear hk
          have HRW := Lib.hid hrw
          have HSZ := Lib.hid hsz
          have HONE := Lib.hid hone
          clear hrw hsz hone
          obtain ⟨D, n, hown, hnl, hD⟩ := hS.out.map
          have hown2 := hown.alloc (.cells k 72)
          have hB2 : Hid (Below w.heap.size w (wr.alloc (.cells k 72))) := Lib.hid (hS.out.bel.alloc hS.out.bel.size _)
          have h22 : Hid ((wr.alloc (.cells k 72)).heap[w.heap.size + 1]? = some (.cells #[.slice aa xs.length ca, .slice ab ys.length cb] 70 (0, 0))) := Lib.hid ((heap_alloc_old wr _ (by have := hS.out.big; omega)).trans hS.out.two)
          have hbg : Hid (w.heap.size + 2 ≤ (wr.alloc (.cells k 72)).heap.size) := Lib.hid (by have := hS.out.big; simp; omega)
          obtain ⟨x, xp, hrun, hx⟩ := hown2.lookup keyedP Try.underlying93 (Try.zeroValue4 _) (plainElem_bool Try.underlying4 false) hkey
          have HBIG : Hid (n < maxLen) := Lib.hid (by
            have h1 : (preK xs ys i ++ ks.take j).length ≤ 1000000000 := by rw [List.length_append, List.length_take]; omega
            unfold maxLen; omega)
          have HN : Hid (n + 1 ≤ (preK xs ys i ++ ks.take (j + 1)).length) := Lib.hid (by
            rw [HT.out, ← List.append_assoc, List.length_append]; simp only [List.length_singleton]
            omega)
          have HP : Hid (preK xs ys i ++ ks.take (j + 1) = (preK xs ys i ++ ks.take j) ++ [k]) := Lib.hid (by rw [HT.out, List.append_assoc])
          generalize preK xs ys i ++ ks.take j = pp at *
          have HKEY := Lib.hid hkey
          have HDD := Lib.hid hD
          have HM := Lib.hid hown2.isMap
          have HOWN := Lib.hid hown2
          have hj5 : j < 500000000 := by omega
          have HGM : Hid (∀ w3 : World, (wr.alloc (.cells k 72)).grownBy w3 (some w.heap.size) → Below w.heap.size w w3 ∧ w3.heap[w.heap.size + 1]? = some (.cells #[.slice aa xs.length ca, .slice ab ys.length cb] 70 (0, 0)) ∧ w.heap.size + 2 ≤ w3.heap.size) :=
            Lib.hid (fun w3 hg => ⟨hB2.out.grown hg hB2.out.size (fun q hq => by cases hq; exact Nat.le_refl _), (hg.block _ (by have := hbg.out; omega) (by simp)).trans h22.out, Nat.le_trans hbg.out hg.size⟩)
          clear hrg hrk hmem hown hown2 hS hnl hkl hpl hmv
          by_cases hp : par pp k
          · have hat := ((hD _ l hkey).1 hp).1
            rw [hat] at hx
            obtain rfl := plainB_inv hx
            have HPP := Lib.hid hp
            clear hat hx hp hD hkey
            go_wp2_with (first | (refine ldKP rfl _ rfl b (off + j * 8) rfl k HRW.out HSZ.out ?_) | (refine ldKP rfl _ rfl wr.heap.size 0 rfl k (loadNewP wr k HSZ.out) HSZ.out ?_) | (refine stKP wr rfl _ _ rfl rfl k rfl HSZ.out HONE.out ?_) | (at_delete; refine wpList_delete_own _ rfl _ _ 93 72 rfl 4 keyedP Try.underlying93 _ w.heap.size n D rfl HOWN.out _ _ rfl HKEY.out ?_; intro w3 hown3 hturn3))
            go_roundw
            case rel =>
              obtain ⟨g1, g2, g3⟩ := HGM.out w3 hturn3.grown
              exact ⟨j + 1, by omega, by go_num, Lib.hid ⟨⟨_, n, hown3, by have := HN.out; omega, by rw [HP.out]; exact HDD.out.del keyedP HKEY.out HPP.out⟩, g1, g2, g3⟩⟩
            case measure => simp [intOf]; omega
          · have hat := ((hD _ l hkey).2 hp).1
            rw [hat] at hx
            obtain rfl := plainB_inv hx
            have HPP := Lib.hid hp
            clear hat hx hp hD hkey
            go_wp2_with (first | (refine ldKP rfl _ rfl b (off + j * 8) rfl k HRW.out HSZ.out ?_) | (refine ldKP rfl _ rfl wr.heap.size 0 rfl k (loadNewP wr k HSZ.out) HSZ.out ?_) | (refine stKP wr rfl _ _ rfl rfl k rfl HSZ.out HONE.out ?_) | (at_mapUpdate; refine wpList_mapUpdate_own _ rfl _ _ _ 93 rfl 72 4 keyedP Try.underlying93 _ w.heap.size n D rfl HOWN.out HBIG.out _ _ _ rfl rfl HKEY.out _ [] (plainElem_bool Try.underlying4 true) ?_; intro w3 hown3 hgrow3))
            go_roundw
            case rel =>
              obtain ⟨g1, g2, g3⟩ := HGM.out w3 hgrow3
              exact ⟨j + 1, by omega, by go_num, Lib.hid ⟨⟨_, n + 1, hown3, HN.out, by rw [HP.out]; exact HDD.out.put keyedP HM.out HKEY.out HPP.out⟩, g1, g2, g3⟩⟩
            case measure => simp [intOf]; omega
        · have hjk : j = ks.length := by omega
          have HE : Hid (preK xs ys i ++ ks.take j = preK xs ys (i + 1)) := Lib.hid (by rw [hjk, List.take_length]; exact HNX.out)
          rw [HE.out] at hS
          clear hkl hpl hmv
          go_wp2_with fail
          go_roundw
          case rel => exact ⟨i + 1, by omega, by go_num, hS⟩
          case measure => simp [intOf]; omega
    · obtain rfl : i = 2 := by omega
      have hS2 : StP w (.slice aa xs.length ca) (.slice ab ys.length cb) (xs ++ ys) wr := hS.out
      obtain ⟨D, n, hown, hnl, hD⟩ := hS2.map
      have BB := Lib.hid hS2.bel
      have hsz := hS2.bel.size
      have OW := Lib.hid (hown.alloc (.cells #[.map (some w.heap.size)] 93))
      have NL : Hid (n ≤ 1000000000) := Lib.hid (by rw [List.length_append] at hnl; omega)
      have HD := Lib.hid hD
      clear hown hnl hD hS2 hS
      go_wp2_with fail
      refine (keysOfP _ wr).mono ?_
      rintro e w2 ⟨rfl, rfl⟩
      have B2 := Lib.hid (BB.out.alloc hsz (.cells #[.map (some w.heap.size)] 93))
      have C2 : Hid ((wr.alloc (.cells #[.map (some w.heap.size)] 93)).cell? ⟨wr.heap.size, 0, none⟩ = some (.map (some w.heap.size))) := Lib.hid (cell_of_row _ wr.heap.size 0 _ _ (0, 0) (heap_alloc_new wr _))
      have CC := Lib.hid (COL0.out _ _ _ _ _ C2.out OW.out NL.out)
      go_wp2_with fail
      refine CC.out.mono ?_
      rintro e w3 ⟨u, rs, rfl, ho, hb3, hnd, hmem⟩
      have HO : Hid (OwnP w3 w.heap.size u rs) := Lib.hid (own_base ho (by simp; omega))
      have B3 := Lib.hid (B2.out.trans (hb3.mono B2.out.size))
      have HND := Lib.hid hnd
      have HM := Lib.hid hmem
      clear ho hb3 hnd hmem
      go_wp2_with fail
      go_ret
      refine ⟨_, rs, rfl, HO.out, B3.out, HND.out, fun k => ?_⟩
      rw [HM.out k]
      constructor
      · rintro ⟨l, hk, hh⟩
        apply Classical.byContradiction
        intro hp
        rw [((HD.out k l hk).2 hp).2] at hh
        cases hh
      · intro hp
        have hmem := par_mem _ _ hp
        have hok : KOKP k := by
          rcases List.mem_append.1 hmem with h | h
          · exact HKA.out k h
          · exact HKB.out k h
        obtain ⟨l, hk⟩ := hok.key
        exact ⟨l, hk, ((HD.out k l hk).1 hp).2⟩
end Go.Proofs.Ytldlpeohdindaaa
end
