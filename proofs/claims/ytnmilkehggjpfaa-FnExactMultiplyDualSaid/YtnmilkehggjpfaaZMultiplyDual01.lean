/-
  Joined: KSumM, KMapM, KKeyM.
-/
import Derived.Test.YtnmilkehggjpfaaZBMil04
import Derived.BigRegion
import Derived.Lib.Hide
import Derived.Test.YtnmilkehggjpfaaZBMil23
section
namespace Go.Proofs.Ytnmilkehggjpfaa
open Go.RowKit Go.Maps
set_option linter.unusedVariables false
set_option maxRecDepth 100000

theorem keyedM : Keyed Try.prog 94 := Keyed.of_law (deep_law_laid laidP (m := 3) (by omega) (of_decide_eq_true (by kernel_rfl)) (by kernel_rfl) (by kernel_rfl))
theorem sizeM : (Try.prog.info? 94).map (·.size) = some 5 := by kernel_rfl

theorem listM {zs : List Int} (h : zs.length = 5) : ∃ z0 z1 z2 z3 z4, zs = [z0, z1, z2, z3, z4] := by
  match zs, h with
  | [z0, z1, z2, z3, z4], _ => exact ⟨z0, z1, z2, z3, z4, rfl⟩

/-- A key's cells. -/
structure KOKM (k : Array Value) : Prop where
  ints : ∃ zs : List Int, zs.length = 5 ∧ k = (zs.map (Value.int .i64)).toArray
  key : ∃ l, keyOf Try.prog 94 (.agg k) = some l
theorem KOKM.lit {k : Array Value} (h : KOKM k) : ∃ z0 z1 z2 z3 z4 : Int, k = #[Value.int .i64 z0, Value.int .i64 z1, Value.int .i64 z2, Value.int .i64 z3, Value.int .i64 z4] := by
  obtain ⟨zs, hz, e⟩ := h.ints
  obtain ⟨z0, z1, z2, z3, z4, rfl⟩ := listM hz
  exact ⟨z0, z1, z2, z3, z4, e⟩

/-- v reads as the keys ks. -/
def RdM (w : World) (v : Value) (ks : List (Array Value)) : Prop :=
  ∃ a cap, v = .slice a ks.length cap ∧ ks.length ≤ maxLen ∧ (ks.length = 0 ∨ ∃ b off, a = some ⟨b, off, none⟩ ∧ b < w.heap.size ∧ ∀ i, i < ks.length → w.rangeAt b (off + i * 5) (ks[i]?.getD #[]).toList)
theorem RdM.below {w w' : World} {v : Value} {ks : List (Array Value)} (h : RdM w v ks) (k : Below w.heap.size w w') : RdM w' v ks := by
  obtain ⟨a, cap, e, hm, hc⟩ := h
  refine ⟨a, cap, e, hm, ?_⟩
  rcases hc with h0 | ⟨b, off, e, hb, hc⟩
  · exact .inl h0
  · exact .inr ⟨b, off, e, Nat.lt_of_lt_of_le hb k.size, fun i hi j u hj => (k.cell (p := ⟨b, off + i * 5 + j, none⟩) hb).trans (hc i hi j u hj)⟩

theorem loadM (w : World) (b o : Nat) (k : Array Value) (h : w.rangeAt b o k.toList) (hs : k.size = 5) : (Instr.loadAt 94 (.pointer (some ⟨b, o, none⟩))).run Try.prog w = .ok (.agg k) w := by
  have := run_loadAt_mid w b o 94 k.toList _ h Try.underlying94 rfl (by rw [sizeM]; simp [hs])
  simpa using this
theorem KOKM.size {k : Array Value} (h : KOKM k) : k.size = 5 := by
  obtain ⟨zs, hz, rfl⟩ := h.ints
  simp [hz]
theorem KOKM.one {k : Array Value} (h : KOKM k) : k.all (·.oneCell') = true := by
  obtain ⟨zs, hz, rfl⟩ := h.ints
  simp [Value.oneCell']

theorem loadCM (w : World) (b o : Nat) (k : Array Value) (h : w.rangeAt b o k.toList) (hs : k.size = 5) : (loadCellsFrom ⟨b, o, none⟩ 0 5 #[]).run Try.prog w = .ok k w := by
  have := run_loadCells_list (P := Try.prog) w ⟨b, o, none⟩ k.toList (fun j v hv => by rw [Addr.add_mid]; exact h j v hv)
  simpa [loadCells, hs] using this
theorem loadNewM (w : World) (k : Array Value) (hs : k.size = 5) : (w.alloc (.cells k 94)).rangeAt w.heap.size 0 k.toList := by
  intro j v hv
  rw [Nat.zero_add, cell_of_row _ w.heap.size j k 94 (0, 0) (heap_alloc_new w _)]
  simpa using hv

/-- A key is loaded whole. -/
theorem ldKM {ops : Array Oper} {rest : List Oper} {op : Oper} {a : Act} {w : World} {Q : Exit → Act → World → Prop} (hgd : op.guard = none) (x : Operand) (ho : op.op = .load 94 x)
    (b o : Nat) (hx : a.eval x = .pointer (some ⟨b, o, none⟩)) (k : Array Value) (hc : w.rangeAt b o k.toList) (hs : k.size = 5) (h : wpList Try.prog ops Q rest (a.put op.dst (.agg k)) w) : wpList Try.prog ops Q (op :: rest) a w :=
  wpList_load_mid hgd 94 x ho b o hx k.toList _ hc Try.underlying94 rfl (by rw [sizeM]; simp [hs]) (by simpa using h)
/-- A key is stored into the variable that was made last. -/
theorem stKM {ops : Array Oper} {rest : List Oper} {op : Oper} {a : Act} {Q : Exit → Act → World → Prop} (w : World) (hgd : op.guard = none) (x y : Operand) (ho : op.op = .store 94 x y)
    (hx : a.eval x = .pointer (some ⟨w.heap.size, 0, none⟩)) (k : Array Value) (hy : a.eval y = .agg k) (hs : k.size = 5) (h1 : k.all (·.oneCell') = true)
    (h : wpList Try.prog ops Q rest (a.put op.dst undef) (w.alloc (.cells k 94))) : wpList Try.prog ops Q (op :: rest) a (w.alloc (.cells #[Value.int .i64 0, Value.int .i64 0, Value.int .i64 0, Value.int .i64 0, Value.int .i64 0] 94)) := by
  refine wpList_plain hgd fun K' hK' => ?_
  unfold Oper.wp execOp
  simp only [ho, hx, hy, run_storeAt_new (P := Try.prog) w 94 #[Value.int .i64 0, Value.int .i64 0, Value.int .i64 0, Value.int .i64 0, Value.int .i64 0] k (by rw [sizeM, hs]) (by rw [hs]; rfl) h1, Sem.run_bind, Sem.run_pure, Result.andThen_ok]
  exact hK' _ _ h

/-- The state between two rounds. -/
structure StM (w : World) (va vb : Value) (p : List (Array Value)) (wr : World) : Prop where
  map : ∃ (D : DataW Unit) (n : Nat), wr.ownsMap Try.prog 94 (plainElem Try.prog 4) w.heap.size n D ∧ n ≤ p.length ∧ MapIs 94 D p
  bel : Below w.heap.size w wr
  two : wr.heap[w.heap.size + 1]? = some (.cells #[va, vb] 87 (0, 0))
  big : w.heap.size + 2 ≤ wr.heap.size
end Go.Proofs.Ytnmilkehggjpfaa
end
section
namespace Go.Proofs.Ytnmilkehggjpfaa
open Go.RowKit Go.Maps
set_option linter.unusedVariables false
set_option maxRecDepth 100000

/-- A row of keys that a call owns. -/
def OwnM (w : World) (B : Nat) (v : Value) (ks : List (Array Value)) : Prop := w.ownsRow B 94 5 v ks.length (ks.flatMap Array.toList)

/-- What is collected from a map. -/
def ColM (w : World) (D : DataW Unit) (e : Ending) (w' : World) : Prop :=
  ∃ u rs, e = .returned u ∧ OwnM w' w.heap.size u rs ∧ Below w.heap.size w w' ∧ rs.Nodup ∧ ∀ k, k ∈ rs ↔ ∃ l, keyOf Try.prog 94 (.agg k) = some l ∧ has D l = true
def ColAllM : Prop := ∀ (w : World) (Bm m n : Nat) (D : DataW Unit), w.cell? ⟨Bm, 0, none⟩ = some (.map (some m)) → w.ownsMap Try.prog 94 (plainElem Try.prog 4) m n D → n ≤ 1000000000 →
  Calls Try.prog 124 #[.func (.func 147) #[] #[.pointer (some ⟨Bm, 0, none⟩)]] w (ColM w D)

theorem keysOfM (mb : Option Nat) (w : World) :
    Calls Try.prog 125 #[.map mb] w fun e w' => e = .returned (.func (.func 147) #[] #[.pointer (some ⟨w.heap.size, 0, none⟩)]) ∧ w' = w.alloc (.cells #[.map mb] 130) := by
  go_enter Try.func125, Try.ntmps125
  go_wp2
  go_ret
  exact ⟨rfl, rfl⟩

/-- What sumOfLists returns. -/
def SumResM (w : World) (ks : List (Array Value)) (e : Ending) (w' : World) : Prop :=
  ∃ u rs, e = .returned u ∧ OwnM w' w.heap.size u rs ∧ Below w.heap.size w w' ∧ rs.Nodup ∧ (∀ k, k ∈ rs ↔ par ks k)

set_option maxHeartbeats 1000000 in
theorem sumOfM (va vb : Value) (xs ys : List (Array Value)) (w : World) (ha : RdM w va xs) (hb : RdM w vb ys) (hka : ∀ k ∈ xs, KOKM k) (hkb : ∀ k ∈ ys, KOKM k) (hla : xs.length ≤ 500000000) (hlb : ys.length ≤ 500000000) (COL : ColAllM) :
    Calls Try.prog 103 #[va, vb] w (SumResM w (xs ++ ys)) := by
  have hmm := @run_makeMap Try.prog
  have HA := Lib.hid ha
  have HB := Lib.hid hb
  have HKA := Lib.hid hka
  have HKB := Lib.hid hkb
  have COL0 := Lib.hid COL
  obtain ⟨aa, ca, rfl, ha2⟩ := ha
  obtain ⟨ab, cb, rfl, hb2⟩ := hb
  clear ha2 hb2
  clear hka hkb COL
  go_enter Try.func103, Try.ntmps103
  go_wp2_with fail
  have S0 : Hid (StM w (.slice aa xs.length ca) (.slice ab ys.length cb) [] ((w.alloc (.map #[] 0)).alloc (.cells #[.slice aa xs.length ca, .slice ab ys.length cb] 87))) := Lib.hid
    ⟨⟨.map [], 0, (World.ownsMap_made w _ _ _).alloc _, Nat.le_refl _, MapIs.nil _⟩, ((Below.refl _ w).alloc (Nat.le_refl _) _).alloc (by simp) _, by have := heap_alloc_new (w.alloc (.map #[] 0)) (.cells #[.slice aa xs.length ca, .slice ab ys.length cb] 87); simpa using this, by simp⟩
  generalize ((w.alloc (.map #[] 0)).alloc (.cells #[.slice aa xs.length ca, .slice ab ys.length cb] 87)) = w1 at S0 ⊢
  clear hmm
  go_loopw [7, 9, 15] (fun _ _ c wr => ∃ i : Nat, i ≤ 2 ∧ c = .int .i64 i ∧ Hid (StM w (.slice aa xs.length ca) (.slice ab ys.length cb) (preK xs ys i) wr)) (fun _ _ c _ => 2 - (intOf c).toNat)
  case atStart => exact ⟨0, by omega, rfl, S0⟩
  case round =>
    clear S0
    obtain ⟨i, hi, rfl, hS⟩ := hrel
    by_cases hlt : i < 2
    · have hlt' : (i : Int) < 2 := by omega
      have hpick : ∃ (v : Value) (ks : List (Array Value)), wr.cell? ⟨w.heap.size + 1, i, none⟩ = some v ∧ RdM w v ks ∧ (∀ k ∈ ks, KOKM k) ∧ preK xs ys i ++ ks = preK xs ys (i + 1) ∧ ks.length ≤ 500000000 ∧ (preK xs ys i).length ≤ 500000000 := by
        have h2 := hS.out.two
        by_cases h0 : i = 0
        · subst h0
          exact ⟨_, xs, cell_of_row wr _ 0 _ _ (0, 0) h2, HA.out, HKA.out, rfl, hla, Nat.zero_le _⟩
        · obtain rfl : i = 1 := by omega
          exact ⟨_, ys, cell_of_row wr _ 1 _ _ (0, 0) h2, HB.out, HKB.out, rfl, hlb, hla⟩
      obtain ⟨v, ks, c1, hr, hks, hnext, hkl, hpl⟩ := hpick
      have HR := Lib.hid hr
      have HKS := Lib.hid hks
      have HNX := Lib.hid hnext
      obtain ⟨av, cv, rfl, hmv, hcv⟩ := hr
      have HCV := Lib.hid hcv
      clear hks hnext hcv
      go_wp2_with fail
      have S1 : Hid (StM w (.slice aa xs.length ca) (.slice ab ys.length cb) (preK xs ys i ++ ks.take 0) wr) := Lib.hid (by rw [List.take_zero, List.append_nil]; exact hS.out)
      obtain ⟨wo, hwo⟩ : ∃ wo, wo = wr := ⟨_, rfl⟩
      subst hwo
      go_loopw [9, 21] (fun _ c wr => ∃ j : Nat, j ≤ ks.length ∧ c = .int .i64 j ∧ Hid (StM w (.slice aa xs.length ca) (.slice ab ys.length cb) (preK xs ys i ++ ks.take j) wr)) (fun _ c _ => ks.length - (intOf c).toNat)
      case atStart => exact ⟨0, by omega, rfl, S1⟩
      case round =>
        clear S1
        obtain ⟨j, hj, rfl, hS⟩ := hrel
        by_cases hjl : j < ks.length
        · have hjl' : (j : Int) < (ks.length : Int) := by omega
          obtain ⟨b, off, rfl, hbl, hrg⟩ := HCV.out.resolve_left (by omega)
          obtain ⟨k, hk⟩ : ∃ k, k = ks[j]?.getD #[] := ⟨_, rfl⟩
          have hrk := hrg j hjl
          rw [← hk] at hrk
          have hmem : k ∈ ks := by
            rw [hk, List.getElem?_eq_getElem hjl]
            exact List.getElem_mem hjl
          have HT : Hid (ks.take (j + 1) = ks.take j ++ [k]) := Lib.hid (by
            rw [hk, List.take_add_one, List.getElem?_eq_getElem hjl]
            rfl)
          obtain ⟨l, hkey⟩ := (HKS.out k hmem).key
          have hsz := (HKS.out k hmem).size
          have hone := (HKS.out k hmem).one
          have hrw : wr.rangeAt b (off + j * 5) k.toList := fun q u hq => (hS.out.bel.cell (p := ⟨b, off + j * 5 + q, none⟩) hbl).trans (hrk q u hq)
          clear hk
          have HRW := Lib.hid hrw
          have HSZ := Lib.hid hsz
          have HONE := Lib.hid hone
          clear hrw hsz hone
          obtain ⟨D, n, hown, hnl, hD⟩ := hS.out.map
          have hown2 := hown.alloc (.cells k 94)
          have hB2 : Hid (Below w.heap.size w (wr.alloc (.cells k 94))) := Lib.hid (hS.out.bel.alloc hS.out.bel.size _)
          have h22 : Hid ((wr.alloc (.cells k 94)).heap[w.heap.size + 1]? = some (.cells #[.slice aa xs.length ca, .slice ab ys.length cb] 87 (0, 0))) := Lib.hid ((heap_alloc_old wr _ (by have := hS.out.big; omega)).trans hS.out.two)
          have hbg : Hid (w.heap.size + 2 ≤ (wr.alloc (.cells k 94)).heap.size) := Lib.hid (by have := hS.out.big; simp; omega)
          obtain ⟨x, xp, hrun, hx⟩ := hown2.lookup keyedM Try.underlying130 (Try.zeroValue4 _) (plainElem_bool Try.underlying4 false) hkey
          have HBIG : Hid (n < maxLen) := Lib.hid (by
            have h1 : (preK xs ys i ++ ks.take j).length ≤ 1000000000 := by rw [List.length_append, List.length_take]; omega
            unfold maxLen; omega)
          have HN : Hid (n + 1 ≤ (preK xs ys i ++ ks.take (j + 1)).length) := Lib.hid (by
            rw [HT.out, ← List.append_assoc, List.length_append]; simp only [List.length_singleton]
            omega)
          have HP : Hid (preK xs ys i ++ ks.take (j + 1) = (preK xs ys i ++ ks.take j) ++ [k]) := Lib.hid (by rw [HT.out, List.append_assoc])
          generalize preK xs ys i ++ ks.take j = pp at *
          have HKEY := Lib.hid hkey
          have HDD := Lib.hid hD
          have HM := Lib.hid hown2.isMap
          have HOWN := Lib.hid hown2
          have hj5 : j < 500000000 := by omega
          have HGM : Hid (∀ w3 : World, (wr.alloc (.cells k 94)).grownBy w3 (some w.heap.size) → Below w.heap.size w w3 ∧ w3.heap[w.heap.size + 1]? = some (.cells #[.slice aa xs.length ca, .slice ab ys.length cb] 87 (0, 0)) ∧ w.heap.size + 2 ≤ w3.heap.size) :=
            Lib.hid (fun w3 hg => ⟨hB2.out.grown hg hB2.out.size (fun q hq => by cases hq; exact Nat.le_refl _), (hg.block _ (by have := hbg.out; omega) (by simp)).trans h22.out, Nat.le_trans hbg.out hg.size⟩)
          clear hrg hrk hmem hown hown2 hS hnl hkl hpl hmv
          by_cases hp : par pp k
          · have hat := ((hD _ l hkey).1 hp).1
            rw [hat] at hx
            obtain rfl := plainB_inv hx
            have HPP := Lib.hid hp
            clear hat hx hp hD hkey
            go_wp2_with (first | (refine ldKM rfl _ rfl b (off + j * 5) rfl k HRW.out HSZ.out ?_) | (refine ldKM rfl _ rfl wr.heap.size 0 rfl k (loadNewM wr k HSZ.out) HSZ.out ?_) | (refine stKM wr rfl _ _ rfl rfl k rfl HSZ.out HONE.out ?_) | (at_delete; refine wpList_delete_own _ rfl _ _ 130 94 rfl 4 keyedM Try.underlying130 _ w.heap.size n D rfl HOWN.out _ _ rfl HKEY.out ?_; intro w3 hown3 hturn3))
            go_roundw
            case rel =>
              obtain ⟨g1, g2, g3⟩ := HGM.out w3 hturn3.grown
              exact ⟨j + 1, by omega, by go_num, Lib.hid ⟨⟨_, n, hown3, by have := HN.out; omega, by rw [HP.out]; exact HDD.out.del keyedM HKEY.out HPP.out⟩, g1, g2, g3⟩⟩
            case measure => simp [intOf]; omega
          · have hat := ((hD _ l hkey).2 hp).1
            rw [hat] at hx
            obtain rfl := plainB_inv hx
            have HPP := Lib.hid hp
            clear hat hx hp hD hkey
            go_wp2_with (first | (refine ldKM rfl _ rfl b (off + j * 5) rfl k HRW.out HSZ.out ?_) | (refine ldKM rfl _ rfl wr.heap.size 0 rfl k (loadNewM wr k HSZ.out) HSZ.out ?_) | (refine stKM wr rfl _ _ rfl rfl k rfl HSZ.out HONE.out ?_) | (at_mapUpdate; refine wpList_mapUpdate_own _ rfl _ _ _ 130 rfl 94 4 keyedM Try.underlying130 _ w.heap.size n D rfl HOWN.out HBIG.out _ _ _ rfl rfl HKEY.out _ [] (plainElem_bool Try.underlying4 true) ?_; intro w3 hown3 hgrow3))
            go_roundw
            case rel =>
              obtain ⟨g1, g2, g3⟩ := HGM.out w3 hgrow3
              exact ⟨j + 1, by omega, by go_num, Lib.hid ⟨⟨_, n + 1, hown3, HN.out, by rw [HP.out]; exact HDD.out.put keyedM HM.out HKEY.out HPP.out⟩, g1, g2, g3⟩⟩
            case measure => simp [intOf]; omega
        · have hjk : j = ks.length := by omega
          have HE : Hid (preK xs ys i ++ ks.take j = preK xs ys (i + 1)) := Lib.hid (by rw [hjk, List.take_length]; exact HNX.out)
          rw [HE.out] at hS
          clear hkl hpl hmv
          go_wp2_with fail
          go_roundw
          case rel => exact ⟨i + 1, by omega, by go_num, hS⟩
          case measure => simp [intOf]; omega
    · obtain rfl : i = 2 := by omega
      have hS2 : StM w (.slice aa xs.length ca) (.slice ab ys.length cb) (xs ++ ys) wr := hS.out
      obtain ⟨D, n, hown, hnl, hD⟩ := hS2.map
      have BB := Lib.hid hS2.bel
      have hsz := hS2.bel.size
      have OW := Lib.hid (hown.alloc (.cells #[.map (some w.heap.size)] 130))
      have NL : Hid (n ≤ 1000000000) := Lib.hid (by rw [List.length_append] at hnl; omega)
      have HD := Lib.hid hD
      clear hown hnl hD hS2 hS
      go_wp2_with fail
      refine (keysOfM _ wr).mono ?_
      rintro e w2 ⟨rfl, rfl⟩
      have B2 := Lib.hid (BB.out.alloc hsz (.cells #[.map (some w.heap.size)] 130))
      have C2 : Hid ((wr.alloc (.cells #[.map (some w.heap.size)] 130)).cell? ⟨wr.heap.size, 0, none⟩ = some (.map (some w.heap.size))) := Lib.hid (cell_of_row _ wr.heap.size 0 _ _ (0, 0) (heap_alloc_new wr _))
      have CC := Lib.hid (COL0.out _ _ _ _ _ C2.out OW.out NL.out)
      go_wp2_with fail
      refine CC.out.mono ?_
      rintro e w3 ⟨u, rs, rfl, ho, hb3, hnd, hmem⟩
      have HO : Hid (OwnM w3 w.heap.size u rs) := Lib.hid (own_base ho (by simp; omega))
      have B3 := Lib.hid (B2.out.trans (hb3.mono B2.out.size))
      have HND := Lib.hid hnd
      have HM := Lib.hid hmem
      clear ho hb3 hnd hmem
      go_wp2_with fail
      go_ret
      refine ⟨_, rs, rfl, HO.out, B3.out, HND.out, fun k => ?_⟩
      rw [HM.out k]
      constructor
      · rintro ⟨l, hk, hh⟩
        apply Classical.byContradiction
        intro hp
        rw [((HD.out k l hk).2 hp).2] at hh
        cases hh
      · intro hp
        have hmem := par_mem _ _ hp
        have hok : KOKM k := by
          rcases List.mem_append.1 hmem with h | h
          · exact HKA.out k h
          · exact HKB.out k h
        obtain ⟨l, hk⟩ := hok.key
        exact ⟨l, hk, ((HD.out k l hk).1 hp).2⟩
end Go.Proofs.Ytnmilkehggjpfaa
end
section
namespace Go.Proofs.Ytnmilkehggjpfaa
open Go.RowKit Go.Maps
set_option linter.unusedVariables false
set_option maxRecDepth 100000

theorem litsM {d : Nat} {cs : List Value} {l : List Lit} (h : Try.prog.keyLits d 94 cs = some l) : cs.length = 5 ∧ Ints .i64 cs := arrLits Try.underlying94 Try.underlying2 (by kernel_rfl) (by kernel_rfl) h

theorem litsM_mk (d : Nat) {cs : List Value} (hl : cs.length = 5) (h : Ints .i64 cs) : ∃ l, Try.prog.keyLits (d + 3) 94 cs = some l := arrLits_mk Try.underlying94 Try.underlying2 (by kernel_rfl) (by kernel_rfl) (d + 1) hl h

/-- Whatever reads as a key is one. -/
theorem keyM_inv {v : Value} {l : Lit} (h : keyOf Try.prog 94 v = some l) : ∃ k, v = .agg k ∧ KOKM k := by
  obtain ⟨xs, L, rfl, hL, _⟩ := keyOf_top (by kernel_rfl) h
  obtain ⟨h1, zs, h2, _⟩ := litsM hL
  refine ⟨xs, rfl, ⟨zs, ?_, ?_⟩, l, h⟩
  · rw [h2, List.length_map] at h1; exact h1
  · rw [← h2]

theorem keyM_mk (zs : List Int) (hl : zs.length = 5) (hw : ∀ z ∈ zs, (Lit.int .i64 z).wf = true) : KOKM (zs.map (Value.int .i64)).toArray := by
  refine ⟨⟨zs, hl, rfl⟩, ?_⟩
  obtain ⟨L, hL⟩ := litsM_mk (Try.prog.types.size - 2) (cs := zs.map (Value.int .i64)) (by rw [List.length_map]; exact hl) ⟨zs, rfl, hw⟩
  have hts : Try.prog.types.size - 2 + 3 = Try.prog.types.size + 1 := by kernel_rfl
  rw [hts] at hL
  have hk : Try.prog.keyType 94 = true := by kernel_rfl
  have hf : (Value.agg (zs.map (Value.int .i64)).toArray).formed Try.prog 94 = true := by
    have hc : Try.prog.cellsOf 94 = 5 := by kernel_rfl
    simp [Value.formed, Try.underlying94, hc, hl]
  refine ⟨.string (keyBytes L), ?_⟩
  unfold keyOf
  rw [Try.underlying94]
  simp only [hk, hf, Bool.and_self, if_true]
  have e : (Value.agg (zs.map (Value.int .i64)).toArray).cells.toList = zs.map (Value.int .i64) := by simp [Value.cells]
  rw [e, hL]
  rfl
end Go.Proofs.Ytnmilkehggjpfaa
end
