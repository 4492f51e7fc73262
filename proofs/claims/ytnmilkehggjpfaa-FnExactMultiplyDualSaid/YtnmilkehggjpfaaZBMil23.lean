/-
  Joined: KMapP, KLits, KKeyP, KKeysP.
-/
import Derived.Test.YtnmilkehggjpfaaZBMil22
import Derived.Lib.Hide
import Derived.Test.YtnmilkehggjpfaaZBMil04
import Derived.RangeFuncNested
import Derived.RangeFuncBound
import Derived.RangeFuncBox
import Derived.RangeFuncStops
import Derived.Shelf.Abstract
import Derived.WalkKit
import Derived.OwnWalkIn
import Derived.TacticsInMore
import Derived.RegionIn
import Derived.LoopNIn
import Derived.LoopIn
import Derived.Sort.MapsRangeIn
import Derived.Maps.OwnIn
section
namespace Go.Proofs.Ytnmilkehggjpfaa
open Go.RowKit Go.Maps
set_option linter.unusedVariables false
set_option maxRecDepth 100000

/-- A row of keys that a call owns. -/
def OwnP (w : World) (B : Nat) (v : Value) (ks : List (Array Value)) : Prop := w.ownsRow B 157 8 v ks.length (ks.flatMap Array.toList)

/-- What is collected from a map. -/
def ColP (w : World) (D : DataW Unit) (e : Ending) (w' : World) : Prop :=
  ∃ u rs, e = .returned u ∧ OwnP w' w.heap.size u rs ∧ Below w.heap.size w w' ∧ rs.Nodup ∧ ∀ k, k ∈ rs ↔ ∃ l, keyOf Try.prog 157 (.agg k) = some l ∧ has D l = true
def ColAllP : Prop := ∀ (w : World) (Bm m n : Nat) (D : DataW Unit), w.cell? ⟨Bm, 0, none⟩ = some (.map (some m)) → w.ownsMap Try.prog 157 (plainElem Try.prog 4) m n D → n ≤ 1000000000 →
  Calls Try.prog 170 #[.func (.func 191) #[] #[.pointer (some ⟨Bm, 0, none⟩)]] w (ColP w D)

theorem keysOfP (mb : Option Nat) (w : World) :
    Calls Try.prog 171 #[.map mb] w fun e w' => e = .returned (.func (.func 191) #[] #[.pointer (some ⟨w.heap.size, 0, none⟩)]) ∧ w' = w.alloc (.cells #[.map mb] 184) := by
  go_enter Try.func171, Try.ntmps171
  go_wp2
  go_ret
  exact ⟨rfl, rfl⟩

/-- What sumOfLists returns. -/
def SumResP (w : World) (ks : List (Array Value)) (e : Ending) (w' : World) : Prop :=
  ∃ u rs, e = .returned u ∧ OwnP w' w.heap.size u rs ∧ Below w.heap.size w w' ∧ rs.Nodup ∧ (∀ k, k ∈ rs ↔ par ks k)

set_option maxHeartbeats 1000000 in
theorem sumOfP (va vb : Value) (xs ys : List (Array Value)) (w : World) (ha : RdP w va xs) (hb : RdP w vb ys) (hka : ∀ k ∈ xs, KOKP k) (hkb : ∀ k ∈ ys, KOKP k) (hla : xs.length ≤ 500000000) (hlb : ys.length ≤ 500000000) (COL : ColAllP) :
    Calls Try.prog 141 #[va, vb] w (SumResP w (xs ++ ys)) := by
  have hmm := @run_makeMap Try.prog
  have HA := Lib.hid ha
  have HB := Lib.hid hb
  have HKA := Lib.hid hka
  have HKB := Lib.hid hkb
  have COL0 := Lib.hid COL
  obtain ⟨aa, ca, rfl, ha2⟩ := ha
  obtain ⟨ab, cb, rfl, hb2⟩ := hb
  clear ha2 hb2
  clear hka hkb COL
  go_enter Try.func141, Try.ntmps141
  go_wp2_with fail
  have S0 : Hid (StP w (.slice aa xs.length ca) (.slice ab ys.length cb) [] ((w.alloc (.map #[] 0)).alloc (.cells #[.slice aa xs.length ca, .slice ab ys.length cb] 151))) := Lib.hid
    ⟨⟨.map [], 0, (World.ownsMap_made w _ _ _).alloc _, Nat.le_refl _, MapIs.nil _⟩, ((Below.refl _ w).alloc (Nat.le_refl _) _).alloc (by simp) _, by have := heap_alloc_new (w.alloc (.map #[] 0)) (.cells #[.slice aa xs.length ca, .slice ab ys.length cb] 151); simpa using this, by simp⟩
  generalize ((w.alloc (.map #[] 0)).alloc (.cells #[.slice aa xs.length ca, .slice ab ys.length cb] 151)) = w1 at S0 ⊢
  clear hmm
  go_loopw [7, 9, 15] (fun _ _ c wr => ∃ i : Nat, i ≤ 2 ∧ c = .int .i64 i ∧ Hid (StP w (.slice aa xs.length ca) (.slice ab ys.length cb) (preK xs ys i) wr)) (fun _ _ c _ => 2 - (intOf c).toNat)
  case atStart => exact ⟨0, by omega, rfl, S0⟩
  case round =>
    clear S0
    obtain ⟨i, hi, rfl, hS⟩ := hrel
    by_cases hlt : i < 2
    · have hlt' : (i : Int) < 2 := by omega
      have hpick : ∃ (v : Value) (ks : List (Array Value)), wr.cell? ⟨w.heap.size + 1, i, none⟩ = some v ∧ RdP w v ks ∧ (∀ k ∈ ks, KOKP k) ∧ preK xs ys i ++ ks = preK xs ys (i + 1) ∧ ks.length ≤ 500000000 ∧ (preK xs ys i).length ≤ 500000000 := by
        have h2 := hS.out.two
        by_cases h0 : i = 0
        · subst h0
          exact ⟨_, xs, cell_of_row wr _ 0 _ _ (0, 0) h2, HA.out, HKA.out, rfl, hla, Nat.zero_le _⟩
        · obtain rfl : i = 1 := by omega
          exact ⟨_, ys, cell_of_row wr _ 1 _ _ (0, 0) h2, HB.out, HKB.out, rfl, hlb, hla⟩
      obtain ⟨v, ks, c1, hr, hks, hnext, hkl, hpl⟩ := hpick
      have HR := Lib.hid hr
      have HKS := Lib.hid hks
      have HNX := Lib.hid hnext
      obtain ⟨av, cv, rfl, hmv, hcv⟩ := hr
      have HCV := Lib.hid hcv
      clear hks hnext hcv
      go_wp2_with fail
      have S1 : Hid (StP w (.slice aa xs.length ca) (.slice ab ys.length cb) (preK xs ys i ++ ks.take 0) wr) := Lib.hid (by rw [List.take_zero, List.append_nil]; exact hS.out)
      obtain ⟨wo, hwo⟩ : ∃ wo, wo = wr := ⟨_, rfl⟩
      subst hwo
      go_loopw [9, 21] (fun _ c wr => ∃ j : Nat, j ≤ ks.length ∧ c = .int .i64 j ∧ Hid (StP w (.slice aa xs.length ca) (.slice ab ys.length cb) (preK xs ys i ++ ks.take j) wr)) (fun _ c _ => ks.length - (intOf c).toNat)
      case atStart => exact ⟨0, by omega, rfl, S1⟩
      case round =>
        clear S1
        obtain ⟨j, hj, rfl, hS⟩ := hrel
        by_cases hjl : j < ks.length
        · have hjl' : (j : Int) < (ks.length : Int) := by omega
          obtain ⟨b, off, rfl, hbl, hrg⟩ := HCV.out.resolve_left (by omega)
          obtain ⟨k, hk⟩ : ∃ k, k = ks[j]?.getD #[] := ⟨_, rfl⟩
          have hrk := hrg j hjl
          rw [← hk] at hrk
          have hmem : k ∈ ks := by
            rw [hk, List.getElem?_eq_getElem hjl]
            exact List.getElem_mem hjl
          have HT : Hid (ks.take (j + 1) = ks.take j ++ [k]) := Lib.hid (by
            rw [hk, List.take_add_one, List.getElem?_eq_getElem hjl]
            rfl)
          obtain ⟨l, hkey⟩ := (HKS.out k hmem).key
          have hsz := (HKS.out k hmem).size
          have hone := (HKS.out k hmem).one
          have hrw : wr.rangeAt b (off + j * 8) k.toList := fun q u hq => (hS.out.bel.cell (p := ⟨b, off + j * 8 + q, none⟩) hbl).trans (hrk q u hq)
          clear hk
          have HRW := Lib.hid hrw
          have HSZ := Lib.hid hsz
          have HONE := Lib.hid hone
          clear hrw hsz hone
          obtain ⟨D, n, hown, hnl, hD⟩ := hS.out.map
          have hown2 := hown.alloc (.cells k 157)
          have hB2 : Hid (Below w.heap.size w (wr.alloc (.cells k 157))) := Lib.hid (hS.out.bel.alloc hS.out.bel.size _)
          have h22 : Hid ((wr.alloc (.cells k 157)).heap[w.heap.size + 1]? = some (.cells #[.slice aa xs.length ca, .slice ab ys.length cb] 151 (0, 0))) := Lib.hid ((heap_alloc_old wr _ (by have := hS.out.big; omega)).trans hS.out.two)
          have hbg : Hid (w.heap.size + 2 ≤ (wr.alloc (.cells k 157)).heap.size) := Lib.hid (by have := hS.out.big; simp; omega)
          obtain ⟨x, xp, hrun, hx⟩ := hown2.lookup keyedP Try.underlying184 (Try.zeroValue4 _) (plainElem_bool Try.underlying4 false) hkey
          have HBIG : Hid (n < maxLen) := Lib.hid (by
            have h1 : (preK xs ys i ++ ks.take j).length ≤ 1000000000 := by rw [List.length_append, List.length_take]; omega
            unfold maxLen; omega)
          have HN : Hid (n + 1 ≤ (preK xs ys i ++ ks.take (j + 1)).length) := Lib.hid (by
            rw [HT.out, ← List.append_assoc, List.length_append]; simp only [List.length_singleton]
            omega)
          have HP : Hid (preK xs ys i ++ ks.take (j + 1) = (preK xs ys i ++ ks.take j) ++ [k]) := Lib.hid (by rw [HT.out, List.append_assoc])
          generalize preK xs ys i ++ ks.take j = pp at *
          have HKEY := Lib.hid hkey
          have HDD := Lib.hid hD
          have HM := Lib.hid hown2.isMap
          have HOWN := Lib.hid hown2
          have hj5 : j < 500000000 := by omega
          have HGM : Hid (∀ w3 : World, (wr.alloc (.cells k 157)).grownBy w3 (some w.heap.size) → Below w.heap.size w w3 ∧ w3.heap[w.heap.size + 1]? = some (.cells #[.slice aa xs.length ca, .slice ab ys.length cb] 151 (0, 0)) ∧ w.heap.size + 2 ≤ w3.heap.size) :=
            Lib.hid (fun w3 hg => ⟨hB2.out.grown hg hB2.out.size (fun q hq => by cases hq; exact Nat.le_refl _), (hg.block _ (by have := hbg.out; omega) (by simp)).trans h22.out, Nat.le_trans hbg.out hg.size⟩)
          clear hrg hrk hmem hown hown2 hS hnl hkl hpl hmv
          by_cases hp : par pp k
          · have hat := ((hD _ l hkey).1 hp).1
            rw [hat] at hx
            obtain rfl := plainB_inv hx
            have HPP := Lib.hid hp
            clear hat hx hp hD hkey
            go_wp2_with (first | (refine ldKP rfl _ rfl b (off + j * 8) rfl k HRW.out HSZ.out ?_) | (refine ldKP rfl _ rfl wr.heap.size 0 rfl k (loadNewP wr k HSZ.out) HSZ.out ?_) | (refine stKP wr rfl _ _ rfl rfl k rfl HSZ.out HONE.out ?_) | (at_delete; refine wpList_delete_own _ rfl _ _ 184 157 rfl 4 keyedP Try.underlying184 _ w.heap.size n D rfl HOWN.out _ _ rfl HKEY.out ?_; intro w3 hown3 hturn3))
            go_roundw
            case rel =>
              obtain ⟨g1, g2, g3⟩ := HGM.out w3 hturn3.grown
              exact ⟨j + 1, by omega, by go_num, Lib.hid ⟨⟨_, n, hown3, by have := HN.out; omega, by rw [HP.out]; exact HDD.out.del keyedP HKEY.out HPP.out⟩, g1, g2, g3⟩⟩
            case measure => simp [intOf]; omega
          · have hat := ((hD _ l hkey).2 hp).1
            rw [hat] at hx
            obtain rfl := plainB_inv hx
            have HPP := Lib.hid hp
            clear hat hx hp hD hkey
            go_wp2_with (first | (refine ldKP rfl _ rfl b (off + j * 8) rfl k HRW.out HSZ.out ?_) | (refine ldKP rfl _ rfl wr.heap.size 0 rfl k (loadNewP wr k HSZ.out) HSZ.out ?_) | (refine stKP wr rfl _ _ rfl rfl k rfl HSZ.out HONE.out ?_) | (at_mapUpdate; refine wpList_mapUpdate_own _ rfl _ _ _ 184 rfl 157 4 keyedP Try.underlying184 _ w.heap.size n D rfl HOWN.out HBIG.out _ _ _ rfl rfl HKEY.out _ [] (plainElem_bool Try.underlying4 true) ?_; intro w3 hown3 hgrow3))
            go_roundw
            case rel =>
              obtain ⟨g1, g2, g3⟩ := HGM.out w3 hgrow3
              exact ⟨j + 1, by omega, by go_num, Lib.hid ⟨⟨_, n + 1, hown3, HN.out, by rw [HP.out]; exact HDD.out.put keyedP HM.out HKEY.out HPP.out⟩, g1, g2, g3⟩⟩
            case measure => simp [intOf]; omega
        · have hjk : j = ks.length := by omega
          have HE : Hid (preK xs ys i ++ ks.take j = preK xs ys (i + 1)) := Lib.hid (by rw [hjk, List.take_length]; exact HNX.out)
          rw [HE.out] at hS
          clear hkl hpl hmv
          go_wp2_with fail
          go_roundw
          case rel => exact ⟨i + 1, by omega, by go_num, hS⟩
          case measure => simp [intOf]; omega
    · obtain rfl : i = 2 := by omega
      have hS2 : StP w (.slice aa xs.length ca) (.slice ab ys.length cb) (xs ++ ys) wr := hS.out
      obtain ⟨D, n, hown, hnl, hD⟩ := hS2.map
      have BB := Lib.hid hS2.bel
      have hsz := hS2.bel.size
      have OW := Lib.hid (hown.alloc (.cells #[.map (some w.heap.size)] 184))
      have NL : Hid (n ≤ 1000000000) := Lib.hid (by rw [List.length_append] at hnl; omega)
      have HD := Lib.hid hD
      clear hown hnl hD hS2 hS
      go_wp2_with fail
      refine (keysOfP _ wr).mono ?_
      rintro e w2 ⟨rfl, rfl⟩
      have B2 := Lib.hid (BB.out.alloc hsz (.cells #[.map (some w.heap.size)] 184))
      have C2 : Hid ((wr.alloc (.cells #[.map (some w.heap.size)] 184)).cell? ⟨wr.heap.size, 0, none⟩ = some (.map (some w.heap.size))) := Lib.hid (cell_of_row _ wr.heap.size 0 _ _ (0, 0) (heap_alloc_new wr _))
      have CC := Lib.hid (COL0.out _ _ _ _ _ C2.out OW.out NL.out)
      go_wp2_with fail
      refine CC.out.mono ?_
      rintro e w3 ⟨u, rs, rfl, ho, hb3, hnd, hmem⟩
      have HO : Hid (OwnP w3 w.heap.size u rs) := Lib.hid (own_base ho (by simp; omega))
      have B3 := Lib.hid (B2.out.trans (hb3.mono B2.out.size))
      have HND := Lib.hid hnd
      have HM := Lib.hid hmem
      clear ho hb3 hnd hmem
      go_wp2_with fail
      go_ret
      refine ⟨_, rs, rfl, HO.out, B3.out, HND.out, fun k => ?_⟩
      rw [HM.out k]
      constructor
      · rintro ⟨l, hk, hh⟩
        apply Classical.byContradiction
        intro hp
        rw [((HD.out k l hk).2 hp).2] at hh
        cases hh
      · intro hp
        have hmem := par_mem _ _ hp
        have hok : KOKP k := by
          rcases List.mem_append.1 hmem with h | h
          · exact HKA.out k h
          · exact HKB.out k h
        obtain ⟨l, hk⟩ := hok.key
        exact ⟨l, hk, ((HD.out k l hk).1 hp).2⟩
end Go.Proofs.Ytnmilkehggjpfaa
end
section
namespace Go.Proofs.Ytnmilkehggjpfaa
open Go.RowKit Go.Maps
set_option linter.unusedVariables false
set_option maxRecDepth 100000

theorem mapM_each {α β : Type} {f : α → Option β} : ∀ {L : List α} {ys : List β}, L.mapM f = some ys → ∀ x ∈ L, ∃ a, f x = some a
  | [], _, _, x, hx => by cases hx
  | y :: r, ys, h, x, hx => by
    rw [List.mapM_cons] at h
    cases hy : f y with
    | none => simp [hy] at h
    | some a =>
      cases hr : r.mapM f with
      | none => simp [hy, hr] at h
      | some b =>
        rcases List.mem_cons.1 hx with rfl | hx
        · exact ⟨a, hy⟩
        · exact mapM_each hr x hx
theorem mapM_mk {α β : Type} {f : α → Option β} : ∀ {L : List α}, (∀ x ∈ L, ∃ a, f x = some a) → ∃ ys, L.mapM f = some ys
  | [], _ => ⟨[], rfl⟩
  | y :: r, h => by
    obtain ⟨a, ha⟩ := h y List.mem_cons_self
    obtain ⟨b, hb⟩ := mapM_mk (f := f) (L := r) (fun x hx => h x (List.mem_cons_of_mem _ hx))
    exact ⟨a :: b, by rw [List.mapM_cons, ha, hb]; rfl⟩

section
variable {P : Program} {q : IntKind}

theorem intLits {t : TypeId} (hu : P.underlying t = some (.int q)) : ∀ {d : Nat} {cs : List Value} {l : List Lit}, P.keyLits d t cs = some l → ∃ z, cs = [.int q z] ∧ (Lit.int q z).wf = true
  | 0, _, _, h => by simp [Program.keyLits] at h
  | d + 1, cs, l, h => by
    unfold Program.keyLits at h
    rw [hu] at h
    split at h <;> simp_all
theorem intLits_mk {t : TypeId} (hu : P.underlying t = some (.int q)) (d : Nat) (z : Int) (hw : (Lit.int q z).wf = true) : ∃ l, P.keyLits (d + 1) t [.int q z] = some l := by
  unfold Program.keyLits
  rw [hu]
  exact ⟨_, if_pos ⟨rfl, hw⟩⟩

/-- All cells are integers of the kind q. -/
def Ints (q : IntKind) (cs : List Value) : Prop := ∃ zs : List Int, cs = zs.map (Value.int q) ∧ ∀ z ∈ zs, (Lit.int q z).wf = true
theorem ints_of {q : IntKind} : ∀ (cs : List Value), (∀ i, i < cs.length → ∃ z, cs[i]? = some (.int q z) ∧ (Lit.int q z).wf = true) → Ints q cs
  | [], _ => ⟨[], rfl, by intro z hz; cases hz⟩
  | c :: r, h => by
    obtain ⟨z, hz, hw⟩ := h 0 (by simp)
    obtain ⟨zs, e, hzs⟩ := ints_of r (fun i hi => h (i + 1) (by simpa using hi))
    refine ⟨z :: zs, by simp at hz; rw [hz, e]; rfl, fun y hy => ?_⟩
    rcases List.mem_cons.1 hy with rfl | hy
    · exact hw
    · exact hzs y hy

theorem arrLits {t e : TypeId} {n : Nat} (hu : P.underlying t = some (.array n e)) (he : P.underlying e = some (.int q)) (hc : P.cellsOf e = 1) (hn : P.cellsOf t = n) {d : Nat} {cs : List Value} {l : List Lit} (h : P.keyLits d t cs = some l) : cs.length = n ∧ Ints q cs := by
  cases d with
  | zero => simp [Program.keyLits] at h
  | succ d =>
    unfold Program.keyLits at h
    rw [hu] at h
    simp only [hn, hc] at h
    split at h
    · rename_i hl
      cases hm : (List.range n).mapM (fun i => P.keyLits d e ((cs.drop (i * 1)).take 1)) with
      | none => rw [hm] at h; cases h
      | some ys =>
        refine ⟨hl, ints_of cs fun i hi => ?_⟩
        obtain ⟨a, ha⟩ := mapM_each hm i (List.mem_range.2 (by omega))
        obtain ⟨z, hz, hw⟩ := intLits he ha
        refine ⟨z, ?_, hw⟩
        have h1 := congrArg (fun xs => xs[0]?) hz
        simpa using h1
    · cases h
theorem arrLits_mk {t e : TypeId} {n : Nat} (hu : P.underlying t = some (.array n e)) (he : P.underlying e = some (.int q)) (hc : P.cellsOf e = 1) (hn : P.cellsOf t = n) (d : Nat) {cs : List Value} (hl : cs.length = n) (h : Ints q cs) : ∃ l, P.keyLits (d + 2) t cs = some l := by
  obtain ⟨zs, rfl, hw⟩ := h
  rw [List.length_map] at hl
  unfold Program.keyLits
  rw [hu]
  simp only [hn, hc, List.length_map, hl, if_true]
  obtain ⟨ys, has⟩ := mapM_mk (f := fun i => P.keyLits (d + 1) e (((zs.map (Value.int q)).drop (i * 1)).take 1)) (L := List.range n) (fun i hi => by
    have hi' : i < zs.length := by have := List.mem_range.1 hi; omega
    have e1 : ((zs.map (Value.int q)).drop (i * 1)).take 1 = [.int q zs[i]] := by
      rw [Nat.mul_one, ← List.map_drop, ← List.map_take, List.drop_eq_getElem_cons hi']
      rfl
    rw [e1]
    exact intLits_mk he d _ (hw _ (List.getElem_mem hi')))
  rw [has]
  exact ⟨_, rfl⟩
end
end Go.Proofs.Ytnmilkehggjpfaa
end
section
namespace Go.Proofs.Ytnmilkehggjpfaa
open Go.RowKit Go.Maps
set_option linter.unusedVariables false
set_option maxRecDepth 100000

theorem litsP {d : Nat} {cs : List Value} {l : List Lit} (h : Try.prog.keyLits d 157 cs = some l) : cs.length = 8 ∧ Ints .u8 cs := arrLits Try.underlying157 Try.underlying5 (by kernel_rfl) (by kernel_rfl) h

theorem litsP_mk (d : Nat) {cs : List Value} (hl : cs.length = 8) (h : Ints .u8 cs) : ∃ l, Try.prog.keyLits (d + 3) 157 cs = some l := arrLits_mk Try.underlying157 Try.underlying5 (by kernel_rfl) (by kernel_rfl) (d + 1) hl h

/-- Whatever reads as a key is one. -/
theorem keyP_inv {v : Value} {l : Lit} (h : keyOf Try.prog 157 v = some l) : ∃ k, v = .agg k ∧ KOKP k := by
  obtain ⟨xs, L, rfl, hL, _⟩ := keyOf_top (by kernel_rfl) h
  obtain ⟨h1, zs, h2, _⟩ := litsP hL
  refine ⟨xs, rfl, ⟨zs, ?_, ?_⟩, l, h⟩
  · rw [h2, List.length_map] at h1; exact h1
  · rw [← h2]

theorem keyP_mk (zs : List Int) (hl : zs.length = 8) (hw : ∀ z ∈ zs, (Lit.int .u8 z).wf = true) : KOKP (zs.map (Value.int .u8)).toArray := by
  refine ⟨⟨zs, hl, rfl⟩, ?_⟩
  obtain ⟨L, hL⟩ := litsP_mk (Try.prog.types.size - 2) (cs := zs.map (Value.int .u8)) (by rw [List.length_map]; exact hl) ⟨zs, rfl, hw⟩
  have hts : Try.prog.types.size - 2 + 3 = Try.prog.types.size + 1 := by kernel_rfl
  rw [hts] at hL
  have hk : Try.prog.keyType 157 = true := by kernel_rfl
  have hf : (Value.agg (zs.map (Value.int .u8)).toArray).formed Try.prog 157 = true := by
    have hc : Try.prog.cellsOf 157 = 8 := by kernel_rfl
    simp [Value.formed, Try.underlying157, hc, hl]
  refine ⟨.string (keyBytes L), ?_⟩
  unfold keyOf
  rw [Try.underlying157]
  simp only [hk, hf, Bool.and_self, if_true]
  have e : (Value.agg (zs.map (Value.int .u8)).toArray).cells.toList = zs.map (Value.int .u8) := by simp [Value.cells]
  rw [e, hL]
  rfl
end Go.Proofs.Ytnmilkehggjpfaa
end
section
namespace Go.Proofs.Ytnmilkehggjpfaa
open Go.RowKit Go.Maps Go.Shelf
set_option linter.unusedVariables false
set_option maxRecDepth 100000

theorem ldKIP {F : Fence} {n : Nat} {ops : Array Oper} {rest : List Oper} {o : Oper} {a : Act} {w : World} {Q : Exit → Act → World → Prop} (hgd : o.guard = none) (x : Operand) (ho : o.op = .load 157 x)
    (b p : Nat) (hx : a.eval x = .pointer (some ⟨b, p, none⟩)) (k : Array Value) (hc : w.rangeAt b p k.toList) (hs : k.size = 8) (h : wpListIn F n Try.prog ops Q rest (a.put o.dst (.agg k)) w) : wpListIn F n Try.prog ops Q (o :: rest) a w := by
  refine wpListIn_plain hgd fun K' hK' => ?_
  unfold Oper.wpIn
  refine ⟨?_, ?_⟩
  · simp [Oper.about, ho]
  · rw [Oper.semAt_plain F _ _ (by rw [ho]; intro c hc'; cases hc')]
    unfold execOp
    simp only [ho, hx, loadP w b p k hc hs, Sem.run_bind, Sem.run_pure, Result.andThen_ok]
    exact hK' _ _ h
theorem stKIP {F : Fence} {n : Nat} {ops : Array Oper} {rest : List Oper} {o : Oper} {a : Act} {Q : Exit → Act → World → Prop} (w : World) (hgd : o.guard = none) (x y : Operand) (ho : o.op = .store 157 x y)
    (hx : a.eval x = .pointer (some ⟨w.heap.size, 0, none⟩)) (k : Array Value) (hy : a.eval y = .agg k) (hs : k.size = 8) (h1 : k.all (·.oneCell') = true)
    (h : wpListIn F n Try.prog ops Q rest (a.put o.dst undef) (w.alloc (.cells k 157))) : wpListIn F n Try.prog ops Q (o :: rest) a (w.alloc (.cells #[Value.int .u8 0, Value.int .u8 0, Value.int .u8 0, Value.int .u8 0, Value.int .u8 0, Value.int .u8 0, Value.int .u8 0, Value.int .u8 0] 157)) := by
  refine wpListIn_plain hgd fun K' hK' => ?_
  unfold Oper.wpIn
  refine ⟨?_, ?_⟩
  · simp [Oper.about, ho]
  · rw [Oper.semAt_plain F _ _ (by rw [ho]; intro c hc'; cases hc')]
    unfold execOp
    simp only [ho, hx, hy, run_storeAt_new (P := Try.prog) w 157 #[Value.int .u8 0, Value.int .u8 0, Value.int .u8 0, Value.int .u8 0, Value.int .u8 0, Value.int .u8 0, Value.int .u8 0, Value.int .u8 0] k (by rw [sizeP, hs]) (by rw [hs]; rfl) h1, Sem.run_bind, Sem.run_pure, Result.andThen_ok]
    exact hK' _ _ h

/-- A key. -/
abbrev KTP := { k : Array Value // KOKP k }

/-- What has come of the keys. -/
def GotP (D0 : DataW Unit) (left : Lit → Bool) (ss : List KTP) : Prop := ss.Nodup ∧ ∀ (k : KTP) l, keyOf Try.prog 157 (.agg k.1) = some l → (k ∈ ss ↔ (has D0 l = true ∧ left l = false))
theorem GotP.start (D0 : DataW Unit) : GotP D0 (has D0) [] := ⟨List.nodup_nil, fun k l _ => by cases has D0 l <;> simp⟩
theorem GotP.step {D0 : DataW Unit} {left : Lit → Bool} {ss : List KTP} (h : GotP D0 left ss) {x : KTP} {kl : Lit} (hx : keyOf Try.prog 157 (.agg x.1) = some kl) {y : DataW Unit} (hlk : left kl = true) (hat : ∀ zd, D0.atKey kl zd = y) :
    GotP D0 (fun z => left z && !z.sameKey kl) (ss ++ [x]) := by
  have hhas : has D0 kl = true := has_true_of_atKey hat
  have hnew : x ∉ ss := fun hm => by have := ((h.2 x kl hx).1 hm).2; rw [hlk] at this; cases this
  refine ⟨List.nodup_append.2 ⟨h.1, by simp, fun a ha b hb => by simp at hb; subst hb; exact fun e => hnew (e ▸ ha)⟩, fun k l hk => ?_⟩
  by_cases e : k = x
  · subst e
    rw [hx] at hk
    cases hk
    simp [hhas, WideAt.sameKey_self (keyedP.key hx)]
  · have hne : l.sameKey kl = false := by
      cases hs : l.sameKey kl with
      | false => rfl
      | true =>
        have e1 := WideAt.sameKey_eq hs
        subst e1
        exact absurd (Subtype.ext (by have := keyedP.inj hk hx; simpa using this)) e
    simp [h.2 k l hk, e, hne]

set_option maxHeartbeats 1000000 in
theorem keysItP (F : Fence) (n : Nat) (hF : F.fn 191) (hro : F.round = none) (hn : 1 ≤ n) (l Bm b nn : Nat) (D0 : DataW Unit) (J Jx : List KTP → World → Prop)
    (hY : ∀ pre x W, J pre W → pre.length < Maps.size D0 → YieldAt F (n - 1) Try.prog l #[.agg x.1] W fun e W' => (e = .returned (.bool true) ∧ J (pre ++ [x]) W' ∧ KeepsWalks W W') ∨ (e = .returned (.bool false) ∧ Jx (pre ++ [x]) W'))
    (W : World) (hJ : AbidesFrom W.heap.size J) (hm : W.cell? ⟨Bm, 0, none⟩ = some (.map (some b))) (hown : W.ownsMap Try.prog 157 (plainElem Try.prog 4) b nn D0) (h0 : J [] W) :
    CallsIn F n Try.prog 191 #[.func (.yield l) #[] #[], .pointer (some ⟨Bm, 0, none⟩)] W fun e W' => (∃ v, e = .returned v) ∧
      ((∃ ss : List KTP, (ss.Nodup ∧ ∀ (k : KTP) l, keyOf Try.prog 157 (.agg k.1) = some l → (k ∈ ss ↔ has D0 l = true)) ∧ J ss W') ∨ (∃ pre : List KTP, True ∧ Jx pre W')) := by
  refine callsIn_of_wp Try.func191 rfl hF ?_ hro
  simp only [Try.ntmps191, List.size_toArray, List.length_cons, List.length_nil, Nat.reduceAdd, Nat.reduceSub, Array.replicate_succ, Array.replicate_zero, List.push_toArray, List.append_toArray, List.nil_append, List.cons_append]
  gi_wp2_with (first
    | (gi_at_range; refine wpListIn_range_own _ rfl _ 184 rfl 157 4 keyedP Try.underlying184 _ b nn _ rfl hown ?_; intro w0 hrg0 hg0 hs0)
    | gi_in)
  go_frame
  gi_loopw [3] (fun _ wr => ∃ (left : Lit → Bool) (cnt : Nat) (ss : List KTP), wr.ranges Try.prog 157 (plainElem Try.prog 4) b W.heap.size nn D0 left cnt ∧ ss.length + cnt ≤ Maps.size D0 ∧ GotP D0 left ss ∧ J ss wr)
    (fun _ wr => wr.rangeLeft b W.heap.size)
  case atStart =>
    exact ⟨_, _, [], hrg0, by simp, GotP.start D0, hJ [] W w0 none h0 hg0 (fun r e => by cases e)⟩
  case round =>
    obtain ⟨left, cnt, ss, hrg, hcs, hC, hJs⟩ := hrel
    gi_wp2_with (first
      | (gi_at_next; refine wpListIn_next_ranges _ rfl _ rfl 157 keyedP (plainElem Try.prog 4) (fun x : KTP => .agg x.1) id (fun key kl hk => by obtain ⟨k, e, hk'⟩ := keyP_inv hk; exact ⟨⟨k, hk'⟩, e⟩) (fun v _ _ => ⟨v, rfl⟩) b W.heap.size nn _ _ _ rfl hrg ?_ ?_)
      | gi_in)
    · intro hc0 hl0
      gi_wp2
      go_end0
      exact ⟨⟨_, rfl⟩, .inl ⟨ss, ⟨hC.1, fun k l hk => by rw [hC.2 k l hk, hl0]; simp⟩, hJs⟩⟩
    · intro k hk c kl yd yp w2 cnt2 hkey hlk hv hat hrg2 hlt hg2 hs2 hen
      have hC2 := hC.step (x := ⟨k, hk⟩) hkey hlk hat
      have hJ2 : J ss w2 := hJ ss wr w2 (some W.heap.size) hJs hg2 (fun r e => by cases e; exact ⟨Nat.le_refl _, hrg.iter_walk⟩)
      have hJ3 : J ss (w2.alloc (.cells k 157)) := hJ ss w2 _ none hJ2 (World.grownBy_alloc w2 _ none) (fun r e => by cases e)
      have hrg3 := hrg2.alloc (.cells k 157)
      obtain ⟨fn, tmps, assign, body, hy, hR⟩ := hY ss ⟨k, hk⟩ _ hJ3 (by omega)
      have HSZ := Lib.hid hk.size
      have HONE := Lib.hid hk.one
      have HNW := Lib.hid (loadNewP w2 k HSZ.out)
      clear hs2
      gi_wp2_with (first
        | (refine ldKIP rfl _ rfl w2.heap.size 0 rfl k HNW.out HSZ.out ?_)
        | (refine stKIP w2 rfl _ _ rfl rfl k rfl HSZ.out HONE.out ?_))
      refine hR.mono ?_
      rintro e W3 (⟨rfl, hJ3', hk3⟩ | ⟨rfl, hJx3⟩)
      · gi_wp2
        have hrg4 := hrg3.of_walks hk3
        go_roundw
        case rel => exact ⟨_, cnt2, ss ++ [⟨k, hk⟩], hrg4, by simp; omega, hC2, hJ3'⟩
        case measure => rw [hrg4.left_eq, hrg.left_eq]; exact hlt
      · gi_wp2
        refine bodyPost_ret (results_none rfl _ _ _) rfl ?_
        exact ⟨⟨_, rfl⟩, .inr ⟨ss ++ [⟨k, hk⟩], trivial, hJx3⟩⟩

/-- **maps.Keys(m) hands back a value that 'SeqStops'.** -/
theorem keysStopsP (F : Fence) (n : Nat) (hF : F.fn 191) (hro : F.round = none) (hn : 1 ≤ n) (Bm b nn : Nat) (D0 : DataW Unit) (w : World) (hBm : Bm < w.heap.size)
    (hm : w.cell? ⟨Bm, 0, none⟩ = some (.map (some b))) (hown : w.ownsMap Try.prog 157 (plainElem Try.prog 4) b nn D0) :
    SeqStopsK F n Try.prog 191 #[.pointer (some ⟨Bm, 0, none⟩)] (fun x : KTP => #[Value.agg x.1]) KeepsWalks (fun ss => ss.Nodup ∧ ∀ (k : KTP) l, keyOf Try.prog 157 (.agg k.1) = some l → (k ∈ ss ↔ has D0 l = true)) (fun _ => True) (Maps.size D0) w := fun l J Jx W hW hJ _ hY h0 => by
  have hown' : W.ownsMap Try.prog 157 (plainElem Try.prog 4) b nn D0 := by
    have hbl := hown.lt
    obtain ⟨es, clock, hb, Ft, hs, hD⟩ := hown
    exact ⟨es, clock, (hW.block b hbl).trans hb, Ft, hs, hD⟩
  exact keysItP F n hF hro hn l Bm b nn D0 J Jx hY W hJ ((hW.cell (p := ⟨Bm, 0, none⟩) hBm).trans hm) hown' h0
end Go.Proofs.Ytnmilkehggjpfaa
end
