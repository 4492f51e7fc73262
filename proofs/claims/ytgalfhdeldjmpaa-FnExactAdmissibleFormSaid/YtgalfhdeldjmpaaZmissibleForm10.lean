/-
  Joined: KFam, KRows, KKeysOf.
-/
import Derived.Test.YtgalfhdeldjmpaaZmissibleForm09
import Derived.Test.YtgalfhdeldjmpaaZmissibleForm04
import Derived.Test.YtgalfhdeldjmpaaZmissibleForm07
import Derived.Test.YtgalfhdeldjmpaaZmissibleForm05
import Derived.Test.YtgalfhdeldjmpaaZmissibleForm08
section
namespace Go.Proofs.Ytgalfhdeldjmpaa
open Go.RowKit
set_option maxRecDepth 100000
set_option linter.unusedVariables false

theorem own_len {w : World} {B : Nat} {v : Value} {n : Nat} {xs : List Value} (h : w.ownsRow B 2 1 v n xs) : ∃ a cap, v = .slice a n cap ∧ n ≤ maxLen := by
  rcases h.2 with ⟨rfl, rfl⟩ | ⟨g, cap, cur, rfl, _, _, h1, h2, _⟩
  · exact ⟨none, 0, rfl, Nat.zero_le _⟩
  · exact ⟨_, cap, rfl, Nat.le_trans h1 h2⟩

/-! ### What stays of the rows of numbers -/
def KeepI (q : Option Nat) (w w' : World) : Prop := ∀ k cur, w.heap[k]? = some (.cells cur 2 (0, 0)) → some k ≠ q → w'.heap[k]? = w.heap[k]?
theorem KeepI.refl (q : Option Nat) (w : World) : KeepI q w w := fun _ _ _ _ => rfl
theorem KeepI.trans {q : Option Nat} {a b c : World} (h : KeepI q a b) (k : KeepI q b c) : KeepI q a c := fun i cur hi hq => by
  have h1 := h i cur hi hq
  rw [k i cur (h1.trans hi) hq, h1]
theorem KeepI.wide {a b : World} (h : KeepI none a b) (q : Option Nat) : KeepI q a b := fun i cur hi _ => h i cur hi (by intro e; cases e)
theorem KeepI.below {a b : World} (h : Below a.heap.size a b) (q : Option Nat) : KeepI q a b := fun i cur hi _ => h.block i (Array.getElem?_eq_some_iff.1 hi).1
theorem KeepI.row {a b : World} {B n : Nat} {V : Value} {xs : List Value} (hV : a.ownsRow B 41 1 V n xs) (h : a.grownBy b V.ownBlock) (q : Option Nat) : KeepI q a b := fun i cur hi _ => by
  refine h.block i (Array.getElem?_eq_some_iff.1 hi).1 fun e => ?_
  rcases hV.2 with ⟨rfl, _⟩ | ⟨g, cap, cur', rfl, _, hg, _⟩
  · cases e
  · simp only [Value.ownBlock, Option.some.injEq] at e
    subst e
    rw [hi] at hg
    cases hg
theorem KeepI.own {q : Option Nat} {w w' : World} (k : KeepI q w w') {B n : Nat} {v : Value} {xs : List Value} (h : w.ownsRow B 2 1 v n xs) (hq : v.ownBlock = none ∨ v.ownBlock ≠ q) : w'.ownsRow B 2 1 v n xs := by
  refine ⟨h.1, ?_⟩
  rcases h.2 with hn | ⟨g, cap, cur, rfl, hb, hg, rest⟩
  · exact .inl hn
  · refine .inr ⟨g, cap, cur, rfl, hb, ?_, rest⟩
    rw [k g cur hg (by rcases hq with hq | hq; exact absurd hq (by simp [Value.ownBlock]); exact hq)]
    exact hg

/-! ### Families that read as a list of lists -/
def rowsOf (xss : List (List Int)) : Nat → List Int := fun i => xss[i]?.getD []
abbrev FamL (w : World) (B : Nat) (V : Value) (VS : Nat → Value) (xss : List (List Int)) : Prop := Fam w B V xss.length VS (rowsOf xss)

theorem ext_map (VS : Nat → Value) (m : Nat) (v : Value) : (List.range (m + 1)).map (ext VS m v) = (List.range m).map VS ++ [v] := by
  rw [List.range_succ, List.map_append]
  congr 1
  · apply List.map_congr_left
    intro i hi
    rw [ext, if_pos (List.mem_range.1 hi)]
  · simp [ext]

theorem FamL.push {w w1 : World} {B n : Nat} {V V' v : Value} {VS : Nat → Value} {xss : List (List Int)} {zs : List Int} {q : Option Nat} (h : FamL w B V VS xss)
    (hq : ∀ i, i < xss.length → (VS i).ownBlock = none ∨ (VS i).ownBlock ≠ q) (k : KeepI q w w1)
    (ho : w1.ownsRow B 41 1 V' (xss.length + 1) ((List.range xss.length).map VS ++ [v])) (hv : w1.ownsRow B 2 1 v n (zs.map (Value.int .i64))) (hn : n = zs.length) :
    FamL w1 B V' (ext VS xss.length v) (xss ++ [zs]) := by
  subst hn
  refine ⟨by rw [List.length_append, List.length_singleton, ext_map]; exact ho, fun i hi => ?_⟩
  rw [List.length_append, List.length_singleton] at hi
  by_cases hlt : i < xss.length
  · have e1 : rowsOf (xss ++ [zs]) i = rowsOf xss i := by unfold rowsOf; rw [List.getElem?_append_left hlt]
    rw [e1, ext, if_pos hlt]
    exact k.own (h.inn i hlt) (hq i hlt)
  · have e0 : i = xss.length := by omega
    subst e0
    have e1 : rowsOf (xss ++ [zs]) xss.length = zs := by unfold rowsOf; rw [List.getElem?_append_right (Nat.le_refl _), Nat.sub_self]; rfl
    rw [e1, ext, if_neg (Nat.lt_irrefl _)]
    exact hv

theorem FamL.keep {w w1 : World} {B : Nat} {V : Value} {VS : Nat → Value} {xss : List (List Int)} {q : Option Nat} (h : FamL w B V VS xss)
    (hq : ∀ i, i < xss.length → (VS i).ownBlock = none ∨ (VS i).ownBlock ≠ q) (k : KeepI q w w1) (ho : w1.ownsRow B 41 1 V xss.length ((List.range xss.length).map VS)) : FamL w1 B V VS xss :=
  ⟨ho, fun i hi => k.own (h.inn i hi) (hq i hi)⟩
theorem apart_symm {v v' : Value} (h : v.ownBlock = none ∨ v.ownBlock ≠ v'.ownBlock) : v'.ownBlock = none ∨ v'.ownBlock ≠ v.ownBlock := by
  rcases h with h | h
  · rw [h]
    exact Classical.em _
  · exact .inr (Ne.symm h)

theorem apart_new {w : World} {B n : Nat} {v u : Value} {xs : List Value} {e : TypeId} {s : Nat} (h : w.ownsRow B e s v n xs) (hu : ∀ k, u.ownBlock = some k → w.heap.size ≤ k) : v.ownBlock = none ∨ v.ownBlock ≠ u.ownBlock := by
  cases e1 : v.ownBlock with
  | none => exact .inl rfl
  | some k =>
    refine .inr fun e2 => ?_
    have h1 := (h.lt k e1).2
    have h2 := hu k e2.symm
    omega

theorem Sep.ext {m : Nat} {VS : Nat → Value} {u : Value} (h : Sep m VS) (hu : ∀ i, i < m → (VS i).ownBlock = none ∨ (VS i).ownBlock ≠ u.ownBlock) : Sep (m + 1) (ext VS m u) := by
  intro i j hi hj hij
  unfold Go.Proofs.Ytgalfhdeldjmpaa.ext
  by_cases h1 : i < m
  · rw [if_pos h1]
    by_cases h2 : j < m
    · rw [if_pos h2]; exact h i j h1 h2 hij
    · rw [if_neg h2]; exact hu i h1
  · rw [if_neg h1]
    by_cases h2 : j < m
    · rw [if_pos h2]; exact apart_symm (hu j h2)
    · exact absurd (by omega) hij
theorem Fam.base {w : World} {B B' : Nat} {V : Value} {m : Nat} {VS : Nat → Value} {Y : Nat → List Int} (h : Fam w B V m VS Y) (hb : B' ≤ B) : Fam w B' V m VS Y :=
  ⟨own_base h.out hb, fun i hi => own_base (h.inn i hi) hb⟩

end Go.Proofs.Ytgalfhdeldjmpaa
end
section
namespace Go.Proofs.Ytgalfhdeldjmpaa
open Go.RowKit
set_option maxRecDepth 100000
set_option linter.unusedVariables false

/-- The first m of the lists. -/
def rowsL (X : Nat → List Int) (m : Nat) : List (List Int) := (List.range m).map X
theorem rowsL_succ (X : Nat → List Int) (m : Nat) : rowsL X (m + 1) = rowsL X m ++ [X m] := by simp [rowsL, List.range_succ]
theorem rowsL_len (X : Nat → List Int) (m : Nat) : (rowsL X m).length = m := by simp [rowsL]
theorem mem_rowsL {X : Nat → List Int} {m : Nat} {x : List Int} (h : x ∈ rowsL X m) : ∃ i, i < m ∧ x = X i := by
  obtain ⟨i, hi, e⟩ := List.mem_map.1 h
  exact ⟨i, List.mem_range.1 hi, e.symm⟩

/-- A row of numbers is put behind a family: what the walk wants. -/
theorem fam_put {w w1 w3 : World} {B n : Nat} {S V3 v : Value} {VS : Nat → Value} {L : List (List Int)} {x : List Int} (hF : FamL w B S VS L) (hS : Sep L.length VS) (hB : B ≤ w.heap.size)
    (hv : w1.ownsRow w.heap.size 2 1 v n (x.map (Value.int .i64))) (hn : n = x.length) (hb : Below w.heap.size w w1) (o : Obj)
    (hV3 : w3.ownsRow B 41 1 V3 (L.length + 1) ((List.range L.length).map VS ++ [v])) (hg : (w1.alloc o).grownBy w3 S.ownBlock) :
    FamL w3 B V3 (ext VS L.length v) (L ++ [x]) ∧ Sep (L ++ [x]).length (ext VS L.length v) ∧ Below B w w3 := by
  have hsz := hb.size
  have hF1 : FamL w1 B S VS L := hF.below hb
  have K3 : KeepI none w1 w3 := (KeepI.below ((Below.refl _ w1).alloc (Nat.le_refl _) _) none).trans (KeepI.row (hF1.out.alloc o) hg none)
  have N3 := K3.own (own_base hv hB) (Classical.em _)
  refine ⟨FamL.push hF1 (fun _ _ => Classical.em _) K3 hV3 N3 hn, ?_, ?_⟩
  · rw [List.length_append]
    exact Sep.ext hS (fun i hi => apart_new (hF.inn i hi) (fun k hk => (hv.lt k hk).1))
  · exact (hb.mono hB).trans (((Below.refl _ w1).alloc (by omega) o).grown hg (by simp; omega) (fun k hk => (hF1.out.lt k hk).1))
end Go.Proofs.Ytgalfhdeldjmpaa
end
section
namespace Go.Proofs.Ytgalfhdeldjmpaa
open Go.RowKit Go.Maps
set_option linter.unusedVariables false
set_option maxRecDepth 100000

theorem bsKP {ops : Array Oper} {rest : List Oper} {o : Oper} {a : Act} {Q : Exit → Act → World → Prop} (w : World) (hgd : o.guard = none) (x : Operand) (ho : o.op = .buildSlice 62 1 #[(0, x)])
    (k : Array Value) (hx : a.eval x = .agg k) (hk : KOKP k) (h : wpList Try.prog ops Q rest (a.put o.dst (.slice (some ⟨w.heap.size, 0, none⟩) 1 1)) (w.alloc (.cells k 64))) : wpList Try.prog ops Q (o :: rest) a w := by
  refine wpList_plain hgd fun K' hK' => ?_
  have hr := bsRunP w k hk
  unfold Oper.wp execOp
  simp only [ho, List.map_toArray, List.map_cons, List.map_nil, hx, hr, Sem.run_bind, Sem.run_pure, Result.andThen_ok]
  exact hK' _ _ h
theorem bsKW {ops : Array Oper} {rest : List Oper} {o : Oper} {a : Act} {Q : Exit → Act → World → Prop} (w : World) (hgd : o.guard = none) (x : Operand) (ho : o.op = .buildSlice 101 1 #[(0, x)])
    (k : Array Value) (hx : a.eval x = .agg k) (hk : KOKW k) (h : wpList Try.prog ops Q rest (a.put o.dst (.slice (some ⟨w.heap.size, 0, none⟩) 1 1)) (w.alloc (.cells k 107))) : wpList Try.prog ops Q (o :: rest) a w := by
  refine wpList_plain hgd fun K' hK' => ?_
  have hr := bsRunW w k hk
  unfold Oper.wp execOp
  simp only [ho, List.map_toArray, List.map_cons, List.map_nil, hx, hr, Sem.run_bind, Sem.run_pure, Result.andThen_ok]
  exact hK' _ _ h

/-- The keys of lists, of both kinds. -/
def pkL (l : List (List Int)) : List (Array Value) := (l.filter (fun x => decide (fits x))).map packK
def wdL (l : List (List Int)) : List (Array Value) := (l.filter (fun x => !decide (fits x))).map wideK
theorem pkL_yes (l : List (List Int)) (x : List Int) (h : fits x) : pkL (l ++ [x]) = pkL l ++ [packK x] := by simp [pkL, h]
theorem pkL_no (l : List (List Int)) (x : List Int) (h : ¬ fits x) : pkL (l ++ [x]) = pkL l := by simp [pkL, h]
theorem wdL_yes (l : List (List Int)) (x : List Int) (h : fits x) : wdL (l ++ [x]) = wdL l := by simp [wdL, h]
theorem wdL_no (l : List (List Int)) (x : List Int) (h : ¬ fits x) : wdL (l ++ [x]) = wdL l ++ [wideK x] := by simp [wdL, h]
theorem pkL_len (l : List (List Int)) : (pkL l).length ≤ l.length := by rw [pkL, List.length_map]; exact List.length_filter_le _ _
theorem wdL_len (l : List (List Int)) : (wdL l).length ≤ l.length := by rw [wdL, List.length_map]; exact List.length_filter_le _ _
theorem ownP_snoc {w : World} {B : Nat} {v : Value} {ks : List (Array Value)} {k : Array Value} (h : w.ownsRow B 64 8 v (ks.length + 1) (ks.flatMap Array.toList ++ k.toList)) : OwnP w B v (ks ++ [k]) := by
  unfold OwnP
  rw [List.length_append, List.length_singleton, List.flatMap_append]
  simpa using h
theorem ownW_snoc {w : World} {B : Nat} {v : Value} {ks : List (Array Value)} {k : Array Value} (h : w.ownsRow B 107 21 v (ks.length + 1) (ks.flatMap Array.toList ++ k.toList)) : OwnW w B v (ks ++ [k]) := by
  unfold OwnW
  rw [List.length_append, List.length_singleton, List.flatMap_append]
  simpa using h

set_option maxHeartbeats 2000000 in
theorem keysOf_any (V : Value) (m : Nat) (X : Nat → List Int) (w : World) (h : RdSS w V m X) (hm : m ≤ 20000) (h20 : ∀ i, i < m → (X i).length ≤ 20) (hwf : ∀ i, i < m → ∀ z ∈ X i, (Lit.int .i64 z).wf = true) :
    Calls Try.prog 78 #[V] w fun e w' => ∃ u v, e = .returned (.tuple #[u, v]) ∧ OwnP w' w.heap.size u (pkL (rowsL X m)) ∧ OwnW w' w.heap.size v (wdL (rowsL X m)) ∧ Below w.heap.size w w' := by
  obtain ⟨i0, hi, hz0, hz1, hz2⟩ := info_parts infoEP
  obtain ⟨i1, hj1, hy0, hy1, hy2⟩ := info_parts infoEW
  obtain ⟨⟨a, cap, rfl⟩, hsm, VS, hc, hr⟩ := h
  by_cases h0 : m = 0
  · subst h0
    clear hc hr h20 hwf
    go_enter Try.func78, Try.ntmps78
    go_wp2
    refine wp_loop_rounds 1 ?_
    rw [rounds_succ]
    go_wp2
    go_ret2
    exact ⟨_, _, rfl, World.ownsRow_nil _ _ _ _, World.ownsRow_nil _ _ _ _, Below.refl _ _⟩
  · obtain ⟨b, off, ⟨cap', e⟩, hc'⟩ := hc.resolve_left h0
    cases e
    have HC := Lib.hid hc'
    have HR := Lib.hid hr
    have H20 := Lib.hid h20
    have HWF := Lib.hid hwf
    have hlt0 : ∀ i, i < m → b < w.heap.size := fun i hi => World.block_lt_of_cell? w ⟨b, off + i, none⟩ (hc' i hi)
    have hbl := hlt0 0 (by omega)
    clear hc hc' hr h20 hwf hlt0 h0
    go_enter Try.func78, Try.ntmps78
    go_wp2
    go_loopw [4, 5, 7, 10] (fun p q _ c wr => ∃ j : Nat, j ≤ m ∧ c = .int .i64 j ∧ Hid (OwnP wr w.heap.size p (pkL (rowsL X j))) ∧ Hid (OwnW wr w.heap.size q (wdL (rowsL X j))) ∧ Hid (Below w.heap.size w wr)) (fun _ _ _ c _ => m - (intOf c).toNat)
    case atStart => exact ⟨0, Nat.zero_le _, rfl, Lib.hid (World.ownsRow_nil _ _ _ _), Lib.hid (World.ownsRow_nil _ _ _ _), Lib.hid (Below.refl _ _)⟩
    case round =>
      obtain ⟨j, hj, rfl, hp, hq, hb⟩ := hrel
      by_cases hlt : j < m
      · have hlt' : (j : Int) < (m : Int) := by omega
        have c1 : wr.cell? ⟨b, off + j, none⟩ = some (VS j) := (hb.out.cell (p := ⟨b, off + j, none⟩) hbl).trans (HC.out j hlt)
        have r1 : RdL wr (VS j) (X j) := (HR.out j hlt).below hb.out
        have hl1 : (pkL (rowsL X j)).length ≤ 20000 := by have := pkL_len (rowsL X j); rw [rowsL_len] at this; omega
        have hl2 : (wdL (rowsL X j)).length ≤ 20000 := by have := wdL_len (rowsL X j); rw [rowsL_len] at this; omega
        have hsz := hb.out.size
        by_cases hf : fits (X j)
        · have FI := Lib.hid (fits_yes (VS j) (X j) wr r1 hf)
          have PK := Lib.hid (packTerm_any (VS j) (X j) wr r1 hf)
          have HK := Lib.hid (packK_ok (X j) hf)
          have NP : Hid (pkL (rowsL X (j + 1)) = pkL (rowsL X j) ++ [packK (X j)]) := Lib.hid (by rw [rowsL_succ, pkL_yes _ _ hf])
          have NW : Hid (wdL (rowsL X (j + 1)) = wdL (rowsL X j)) := Lib.hid (by rw [rowsL_succ, wdL_yes _ _ hf])
          generalize VS j = vj at c1 FI PK
          generalize packK (X j) = K at PK HK NP
          clear r1 hf
          go_wp2_with fail
          refine FI.out.mono ?_
          rintro e w' ⟨rfl, rfl⟩
          go_wp2_with fail
          refine PK.out.mono ?_
          rintro e w2 ⟨rfl, hb2⟩
          have hsz2 := hb2.size
          have P2 := Lib.hid (own_below hp.out hb2)
          have Q2 := Lib.hid (own_below hq.out hb2)
          have B2 := Lib.hid (hb.out.trans (hb2.mono hsz))
          have PA := Lib.hid (P2.out.alloc (.cells K 64))
          have QA := Lib.hid (Q2.out.alloc (.cells K 64))
          clear hb2 hp hq
          go_wp2_with (first
            | (refine bsKP w2 rfl _ rfl K rfl HK.out ?_)
            | (at_builtin; refine wpList_append_own _ rfl _ _ 62 rfl w.heap.size 64 i0 (.agg #[Value.int .u8 0, Value.int .u8 0, Value.int .u8 0, Value.int .u8 0, Value.int .u8 0, Value.int .u8 0, Value.int .u8 0, Value.int .u8 0]) 8 8 Try.underlying62 hi hz0 hz1 hz2 rfl (by decide) _ _ _ rfl PA.out ⟨w2.heap.size, 0, none⟩ 1 1 K.toList rfl ?c1 ?c2 ?c3 ?c4 ?c5 ?c6 ?_))
          case c1 => rw [Array.length_toList, HK.out.size]
          case c2 => intro j u hu; rw [Addr.add_mid]; exact (loadNewP w2 K HK.out.size) j u hu
          case c3 => exact fun u hu => (Array.all_eq_true_iff_forall_mem.1 HK.out.one) u (by simpa using hu)
          case c4 => unfold maxLen; omega
          case c5 => omega
          case c6 => simp; omega
          intro v' w1' hown' hgrow _
          have HP' : Hid (OwnP w1' w.heap.size v' (pkL (rowsL X (j + 1)))) := Lib.hid (by rw [NP.out]; exact ownP_snoc hown')
          have HQ' : Hid (OwnW w1' w.heap.size u5 (wdL (rowsL X (j + 1)))) := Lib.hid (by rw [NW.out]; exact QA.out.kept hgrow (own_types QA.out PA.out (by decide)))
          have HB' : Hid (Below w.heap.size w w1') := Lib.hid ((B2.out.alloc B2.out.size _).grown hgrow (by simp; omega) (fun q hq => (PA.out.lt q hq).1))
          clear hgrow hown'
          go_wp2
          go_roundw
          case rel => exact ⟨j + 1, by omega, by go_num, HP', HQ', HB'⟩
          case measure => simp [intOf]; omega
        · have FI := Lib.hid (fits_no (VS j) (X j) wr r1 hf)
          have PK := Lib.hid (widen_any (VS j) (X j) wr r1 (H20.out j hlt) (HWF.out j hlt))
          have HK := Lib.hid (wideK_ok (X j) (H20.out j hlt) (HWF.out j hlt))
          have NP : Hid (pkL (rowsL X (j + 1)) = pkL (rowsL X j)) := Lib.hid (by rw [rowsL_succ, pkL_no _ _ hf])
          have NW : Hid (wdL (rowsL X (j + 1)) = wdL (rowsL X j) ++ [wideK (X j)]) := Lib.hid (by rw [rowsL_succ, wdL_no _ _ hf])
          generalize VS j = vj at c1 FI PK
          generalize wideK (X j) = K at PK HK NW
          clear r1 hf
          go_wp2_with fail
          refine FI.out.mono ?_
          rintro e w' ⟨rfl, rfl⟩
          go_wp2_with fail
          refine PK.out.mono ?_
          rintro e w2 ⟨rfl, hb2⟩
          have hsz2 := hb2.size
          have P2 := Lib.hid (own_below hp.out hb2)
          have Q2 := Lib.hid (own_below hq.out hb2)
          have B2 := Lib.hid (hb.out.trans (hb2.mono hsz))
          have PA := Lib.hid (P2.out.alloc (.cells K 107))
          have QA := Lib.hid (Q2.out.alloc (.cells K 107))
          clear hb2 hp hq
          go_wp2_with (first
            | (refine bsKW w2 rfl _ rfl K rfl HK.out ?_)
            | (at_builtin; refine wpList_append_own _ rfl _ _ 101 rfl w.heap.size 107 i1 (.agg #[Value.int .i64 0, Value.int .i64 0, Value.int .i64 0, Value.int .i64 0, Value.int .i64 0, Value.int .i64 0, Value.int .i64 0, Value.int .i64 0, Value.int .i64 0, Value.int .i64 0, Value.int .i64 0, Value.int .i64 0, Value.int .i64 0, Value.int .i64 0, Value.int .i64 0, Value.int .i64 0, Value.int .i64 0, Value.int .i64 0, Value.int .i64 0, Value.int .i64 0, Value.int .i64 0]) 21 168 Try.underlying101 hj1 hy0 hy1 hy2 rfl (by decide) _ _ _ rfl QA.out ⟨w2.heap.size, 0, none⟩ 1 1 K.toList rfl ?c1 ?c2 ?c3 ?c4 ?c5 ?c6 ?_))
          case c1 => rw [Array.length_toList, HK.out.size]
          case c2 => intro j u hu; rw [Addr.add_mid]; exact (loadNewW w2 K HK.out.size) j u hu
          case c3 => exact fun u hu => (Array.all_eq_true_iff_forall_mem.1 HK.out.one) u (by simpa using hu)
          case c4 => unfold maxLen; omega
          case c5 => omega
          case c6 => simp; omega
          intro v' w1' hown' hgrow _
          have HQ' : Hid (OwnW w1' w.heap.size v' (wdL (rowsL X (j + 1)))) := Lib.hid (by rw [NW.out]; exact ownW_snoc hown')
          have HP' : Hid (OwnP w1' w.heap.size u4 (pkL (rowsL X (j + 1)))) := Lib.hid (by rw [NP.out]; exact PA.out.kept hgrow (own_types PA.out QA.out (by decide)))
          have HB' : Hid (Below w.heap.size w w1') := Lib.hid ((B2.out.alloc B2.out.size _).grown hgrow (by simp; omega) (fun q hq => (QA.out.lt q hq).1))
          clear hgrow hown'
          go_wp2
          go_roundw
          case rel => exact ⟨j + 1, by omega, by go_num, HP', HQ', HB'⟩
          case measure => simp [intOf]; omega
      · obtain rfl : j = m := by omega
        have HP := hp
        have HQ := hq
        clear hp hq
        go_wp2
        go_ret2
        exact ⟨_, _, rfl, HP.out, HQ.out, hb.out⟩
end Go.Proofs.Ytgalfhdeldjmpaa
end
