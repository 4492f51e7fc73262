/-
  Joined: KShelf, KSort.
-/
import Derived.Shelf.SlSortCmp.NoneTotal
import Derived.Shelf.SlGeneric
import Derived.Ground.SlsfProg
import Derived.Test.YtnmilkehggjpfaaChecked
import Derived.Test.YtnmilkehggjpfaaZBMil32
section
namespace Go.Proofs
open Go.Shelf
def Try.sortRows_ren : Go.Shelf.Ren := ⟨fun | 6 => 105 | 15 => 128 | 14 => 127 | 28 => 156 | 29 => 157 | 20 => 148 | 21 => 149 | 22 => 150 | 23 => 151 | 24 => 152 | 25 => 153 | 26 => 154 | 27 => 155 | 46 => 174 | 47 => 175 | 48 => 176 | 49 => 177 | 50 => 178 | 57 => 194 | n => n, fun | 22 => 22 | 24 => 65 | 25 => 111 | 3 => 3 | 39 => 128 | 0 => 0 | 53 => 172 | 55 => 112 | 4 => 4 | 46 => 166 | 45 => 165 | 50 => 109 | 5 => 5 | 9 => 9 | 66 => 196 | 70 => 200 | 76 => 214 | 77 => 215 | n => n, fun | n => n⟩
theorem Try.sortRows : Go.Proofs.SlLaysF.n6 Try.prog Try.sortRows_ren := {
  mixed := by kernel_rfl
  f6 := ⟨Try.f105.name, by decide, Try.func105.trans (congrArg some (by kernel_rfl))⟩
  f14 := ⟨Try.f127.name, by decide, Try.func127.trans (congrArg some (by kernel_rfl))⟩
  f15 := Try.func128.trans (congrArg some (by kernel_rfl))
  f20 := ⟨Try.f148.name, by decide, Try.func148.trans (congrArg some (by kernel_rfl))⟩
  f21 := ⟨Try.f149.name, by decide, Try.func149.trans (congrArg some (by kernel_rfl))⟩
  f22 := ⟨Try.f150.name, by decide, Try.func150.trans (congrArg some (by kernel_rfl))⟩
  f23 := ⟨Try.f151.name, by decide, Try.func151.trans (congrArg some (by kernel_rfl))⟩
  f24 := ⟨Try.f152.name, by decide, Try.func152.trans (congrArg some (by kernel_rfl))⟩
  f25 := ⟨Try.f153.name, by decide, Try.func153.trans (congrArg some (by kernel_rfl))⟩
  f26 := ⟨Try.f154.name, by decide, Try.func154.trans (congrArg some (by kernel_rfl))⟩
  f27 := ⟨Try.f155.name, by decide, Try.func155.trans (congrArg some (by kernel_rfl))⟩
  f28 := Try.func156.trans (congrArg some (by kernel_rfl))
  f29 := Try.func157.trans (congrArg some (by kernel_rfl))
  f46 := ⟨Try.f174.name, by decide, Try.func174.trans (congrArg some (by kernel_rfl))⟩
  f47 := Try.func175.trans (congrArg some (by kernel_rfl))
  f48 := Try.func176.trans (congrArg some (by kernel_rfl))
  f49 := ⟨Try.f177.name, by decide, Try.func177.trans (congrArg some (by kernel_rfl))⟩
  f50 := ⟨Try.f178.name, by decide, Try.func178.trans (congrArg some (by kernel_rfl))⟩
  f57 := ⟨Try.f194.name, by decide, Try.func194.trans (congrArg some (by kernel_rfl))⟩
  t0 := Try.underlying0
  a0 := Try.isAgg0
  z0 := Try.sizeOf0
  v0 := Try.zeroValue0
  t3 := Try.underlying3
  a3 := Try.isAgg3
  z3 := Try.sizeOf3
  v3 := Try.zeroValue3
  t4 := Try.underlying4
  a4 := Try.isAgg4
  z4 := Try.sizeOf4
  v4 := Try.zeroValue4
  t5 := Try.underlying5
  a5 := Try.isAgg5
  z5 := Try.sizeOf5
  v5 := Try.zeroValue5
  t9 := Try.underlying9
  a9 := Try.isAgg9
  z9 := Try.sizeOf9
  v9 := Try.zeroValue9
  t22 := Try.underlying22
  a22 := Try.isAgg22
  z22 := Try.sizeOf22
  v22 := Try.zeroValue22
  a24 := Try.isAgg65
  z24 := Try.sizeOf65
  t25 := Try.underlying111
  a25 := Try.isAgg111
  z25 := Try.sizeOf111
  v25 := Try.zeroValue111
  t39 := Try.underlying128
  a39 := Try.isAgg128
  z39 := Try.sizeOf128
  v39 := Try.zeroValue128
  t45 := Try.underlying165
  a45 := Try.isAgg165
  z45 := Try.sizeOf165
  v45 := Try.zeroValue165
  t46 := Try.underlying166
  a46 := Try.isAgg166
  z46 := Try.sizeOf166
  v46 := Try.zeroValue166
  t50 := Try.underlying109
  a50 := Try.isAgg109
  z50 := Try.sizeOf109
  v50 := Try.zeroValue109
  t53 := Try.underlying172
  a53 := Try.isAgg172
  z53 := Try.sizeOf172
  v53 := Try.zeroValue172
  t55 := Try.underlying112
  a55 := Try.isAgg112
  z55 := Try.sizeOf112
  v55 := Try.zeroValue112
  t66 := Try.underlying196
  a66 := Try.isAgg196
  z66 := Try.sizeOf196
  v66 := Try.zeroValue196
  t70 := Try.underlying200
  a70 := Try.isAgg200
  z70 := Try.sizeOf200
  v70 := Try.zeroValue200
  t76 := Try.underlying214
  a76 := Try.isAgg214
  z76 := Try.sizeOf214
  v76 := Try.zeroValue214
  t77 := Try.underlying215
  a77 := Try.isAgg215
  z77 := Try.sizeOf215
  v77 := Try.zeroValue215 }
end Go.Proofs
end
section
namespace Go.Proofs.Ytnmilkehggjpfaa
open Go.RowKit Go.Lib
open Go.Sort hiding Below
set_option linter.unusedVariables false
set_option maxRecDepth 100000

theorem heap_sortedE {α : Type} [Inhabited α] (enc : α → Value) {w : World} {g n : Nat} {os : Array Obj} {cur : Array Value} {e : TypeId} {fr : Nat × Nat} (d : Array α) (hb : w.heap[g]? = some (.cells cur e fr)) :
    (sortWorld enc w g 0 n d os).heap[g]? = some (.cells (putCells enc 0 d cur) e fr) := by
  have hg : g < w.heap.size := (Array.getElem?_eq_some_iff.1 hb).1
  unfold sortWorld
  rw [heap_grow_old _ _ (by simpa using hg)]
  simp [putRow, mapBlock, Sort.ahead, Array.getElem?_modify, hb, onCells]

theorem grownBy_sortedE {α : Type} [Inhabited α] (enc : α → Value) (w : World) (g n : Nat) (os : Array Obj) (d : Array α) : w.grownBy (sortWorld enc w g 0 n d os) (some g) := by
  unfold sortWorld
  refine ⟨rfl, rfl, rfl, by simp, fun k hk hne => ?_⟩
  rw [heap_grow_old _ _ (by simpa using hk)]
  have : g ≠ k := fun e => hne (by rw [e])
  simp [putRow, mapBlock, Sort.ahead, Array.getElem?_modify, this]

theorem take_putCellsE {α : Type} [Inhabited α] (enc : α → Value) (cur : Array Value) (d : Array α) (h : d.size ≤ cur.size) : (putCells enc 0 d cur).toList.take d.size = d.toList.map enc := by
  apply List.ext_getElem?
  intro j
  by_cases hj : j < d.size
  · rw [List.getElem?_take_of_lt hj, Array.getElem?_toList]
    simp [putCells, hj, show j < cur.size by omega]
  · rw [List.getElem?_take_eq_none (by omega), List.getElem?_eq_none (by simp; omega)]

theorem nodup_at {α : Type} {l : List α} (h : l.Nodup) (i j : Nat) (hi : i < l.length) (hj : j < l.length) (e : l[i] = l[j]) : i = j := by
  have hp := List.pairwise_iff_getElem.1 h
  rcases Nat.lt_trichotomy i j with h1 | h1 | h1
  · exact absurd e (hp i j hi hj h1)
  · exact h1
  · exact absurd e.symm (hp j i hj hi h1)

theorem rows_inj {L : List (List Int)} (hN : L.Nodup) (i j : Nat) (hi : i < L.length) (hj : j < L.length) (h : rowsOf L i = rowsOf L j) : i = j := by
  unfold rowsOf at h
  rw [List.getElem?_eq_getElem hi, List.getElem?_eq_getElem hj] at h
  exact nodup_at hN i j hi hj (by simpa using h)

theorem ltOf_lex {m : Nat} (X : Nat → List Int) (i j : Fin m) : ltOf (fun i j : Fin m => lexCmp (X i) (X j)) i j = lexLt (X i) (X j) := by
  unfold ltOf
  rw [Bool.eq_iff_iff, decide_eq_true_iff]
  exact lexCmp_lt _ _
theorem lex_swo (m : Nat) (X : Nat → List Int) : SWO (ltOf (fun i j : Fin m => lexCmp (X i) (X j))) where
  irrefl i := by rw [ltOf_lex]; exact lexLt_irrefl _
  trans i j k h h' := by rw [ltOf_lex] at *; exact lexLt_trans _ _ _ h h'
  ntrans i j k h h' := by
    rw [ltOf_lex] at *
    cases h2 : lexLt (X i) (X k) with
    | false => rfl
    | true =>
      cases h3 : lexLt (X j) (X i) with
      | true => rw [lexLt_trans _ _ _ h3 h2] at h'; cases h'
      | false => rw [lexLt_total _ _ h h3] at h2; rw [h2] at h'; cases h'

theorem sort_any : SortAll := by
  intro w B V VS L hF hS hN hL hB
  by_cases h0 : L.length = 0
  · obtain rfl : L = [] := List.eq_nil_of_length_eq_zero h0
    obtain ⟨a, cap, rfl, _, _⟩ := hF.head
    have hcon := AnyF.slices_SortFunc_none { Try.sortRows with } a cap (.func (.func 101) #[] #[]) w
    change Calls Try.prog 105 _ _ _ at hcon
    refine hcon.mono ?_
    rintro e w' ⟨rfl, rfl⟩
    exact ⟨rfl, VS, [], hF, hS, List.Pairwise.nil, fun x => Iff.rfl, Below.refl _ _⟩
  · rcases hF.out.2 with ⟨_, h1⟩ | ⟨g, cap, cur, hV, hbg, hg, hc1, hc2, hc3, hc4⟩
    · exact absurd h1 h0
    · have hout := hF.out
      subst hV
      obtain ⟨m, hm⟩ : ∃ m, m = L.length := ⟨_, rfl⟩
      have hmp : 0 < m := by omega
      letI : Inhabited (Fin m) := ⟨⟨0, hmp⟩⟩
      let enc : Fin m → Value := fun i => VS i
      let d : Array (Fin m) := Array.ofFn (fun i : Fin m => i)
      have hds : d.size = L.length := by simp [d, hm]
      have hdl : ∀ i (h : i < d.size), d[i] = ⟨i, by rw [hds, ← hm] at h; exact h⟩ := fun i h => by simp [d]
      have hH : Holds enc w g 0 d := by
        intro j hj
        refine ⟨?_, by simp [World.frozen?, hg]⟩
        rw [Nat.zero_add, hout.cellAt j (by omega), getElem!_pos d j hj, hdl j hj]
        have : j < L.length := by omega
        simp [enc, this]
      have hone : OneCell enc := fun i => by
        have hlt : (i : Nat) < L.length := by have := i.isLt; omega
        obtain ⟨a, c, e, _⟩ := own_len (hF.inn i hlt)
        show (VS i).oneCell' = true
        rw [e]
        rfl
      have hinn : ∀ (n : Nat) (os : Array Obj) (dk : Array (Fin m)) (i : Fin m), (sortWorld enc w g 0 n dk os).ownsRow B 2 1 (VS i) (rowsOf L i).length ((rowsOf L i).map (Value.int .i64)) := fun n os dk i => by
        have hlt : (i : Nat) < L.length := by have := i.isLt; omega
        exact (hF.inn i hlt).kept (grownBy_sortedE enc w g n os dk) (own_types (hF.inn i hlt) hout (by decide))
      have hcmp : CmpLays1 Try.prog 101 #[] enc (fun i j : Fin m => lexCmp (rowsOf L i) (rowsOf L j)) g 0 d.size w := fun n os dk hs x y => by
        refine (slicesCompare_any (VS x) (VS y) (rowsOf L x) (rowsOf L y) _ (rd_of_own (hinn n os dk x) rfl) (rd_of_own (hinn n os dk y) rfl)).mono ?_
        rintro e w' ⟨rfl, rfl⟩
        exact ⟨rfl, 0, #[], by rw [grow_empty]; rfl⟩
      have eg : ∀ args w, (callFunc 101 args).run Try.prog w = .ok (.enter 101 args) w := enters_of Try.func101 (by kernel_rfl) rfl
      have hcon := Any.slices_SortFunc Try.sortRows enc hone _ (lex_swo m (rowsOf L)) 101 #[] g 0 cap d w eg hcmp hH (Array.getElem?_eq_some_iff.1 hg).1 (by omega)
      change Calls Try.prog 105 _ _ _ at hcon
      rw [hds] at hcon
      refine hcon.mono ?_
      rintro e w' ⟨rfl, d', n, os, ⟨hsz, _, hperm⟩, hsort, rfl⟩
      refine ⟨rfl, fun i => enc d'[i]!, d'.toList.map (fun i : Fin m => rowsOf L i), ?_⟩
      have hsz' : d'.size = L.length := by omega
      have hp : d'.toList.Perm d.toList := by
        have e1 : d'.extract 0 L.length = d' := by rw [← hsz']; exact Array.extract_size
        have e2 : d.extract 0 L.length = d := by rw [← hds]; exact Array.extract_size
        rw [e1, e2] at hperm
        exact hperm
      have hdn : d.toList.Nodup := by
        refine List.pairwise_iff_getElem.2 fun i j hi hj hij e => ?_
        rw [Array.getElem_toList, Array.getElem_toList, hdl, hdl] at e
        have := congrArg Fin.val e
        simp only at this
        omega
      have hdn' : d'.toList.Nodup := hp.nodup_iff.2 hdn
      have hget : ∀ i (h : i < d'.size), d'[i]! = d'[i] := fun i h => getElem!_pos d' i h
      have hlen : (d'.toList.map (fun i : Fin m => rowsOf L i)).length = L.length := by simp [hsz']
      have hro : ∀ i (h : i < d'.size), rowsOf (d'.toList.map (fun i : Fin m => rowsOf L i)) i = rowsOf L d'[i] := fun i h => by
        unfold rowsOf
        simp [h]
      have hinj : ∀ i j (hi : i < d'.size) (hj : j < d'.size), d'[i] = d'[j] → i = j := fun i j hi hj e => by
        have := nodup_at hdn' i j (by simpa using hi) (by simpa using hj) (by simpa using e)
        exact this
      refine ⟨⟨?_, ?_⟩, ?_, ?_, ?_, ?_⟩
      · rw [hlen]
        refine ⟨by simp, .inr ⟨g, cap, _, rfl, hbg, heap_sortedE enc d' hg, hc1, hc2, by simp [putCells, hc3], ?_⟩⟩
        rw [Nat.mul_one, ← hsz', take_putCellsE enc cur d' (by omega)]
        apply List.ext_getElem
        · simp
        · intro i h1 h2
          have h3 : i < d'.size := by simpa using h1
          simp [hget i h3]
      · intro i hi
        have h3 : i < d'.size := by omega
        rw [hro i h3]
        show World.ownsRow _ _ _ _ (enc d'[i]!) _ _
        rw [hget i h3]
        exact hinn n os d' d'[i]
      · intro i j hi hj hij
        have h3 : i < d'.size := by omega
        have h4 : j < d'.size := by omega
        show (enc d'[i]!).ownBlock = none ∨ (enc d'[i]!).ownBlock ≠ (enc d'[j]!).ownBlock
        rw [hget i h3, hget j h4]
        refine hS d'[i] d'[j] (by have := d'[i].isLt; omega) (by have := d'[j].isLt; omega) fun e => hij (hinj i j h3 h4 (Fin.ext e))
      · refine List.pairwise_iff_getElem.2 fun i j hi hj hij => ?_
        have h3 : i < d'.size := by omega
        have h4 : j < d'.size := by omega
        have hs := hsort i j (Nat.zero_le _) hij (by omega)
        rw [hget i h3, hget j h4, ltOf_lex] at hs
        simp only [List.getElem_map, Array.getElem_toList]
        cases h5 : lexLt (rowsOf L d'[i]) (rowsOf L d'[j]) with
        | true => rfl
        | false =>
          have h6 := lexLt_total _ _ h5 hs
          have h7 := rows_inj hN d'[i] d'[j] (by have := d'[i].isLt; omega) (by have := d'[j].isLt; omega) h6
          have := hinj i j h3 h4 (Fin.ext h7)
          omega
      · intro x
        rw [List.mem_map]
        constructor
        · rintro ⟨i, _, rfl⟩
          have hlt : (i : Nat) < L.length := by have := i.isLt; omega
          unfold rowsOf
          rw [List.getElem?_eq_getElem hlt]
          exact List.getElem_mem hlt
        · intro hx
          obtain ⟨i, hi, e⟩ := List.getElem_of_mem hx
          refine ⟨⟨i, by omega⟩, hp.mem_iff.2 ?_, ?_⟩
          · have h5 : i < d.size := by omega
            have := List.getElem_mem (l := d.toList) (n := i) (by simpa using h5)
            rw [Array.getElem_toList, hdl i h5] at this
            exact this
          · unfold rowsOf
            rw [List.getElem?_eq_getElem hi]
            exact e
      · exact (Below.refl B w).grown (grownBy_sortedE enc w g n os d') hB (fun k hk => by cases hk; exact hbg)
end Go.Proofs.Ytnmilkehggjpfaa
end
