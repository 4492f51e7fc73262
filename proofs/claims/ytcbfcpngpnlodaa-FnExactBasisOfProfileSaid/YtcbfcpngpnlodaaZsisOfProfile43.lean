/-
  Joined: KSort.
-/
import Derived.Test.YtcbfcpngpnlodaaZsisOfProfile41
import Derived.Test.YtcbfcpngpnlodaaZsisOfProfile42
section
namespace Go.Proofs.Ytcbfcpngpnlodaa
open Go.RowKit Go.Lib
open Go.Sort hiding Below
set_option linter.unusedVariables false
set_option maxRecDepth 100000

theorem heap_sortedE {α : Type} [Inhabited α] (enc : α → Value) {w : World} {g n : Nat} {os : Array Obj} {cur : Array Value} {e : TypeId} {fr : Nat × Nat} (d : Array α) (hb : w.heap[g]? = some (.cells cur e fr)) :
    (sortWorld enc w g 0 n d os).heap[g]? = some (.cells (putCells enc 0 d cur) e fr) := by
  have hg : g < w.heap.size := (Array.getElem?_eq_some_iff.1 hb).1
  unfold sortWorld
  rw [heap_grow_old _ _ (by simpa using hg)]
  simp [putRow, mapBlock, Sort.ahead, Array.getElem?_modify, hb, onCells]

theorem grownBy_sortedE {α : Type} [Inhabited α] (enc : α → Value) (w : World) (g n : Nat) (os : Array Obj) (d : Array α) : w.grownBy (sortWorld enc w g 0 n d os) (some g) := by
  unfold sortWorld
  refine ⟨rfl, rfl, rfl, by simp, fun k hk hne => ?_⟩
  rw [heap_grow_old _ _ (by simpa using hk)]
  have : g ≠ k := fun e => hne (by rw [e])
  simp [putRow, mapBlock, Sort.ahead, Array.getElem?_modify, this]

theorem take_putCellsE {α : Type} [Inhabited α] (enc : α → Value) (cur : Array Value) (d : Array α) (h : d.size ≤ cur.size) : (putCells enc 0 d cur).toList.take d.size = d.toList.map enc := by
  apply List.ext_getElem?
  intro j
  by_cases hj : j < d.size
  · rw [List.getElem?_take_of_lt hj, Array.getElem?_toList]
    simp [putCells, hj, show j < cur.size by omega]
  · rw [List.getElem?_take_eq_none (by omega), List.getElem?_eq_none (by simp; omega)]

theorem nodup_at {α : Type} {l : List α} (h : l.Nodup) (i j : Nat) (hi : i < l.length) (hj : j < l.length) (e : l[i] = l[j]) : i = j := by
  have hp := List.pairwise_iff_getElem.1 h
  rcases Nat.lt_trichotomy i j with h1 | h1 | h1
  · exact absurd e (hp i j hi hj h1)
  · exact h1
  · exact absurd e.symm (hp j i hj hi h1)

theorem rows_inj {L : List (List Int)} (hN : L.Nodup) (i j : Nat) (hi : i < L.length) (hj : j < L.length) (h : rowsOf L i = rowsOf L j) : i = j := by
  unfold rowsOf at h
  rw [List.getElem?_eq_getElem hi, List.getElem?_eq_getElem hj] at h
  exact nodup_at hN i j hi hj (by simpa using h)

theorem ltOf_lex {m : Nat} (X : Nat → List Int) (i j : Fin m) : ltOf (fun i j : Fin m => lexCmp (X i) (X j)) i j = lexLt (X i) (X j) := by
  unfold ltOf
  rw [Bool.eq_iff_iff, decide_eq_true_iff]
  exact lexCmp_lt _ _
theorem lex_swo (m : Nat) (X : Nat → List Int) : SWO (ltOf (fun i j : Fin m => lexCmp (X i) (X j))) where
  irrefl i := by rw [ltOf_lex]; exact lexLt_irrefl _
  trans i j k h h' := by rw [ltOf_lex] at *; exact lexLt_trans _ _ _ h h'
  ntrans i j k h h' := by
    rw [ltOf_lex] at *
    cases h2 : lexLt (X i) (X k) with
    | false => rfl
    | true =>
      cases h3 : lexLt (X j) (X i) with
      | true => rw [lexLt_trans _ _ _ h3 h2] at h'; cases h'
      | false => rw [lexLt_total _ _ h h3] at h2; rw [h2] at h'; cases h'

theorem sort_any : SortAll := by
  intro w B V VS L hF hS hN hL hB
  by_cases h0 : L.length = 0
  · obtain rfl : L = [] := List.eq_nil_of_length_eq_zero h0
    obtain ⟨a, cap, rfl, _, _⟩ := hF.head
    have hcon := AnyF.slices_SortFunc_none { Try.sortRows with } a cap (.func (.func 75) #[] #[]) w
    change Calls Try.prog 74 _ _ _ at hcon
    refine hcon.mono ?_
    rintro e w' ⟨rfl, rfl⟩
    exact ⟨rfl, VS, [], hF, hS, List.Pairwise.nil, fun x => Iff.rfl, Below.refl _ _⟩
  · rcases hF.out.2 with ⟨_, h1⟩ | ⟨g, cap, cur, hV, hbg, hg, hc1, hc2, hc3, hc4⟩
    · exact absurd h1 h0
    · have hout := hF.out
      subst hV
      obtain ⟨m, hm⟩ : ∃ m, m = L.length := ⟨_, rfl⟩
      have hmp : 0 < m := by omega
      letI : Inhabited (Fin m) := ⟨⟨0, hmp⟩⟩
      let enc : Fin m → Value := fun i => VS i
      let d : Array (Fin m) := Array.ofFn (fun i : Fin m => i)
      have hds : d.size = L.length := by simp [d, hm]
      have hdl : ∀ i (h : i < d.size), d[i] = ⟨i, by rw [hds, ← hm] at h; exact h⟩ := fun i h => by simp [d]
      have hH : Holds enc w g 0 d := by
        intro j hj
        refine ⟨?_, by simp [World.frozen?, hg]⟩
        rw [Nat.zero_add, hout.cellAt j (by omega), getElem!_pos d j hj, hdl j hj]
        have : j < L.length := by omega
        simp [enc, this]
      have hone : OneCell enc := fun i => by
        have hlt : (i : Nat) < L.length := by have := i.isLt; omega
        obtain ⟨a, c, e, _⟩ := own_len (hF.inn i hlt)
        show (VS i).oneCell' = true
        rw [e]
        rfl
      have hinn : ∀ (n : Nat) (os : Array Obj) (dk : Array (Fin m)) (i : Fin m), (sortWorld enc w g 0 n dk os).ownsRow B 2 1 (VS i) (rowsOf L i).length ((rowsOf L i).map (Value.int .i64)) := fun n os dk i => by
        have hlt : (i : Nat) < L.length := by have := i.isLt; omega
        exact (hF.inn i hlt).kept (grownBy_sortedE enc w g n os dk) (own_types (hF.inn i hlt) hout (by decide))
      have hcmp : CmpLays1 Try.prog 75 #[] enc (fun i j : Fin m => lexCmp (rowsOf L i) (rowsOf L j)) g 0 d.size w := fun n os dk hs x y => by
        refine (slicesCompare_any (VS x) (VS y) (rowsOf L x) (rowsOf L y) _ (rd_of_own (hinn n os dk x) rfl) (rd_of_own (hinn n os dk y) rfl)).mono ?_
        rintro e w' ⟨rfl, rfl⟩
        exact ⟨rfl, 0, #[], by rw [grow_empty]; rfl⟩
      have eg : ∀ args w, (callFunc 75 args).run Try.prog w = .ok (.enter 75 args) w := enters_of Try.func75 (by kernel_rfl) rfl
      have hcon := Any.slices_SortFunc Try.sortRows enc hone _ (lex_swo m (rowsOf L)) 75 #[] g 0 cap d w eg hcmp hH (Array.getElem?_eq_some_iff.1 hg).1 (by omega)
      change Calls Try.prog 74 _ _ _ at hcon
      rw [hds] at hcon
      refine hcon.mono ?_
      rintro e w' ⟨rfl, d', n, os, ⟨hsz, _, hperm⟩, hsort, rfl⟩
      refine ⟨rfl, fun i => enc d'[i]!, d'.toList.map (fun i : Fin m => rowsOf L i), ?_⟩
      have hsz' : d'.size = L.length := by omega
      have hp : d'.toList.Perm d.toList := by
        have e1 : d'.extract 0 L.length = d' := by rw [← hsz']; exact Array.extract_size
        have e2 : d.extract 0 L.length = d := by rw [← hds]; exact Array.extract_size
        rw [e1, e2] at hperm
        exact hperm
      have hdn : d.toList.Nodup := by
        refine List.pairwise_iff_getElem.2 fun i j hi hj hij e => ?_
        rw [Array.getElem_toList, Array.getElem_toList, hdl, hdl] at e
        have := congrArg Fin.val e
        simp only at this
        omega
      have hdn' : d'.toList.Nodup := hp.nodup_iff.2 hdn
      have hget : ∀ i (h : i < d'.size), d'[i]! = d'[i] := fun i h => getElem!_pos d' i h
      have hlen : (d'.toList.map (fun i : Fin m => rowsOf L i)).length = L.length := by simp [hsz']
      have hro : ∀ i (h : i < d'.size), rowsOf (d'.toList.map (fun i : Fin m => rowsOf L i)) i = rowsOf L d'[i] := fun i h => by
        unfold rowsOf
        simp [h]
      have hinj : ∀ i j (hi : i < d'.size) (hj : j < d'.size), d'[i] = d'[j] → i = j := fun i j hi hj e => by
        have := nodup_at hdn' i j (by simpa using hi) (by simpa using hj) (by simpa using e)
        exact this
      refine ⟨⟨?_, ?_⟩, ?_, ?_, ?_, ?_⟩
      · rw [hlen]
        refine ⟨by simp, .inr ⟨g, cap, _, rfl, hbg, heap_sortedE enc d' hg, hc1, hc2, by simp [putCells, hc3], ?_⟩⟩
        rw [Nat.mul_one, ← hsz', take_putCellsE enc cur d' (by omega)]
        apply List.ext_getElem
        · simp
        · intro i h1 h2
          have h3 : i < d'.size := by simpa using h1
          simp [hget i h3]
      · intro i hi
        have h3 : i < d'.size := by omega
        rw [hro i h3]
        show World.ownsRow _ _ _ _ (enc d'[i]!) _ _
        rw [hget i h3]
        exact hinn n os d' d'[i]
      · intro i j hi hj hij
        have h3 : i < d'.size := by omega
        have h4 : j < d'.size := by omega
        show (enc d'[i]!).ownBlock = none ∨ (enc d'[i]!).ownBlock ≠ (enc d'[j]!).ownBlock
        rw [hget i h3, hget j h4]
        refine hS d'[i] d'[j] (by have := d'[i].isLt; omega) (by have := d'[j].isLt; omega) fun e => hij (hinj i j h3 h4 (Fin.ext e))
      · refine List.pairwise_iff_getElem.2 fun i j hi hj hij => ?_
        have h3 : i < d'.size := by omega
        have h4 : j < d'.size := by omega
        have hs := hsort i j (Nat.zero_le _) hij (by omega)
        rw [hget i h3, hget j h4, ltOf_lex] at hs
        simp only [List.getElem_map, Array.getElem_toList]
        cases h5 : lexLt (rowsOf L d'[i]) (rowsOf L d'[j]) with
        | true => rfl
        | false =>
          have h6 := lexLt_total _ _ h5 hs
          have h7 := rows_inj hN d'[i] d'[j] (by have := d'[i].isLt; omega) (by have := d'[j].isLt; omega) h6
          have := hinj i j h3 h4 (Fin.ext h7)
          omega
      · intro x
        rw [List.mem_map]
        constructor
        · rintro ⟨i, _, rfl⟩
          have hlt : (i : Nat) < L.length := by have := i.isLt; omega
          unfold rowsOf
          rw [List.getElem?_eq_getElem hlt]
          exact List.getElem_mem hlt
        · intro hx
          obtain ⟨i, hi, e⟩ := List.getElem_of_mem hx
          refine ⟨⟨i, by omega⟩, hp.mem_iff.2 ?_, ?_⟩
          · have h5 : i < d.size := by omega
            have := List.getElem_mem (l := d.toList) (n := i) (by simpa using h5)
            rw [Array.getElem_toList, hdl i h5] at this
            exact this
          · unfold rowsOf
            rw [List.getElem?_eq_getElem hi]
            exact e
      · exact (Below.refl B w).grown (grownBy_sortedE enc w g n os d') hB (fun k hk => by cases hk; exact hbg)
end Go.Proofs.Ytcbfcpngpnlodaa
end
