/-
  Rows of series: impl's admit, exclude and seriesOfOne, and spec.l07Series.
-/
import Derived.Test.YtcbfcpngpnlodaaQSer
import Derived.Test.YtcbfcpngpnlodaaQTop
import Derived.Test.YtcbfcpngpnlodaaQBase
import Derived.BigRegion
namespace Go.Proofs.Ytcbfcpngpnlodaa
open Go.RowKit
set_option linter.unusedVariables false
set_option maxRecDepth 100000

theorem wrap_wrap_add (a b : Int) : wrap64 (wrap64 a + wrap64 b) = wrap64 (a + b) := by unfold wrap64; omega
theorem wrap_wrap_sub (a b : Int) : wrap64 (wrap64 a - wrap64 b) = wrap64 (a - b) := by unfold wrap64; omega

/-- The numbers of a series up to degree d as 64 bits hold them. -/
def repS (d : Nat) (s : Nat → Int) : List Int := (List.range (d + 1)).map fun n => wrap64 (s n)
theorem repS_len (d : Nat) (s : Nat → Int) : (repS d s).length = d + 1 := by simp [repS]
theorem repS_at (d : Nat) (s : Nat → Int) (n : Nat) (h : n ≤ d) : (repS d s)[n]?.getD 0 = wrap64 (s n) := by
  unfold repS
  rw [List.getElem?_map, List.getElem?_range (by omega)]
  rfl
theorem repS_congr {d : Nat} {s t : Nat → Int} (h : AgS d s t) : repS d s = repS d t :=
  List.map_congr_left fun n hn => by rw [h n (by have := List.mem_range.1 hn; omega)]
theorem repS_set (d : Nat) (s t : Nat → Int) (k : Nat) (x : Int) (hk : k ≤ d) (hx : x = wrap64 (t k)) (h : ∀ n, n ≤ d → n ≠ k → s n = t n) : (repS d s).set k x = repS d t := by
  apply List.ext_getElem
  · rw [List.length_set, repS_len, repS_len]
  · intro n h1 h2
    rw [List.getElem_set]
    rw [List.length_set, repS_len] at h1
    by_cases e : k = n
    · subst e
      rw [if_pos rfl, hx]
      simp [repS]
    · rw [if_neg e]
      simp only [repS, List.getElem_map, List.getElem_range]
      rw [h n (by omega) (fun h => e h.symm)]
/-- A row that was made, with 1 in its first place. -/
theorem repS_one (d : Nat) : (List.replicate (d + 1) (0 : Int)).set 0 1 = repS d oneS := by
  apply List.ext_getElem
  · simp [repS]
  · intro n h1 h2
    rw [List.getElem_set]
    simp only [repS, List.getElem_map, List.getElem_range, List.getElem_replicate]
    unfold oneS
    by_cases e : n = 0
    · subst e; rw [if_pos rfl]; unfold wrap64; omega
    · rw [if_neg (fun h => e h.symm), if_neg e]; unfold wrap64; omega

/-- The row in block g has the series s. -/
def RowS (w : World) (B g d cap : Nat) (s : Nat → Int) : Prop := w.ownsRow B 2 1 (.slice (some ⟨g, 0, none⟩) (d + 1) cap) (d + 1) ((repS d s).map (Value.int .i64))
theorem RowS.cell {w : World} {B g d cap : Nat} {s : Nat → Int} (h : RowS w B g d cap s) (n : Nat) (hn : n ≤ d) : w.cell? ⟨g, n, none⟩ = some (.int .i64 (wrap64 (s n))) := by
  rw [own_cell h n (by omega), repS_at d s n hn]
theorem RowS.set {w : World} {B g d cap : Nat} {s t : Nat → Int} (h : RowS w B g d cap s) (k : Nat) (x : Int) (hk : k ≤ d) (hx : x = wrap64 (t k)) (ht : ∀ n, n ≤ d → n ≠ k → s n = t n) : RowS (w.setCell ⟨g, k, none⟩ (.int .i64 x)) B g d cap t := by
  have h1 := (World.ownsRow.stored h k (.int .i64 x)).1
  rw [← List.map_set, repS_set d s t k x hk hx ht] at h1
  exact h1
theorem RowS.congr {w : World} {B g d cap : Nat} {s t : Nat → Int} (h : RowS w B g d cap s) (e : AgS d s t) : RowS w B g d cap t := by
  unfold RowS at *; rw [← repS_congr e]; exact h
/-- What a call that writes the row leaves: the row, and all else. -/
def RowPost (B g d cap : Nat) (t : Nat → Int) (w : World) (e : Ending) (w' : World) : Prop := e = .returned (.tuple #[]) ∧ RowS w' B g d cap t ∧ w.grownBy w' (some g) ∧ w'.heap.size = w.heap.size

/-- The state of admit: the places below k are done. -/
def midA (p : Nat) (s : Nat → Int) (k n : Nat) : Int := if n < k then admS p s n else s n
theorem grown_set {w0 w : World} {g : Nat} (h : w0.grownBy w (some g)) (j : Nat) (v : Value) : w0.grownBy (w.setCell ⟨g, j, none⟩ v) (some g) :=
  ⟨h.os, h.tape, h.output, by have := h.size; simpa [World.setCell] using this, fun i hi hne => by
    have h1 := h.block i hi hne
    rw [← h1]
    exact Below.heap_setCell _ _ _ _ (fun e => hne (by rw [e]))⟩
theorem grown_drew {w0 w : World} {row : Option Nat} (h : w0.grownBy w row) : w0.grownBy w.drew row := ⟨h.os, h.tape, h.output, h.size, h.block⟩
theorem grown_refl (w : World) (row : Option Nat) : w.grownBy w row := ⟨rfl, rfl, rfl, Nat.le_refl _, fun _ _ _ => rfl⟩

set_option maxHeartbeats 1000000 in
theorem admit_any (B g d cap p : Nat) (s : Nat → Int) (w : World) (hd : d ≤ 1000) (hp : 0 < p) (hp2 : p ≤ 1000000000000) (h : RowS w B g d cap s) :
    Calls Try.prog 81 #[.slice (some ⟨g, 0, none⟩) (d + 1) cap, .int .i64 p] w (RowPost B g d cap (admS p s) w) := by
  have H := Lib.hid h
  clear h
  go_enter Try.func81, Try.ntmps81
  go_wp2
  go_loopw [4] (fun c wr => ∃ m : Nat, (m = 0 ∨ p + m ≤ d + 1) ∧ c = .int .i64 ((p : Int) + (m : Int)) ∧ Hid (RowS wr B g d cap (midA p s (p + m))) ∧ w.grownBy wr (some g) ∧ Hid (wr.heap.size = w.heap.size)) (fun c _ => d + 1 - (intOf c).toNat)
  case atStart => exact ⟨0, .inl rfl, by simp, Lib.hid (H.out.congr fun n hn => by
    unfold midA
    split
    · rw [admS_low s (by omega)]
    · rfl), grown_refl _ _, Lib.hid rfl⟩
  case round =>
    clear H
    obtain ⟨m, hm, rfl, ho, hg, hsz⟩ := hrel
    by_cases hlt : p + m ≤ d
    · have c1 := ho.out.cell (p + m) hlt
      have c2 := ho.out.cell m (by omega)
      have f1 := World.ownsRow.frozenAt ho.out (p + m)
      have e1 : midA p s (p + m) (p + m) = s (p + m) := if_neg (Nat.lt_irrefl _)
      have e2 : midA p s (p + m) m = admS p s m := if_pos (by omega)
      rw [e1] at c1
      rw [e2] at c2
      have hst : Hid (RowS (wr.setCell ⟨g, p + m, none⟩ (.int .i64 (wrap64 (wrap64 (s (p + m)) + wrap64 (admS p s m))))) B g d cap (midA p s (p + (m + 1)))) := Lib.hid (ho.out.set (p + m) _ hlt
        (by unfold midA; rw [if_pos (by omega), admS_up (n := p + m) s hp (by omega), show p + m - p = m by omega, wrap_wrap_add])
        (fun n hn hne => by unfold midA; by_cases c : n < p + m
                            · rw [if_pos c, if_pos (by omega)]
                            · rw [if_neg c, if_neg (by omega)]))
      have hg2 := Lib.hid (grown_set hg (p + m) (.int .i64 (wrap64 (wrap64 (s (p + m)) + wrap64 (admS p s m)))))
      have hsz2 : Hid ((wr.setCell ⟨g, p + m, none⟩ (.int .i64 (wrap64 (wrap64 (s (p + m)) + wrap64 (admS p s m))))).heap.size = w.heap.size) := Lib.hid (by rw [← hsz.out]; simp [World.setCell])
      clear ho hg hsz e1 e2 hm
      generalize wrap64 (s (p + m)) = x at *
      generalize wrap64 (admS p s m) = y at *
      have hlt' : (p : Int) + (m : Int) < (d : Int) + 1 := by omega
      have hlt2 : (m : Int) < (d : Int) + 1 := by omega
      go_wp2
      go_region
      go_wp2
      go_roundw
      case rel => exact ⟨m + 1, .inr (by omega), by go_num, hst, grown_drew hg2.out, hsz2⟩
      case measure => simp [intOf]; omega
    · have hlt' : ¬ (p : Int) + (m : Int) < (d : Int) + 1 := by omega
      have F1 : Hid (RowS wr B g d cap (admS p s)) := Lib.hid (ho.out.congr fun n hn => by unfold midA; rw [if_pos (by omega)])
      clear ho
      go_wp2
      refine bodyPost_ret (results_none rfl _ _ _) rfl ?_
      exact ⟨rfl, F1.out, hg, hsz.out⟩

/-- The state of a loop that goes down: the places from k on are done (c: 1 or -1). -/
def midD (c : Int) (p : Nat) (s : Nat → Int) (k n : Nat) : Int := if k ≤ n then s n + c * shS p s n else s n
theorem midD_exc (p : Nat) (s : Nat → Int) (n : Nat) : midD (-1) p s p n = excS p s n := by
  unfold midD excS shS
  by_cases h : p ≤ n
  · rw [if_pos h, if_pos h]; omega
  · rw [if_neg h, if_neg h]; omega
theorem midD_mul (p : Nat) (s : Nat → Int) (n : Nat) : midD 1 p s p n = mulS p s n := by
  unfold midD mulS shS
  by_cases h : p ≤ n
  · rw [if_pos h, if_pos h]; omega
  · rw [if_neg h, if_neg h]; omega
theorem midD_step {c : Int} {p d m : Nat} {s : Nat → Int} {x : Int} {w : World} {B g cap : Nat} (h : RowS w B g d cap (midD c p s (p + (m + 1)))) (hlt : p + m ≤ d) (hx : x = wrap64 (s (p + m) + c * s m)) :
    RowS (w.setCell ⟨g, p + m, none⟩ (.int .i64 x)) B g d cap (midD c p s (p + m)) := by
  refine h.set (p + m) x hlt ?_ ?_
  · unfold midD shS
    rw [if_pos (Nat.le_refl _), if_pos (by omega), show p + m - p = m by omega]
    exact hx
  · intro n hn hne
    unfold midD
    by_cases e : p + m ≤ n
    · rw [if_pos (by omega), if_pos e]
    · rw [if_neg (by omega), if_neg e]

set_option maxHeartbeats 1000000 in
theorem exclude_any (B g d cap p : Nat) (s : Nat → Int) (w : World) (hd : d ≤ 1000) (hp : 0 < p) (hp2 : p ≤ 1000000000000) (h : RowS w B g d cap s) :
    Calls Try.prog 82 #[.slice (some ⟨g, 0, none⟩) (d + 1) cap, .int .i64 p] w (RowPost B g d cap (excS p s) w) := by
  have H := Lib.hid h
  clear h
  by_cases hpd : p ≤ d
  · go_enter Try.func82, Try.ntmps82
    go_wp2
    go_loopw [4] (fun c wr => ∃ m : Nat, p + m ≤ d + 1 ∧ c = .int .i64 ((p : Int) + (m : Int) - 1) ∧ Hid (RowS wr B g d cap (midD (-1) p s (p + m))) ∧ w.grownBy wr (some g) ∧ Hid (wr.heap.size = w.heap.size)) (fun c _ => (intOf c + 1).toNat)
    case atStart => exact ⟨d + 1 - p, by omega, by go_num, Lib.hid (H.out.congr fun n hn => by unfold midD; rw [if_neg (by omega)]), grown_refl _ _, Lib.hid rfl⟩
    case round =>
      clear H
      obtain ⟨m, hm, rfl, ho, hg, hsz⟩ := hrel
      cases m with
      | zero =>
        have F1 : Hid (RowS wr B g d cap (excS p s)) := Lib.hid (ho.out.congr fun n hn => midD_exc p s n)
        have hlt' : ¬ (p : Int) ≤ (p : Int) + ((0 : Nat) : Int) - 1 := by omega
        clear ho
        go_wp2
        refine bodyPost_ret (results_none rfl _ _ _) rfl ?_
        exact ⟨rfl, F1.out, hg, hsz.out⟩
      | succ m =>
        have e0 : (p : Int) + ((m + 1 : Nat) : Int) - 1 = (p : Int) + (m : Int) := by omega
        rw [e0]
        clear e0
        have c1 := ho.out.cell (p + m) (by omega)
        have c2 := ho.out.cell m (by omega)
        have f1 := World.ownsRow.frozenAt ho.out (p + m)
        have e1 : midD (-1) p s (p + (m + 1)) (p + m) = s (p + m) := if_neg (by omega)
        have e2 : midD (-1) p s (p + (m + 1)) m = s m := if_neg (by omega)
        rw [e1] at c1
        rw [e2] at c2
        have hst : Hid (RowS (wr.setCell ⟨g, p + m, none⟩ (.int .i64 (wrap64 (wrap64 (s (p + m)) - wrap64 (s m))))) B g d cap (midD (-1) p s (p + m))) := Lib.hid (midD_step ho.out (by omega) (by rw [wrap_wrap_sub]; congr 1; omega))
        have hg2 := Lib.hid (grown_set hg (p + m) (.int .i64 (wrap64 (wrap64 (s (p + m)) - wrap64 (s m)))))
        have hsz2 : Hid ((wr.setCell ⟨g, p + m, none⟩ (.int .i64 (wrap64 (wrap64 (s (p + m)) - wrap64 (s m))))).heap.size = w.heap.size) := Lib.hid (by rw [← hsz.out]; simp [World.setCell])
        clear ho hg hsz e1 e2
        generalize wrap64 (s (p + m)) = x at *
        generalize wrap64 (s m) = y at *
        have hlt' : (p : Int) + (m : Int) < (d : Int) + 1 := by omega
        have hge : (p : Int) ≤ (p : Int) + (m : Int) := by omega
        have hlt2 : (m : Int) < (d : Int) + 1 := by omega
        go_wp2
        go_region
        go_wp2
        go_roundw
        case rel => exact ⟨m, by omega, by go_num, hst, grown_drew hg2.out, hsz2⟩
        case measure => simp [intOf]; omega
  · have F1 : Hid (RowS w B g d cap (excS p s)) := Lib.hid (H.out.congr fun n hn => by unfold excS shS; rw [if_neg (by omega)]; omega)
    have hlt' : ¬ (p : Int) ≤ (d : Int) := by omega
    clear H
    go_enter Try.func82, Try.ntmps82
    go_wp2
    refine wp_loop_rounds 1 ?_
    rw [rounds_succ]
    go_wp2
    refine bodyPost_ret (results_none rfl _ _ _) rfl ?_
    exact ⟨rfl, F1.out, grown_refl _ _, rfl⟩
end Go.Proofs.Ytcbfcpngpnlodaa
