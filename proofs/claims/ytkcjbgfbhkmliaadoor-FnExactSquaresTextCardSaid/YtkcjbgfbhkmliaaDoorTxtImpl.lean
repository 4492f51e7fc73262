/-
  impl.textOfWord; strings in new rows; strings.Join over them.
-/
import Derived.Test.YtkcjbgfbhkmliaaDoorTxtSpec
import Derived.Test.YtkcjbgfbhkmliaaDoorWArgs
import Derived.Test.YtkcjbgfbhkmliaaDoorKStr
namespace Go.Proofs.YtkcjbgfbhkmliaaDoor
open Go.RowKit
set_option linter.unusedVariables false
set_option maxRecDepth 100000

theorem Tryd.infoStr : (Tryd.prog.info? 9).map (fun i => (i.zero, i.size, i.bytes)) = some (some (.string ⟨#[]⟩), 1, 16) := by kernel_rfl

/-- n strings, the first j of which are f 0, .. and the others empty. -/
def strs (f : Nat → List UInt8) (n j : Nat) : List Value := (List.range n).map fun i => Value.string (S (if i < j then f i else []))
theorem strs_length (f : Nat → List UInt8) (n j : Nat) : (strs f n j).length = n := by simp [strs]
theorem strs_set (f : Nat → List UInt8) (n j : Nat) : (strs f n j).set j (.string (S (f j))) = strs f n (j + 1) := by
  apply List.ext_getElem
  · simp [strs]
  · intro i h1 h2
    simp only [strs, List.getElem_set, List.getElem_map, List.getElem_range]
    by_cases e : j = i
    · subst e; rw [if_pos rfl, if_pos (by omega)]
    · rw [if_neg e]
      by_cases h : i < j
      · rw [if_pos h, if_pos (by omega)]
      · rw [if_neg h, if_neg (by omega)]
theorem strs_zero (f : Nat → List UInt8) (n : Nat) : strs f n 0 = List.replicate n (.string ⟨#[]⟩) := by
  apply List.ext_getElem
  · simp [strs]
  · intro i h1 h2; simp [strs, S]
theorem strs_get (f : Nat → List UInt8) (n j i : Nat) (h : i < n) : (strs f n j)[i]? = some (.string (S (if i < j then f i else []))) := by
  simp [strs, h]
theorem made_strs (n : Nat) : (madeCells (Value.cells (.string ⟨#[]⟩)) (n * 1)).toList = List.replicate n (.string ⟨#[]⟩) := by
  rw [Nat.mul_one]
  exact toList_madeCells_one _ _

theorem join_row {w : World} {B g n cap : Nat} (f : Nat → List UInt8) (c : UInt8) (h : w.ownsRow B 9 1 (.slice (some ⟨g, 0, none⟩) n cap) n (strs f n n)) (hn : n ≤ 100000) (hl : (Lib.join ((List.range n).map f) [c]).length ≤ 1000000) :
    Calls Tryd.prog 21 #[.slice (some ⟨g, 0, none⟩) n cap, .string ⟨#[c]⟩] w fun e w' => e = .returned (.string (S (Lib.join ((List.range n).map f) [c]))) ∧ Below w.heap.size w w' := by
  have hg := (h.lt g rfl).2
  have hcap : n ≤ cap := by
    rcases h.2 with ⟨e, _⟩ | ⟨g', cap', cur, e, _, _, h1, _⟩
    · cases e
    · cases e; exact h1
  have e1 : ((List.range n).map fun i => S (f i)).map (·.data.toList) = (List.range n).map f := by
    rw [List.map_map]
    apply List.map_congr_left
    intro i _
    rfl
  have J := Go.Proofs.Tryd.strings_Join g 0 cap ((List.range n).map fun i => S (f i)) ⟨#[c]⟩ w (fun j x hx => by
    rw [List.getElem?_map] at hx
    have hj : j < n := by
      rcases Nat.lt_or_ge j n with hj | hj
      · exact hj
      · rw [List.getElem?_eq_none (by simpa using hj)] at hx; cases hx
    rw [List.getElem?_range hj] at hx
    cases Option.some.inj hx
    rw [Nat.zero_add, h.cellAt j (by omega), strs_get f n n j hj, if_pos hj]) hg (by simp; omega) (by simpa using hcap) (by rw [e1]; exact Nat.le_trans hl (by omega))
  have hlen : ((List.range n).map fun i => S (f i)).length = n := by simp
  rw [hlen, e1] at J
  exact J

theorem fmt_any (x : Int) (h0 : 0 ≤ x) (h1 : x < 100) (w : World) :
    Calls Tryd.prog 38 #[.int .i64 x, .int .i64 10] w fun e w' => e = .returned (.string (S (decT x))) ∧ w = w' := by
  obtain ⟨k, rfl⟩ := Int.eq_ofNat_of_zero_le h0
  exact (Go.Proofs.Tryd.strconv_FormatInt_10_small k (by omega) w).mono fun e w' ⟨he, hw⟩ => ⟨by rw [he]; rfl, hw.symm⟩

theorem textWord_none (a : Option Addr) (cap : Nat) (w : World) :
    Calls Tryd.prog 20 #[.slice a 0 cap] w fun e w' => e = .returned (.string (S (wordT []))) ∧ Below w.heap.size w w' := by
  go_enter Tryd.func20, Tryd.ntmps20
  go_wp2
  go_ret
  exact ⟨rfl, Below.refl _ _⟩

theorem textWord_some (v : Value) (l : List Int) (w : World) (h : RdI w v l.length (fun j => l[j]?.getD 0)) (h0 : 0 < l.length) (hs : Small l) :
    Calls Tryd.prog 20 #[v] w fun e w' => e = .returned (.string (S (wordT l))) ∧ Below w.heap.size w w' := by
  obtain ⟨i0, hi, hz0, hz1, hz2⟩ := info_parts Tryd.infoStr
  obtain ⟨a, cap, rfl, hm, hc⟩ := h
  obtain ⟨b, off, rfl, hcell⟩ := hc.resolve_left (by omega)
  have HC := Lib.hid hcell
  have HS := Lib.hid hs
  have hb : b < w.heap.size := World.block_lt_of_cell? w ⟨b, off + 0, none⟩ (hcell 0 h0)
  have hl20 := hs.1
  have WT : Hid (wordT l = Lib.join ((List.range l.length).map fun j => letT (l.getD j 0)) [32]) := Lib.hid (wordT_pos (by omega))
  have WL := Lib.hid (wordT_len hs)
  have hz : ((l.length : Int) == 0) = false := by rw [beq_eq_false_iff_ne]; omega
  obtain ⟨f, hf⟩ : ∃ f : Nat → List UInt8, (fun j => letT (l.getD j 0)) = f := ⟨_, rfl⟩
  have HF : Hid (∀ j, f j = letT (l.getD j 0)) := Lib.hid fun j => by rw [← hf]
  rw [hf] at WT
  rw [WT.out] at WL
  generalize hn : l.length = n at *
  clear hf hc hcell hs
  go_enter Tryd.func20, Tryd.ntmps20
  go_wp2_with (at_make; refine wpList_make_full _ rfl _ _ 41 rfl w.heap.size 9 i0 (.string ⟨#[]⟩) 1 Tryd.underlying41 hi hz0 hz1 .i64 .i64 (n : Int) (n : Int) n rfl rfl rfl rfl (by rw [hz2]; omega) (by unfold maxLen; omega) (Nat.le_refl _) ?_; intro w1 hown hgrow; rw [made_strs, ← strs_zero f n] at hown; have H1 := Lib.hid hown; have G1 := Lib.hid hgrow; clear hown hgrow)
  have B1 : Below w.heap.size w w1 := (Below.refl _ w).grown G1.out (Nat.le_refl _) (by intro k hk; cases hk)
  clear G1
  go_loopw [4, 5, 14] (fun _ _ c wr => ∃ j : Nat, j ≤ n ∧ c = .int .i64 j ∧ Hid (wr.ownsRow w.heap.size 9 1 (.slice (some ⟨w.heap.size, 0, none⟩) n n) n (strs f n j)) ∧ Below w.heap.size w wr) (fun _ _ c _ => n - (intOf c).toNat)
  case atStart => exact ⟨0, by omega, rfl, H1, B1⟩
  case round =>
    clear H1 B1
    obtain ⟨j, hj, rfl, ho, hbw⟩ := hrel
    by_cases hlt : j < n
    · have hlt' : (j : Int) < (n : Int) := by omega
      obtain ⟨x, hx⟩ : ∃ x, l[j]?.getD 0 = x := ⟨_, rfl⟩
      have c1 : wr.cell? ⟨b, off + j, none⟩ = some (.int .i64 x) := by rw [← hx]; exact (hbw.cell (p := ⟨b, off + j, none⟩) hb).trans (HC.out j hlt)
      have hx' : l.getD j 0 = x := by rw [List.getD_eq_getElem?_getD]; exact hx
      have hx2 := HS.out.2 j (by omega)
      rw [hx'] at hx2
      have D1 := Lib.hid (fmt_any x hx2.1 hx2.2 wr)
      have l2 : (decT x).length ≤ 2 := dec_len (by omega)
      have z3 := S_size (decT x)
      have T1 : (⟨#[83, 113]⟩ : ByteArray) ++ S (decT x) = S (f j) := by rw [HF.out, hx']; exact S_app [83, 113] (decT x)
      have f2 := ho.out.frozenAt j
      have c2 : wr.cell? ⟨w.heap.size, j, none⟩ = some (.string (S (if j < j then f j else []))) := by rw [ho.out.cellAt j (by omega)]; exact strs_get f n j j hlt
      generalize S (if j < j then f j else []) = zz at c2
      have hst := ho.out.stored j (.string (S (f j)))
      rw [strs_set] at hst
      have HS2 := Lib.hid hst
      clear hst ho hx hx' hx2
      go_wp2_with (go_at_call 38; refine D1.out.mono ?_; rintro e w' ⟨rfl, rfl⟩)
      go_roundw
      case rel => exact ⟨j + 1, by omega, by go_num, Lib.hid HS2.out.1, hbw.setCell (Nat.le_refl _) _⟩
      case measure => simp [intOf]; omega
    · obtain rfl : j = n := by omega
      have JN := Lib.hid (join_row f 32 ho.out (by omega) (by have := WL.out; omega))
      go_wp2_with fail
      refine JN.out.mono ?_
      rintro e w2 ⟨rfl, b2⟩
      go_wp2_with fail
      go_ret
      exact ⟨by rw [WT.out]; rfl, hbw.trans (b2.mono hbw.size)⟩
end Go.Proofs.YtkcjbgfbhkmliaaDoor
