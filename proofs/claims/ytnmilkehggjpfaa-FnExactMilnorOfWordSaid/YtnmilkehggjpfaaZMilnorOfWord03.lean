/-
  Joined: NMowB.
-/
import Derived.Test.YtnmilkehggjpfaaZMilnorOfWord02
import Derived.Test.YtnmilkehggjpfaaZBMil43
section
namespace Go.Proofs.Ytnmilkehggjpfaa.Ml
open Go.RowKit Go.Maps
set_option linter.unusedVariables false
set_option maxRecDepth 100000

theorem rdn_rd {w : World} {v : Value} {n : Nat} {G : Nat → Int} (h : RdN w v ((List.range n).map G)) : RdI w v n G := by
  have h1 : RdL w v ((List.range n).map G) := h.rd
  unfold RdL at h1
  rw [List.length_map, List.length_range] at h1
  exact h1.congr fun i hi => by simp [hi]

theorem implMOW_ok2 (v : Value) (n : Nat) (G : Nat → Int) (w : World) (hN : RdN w v ((List.range n).map G)) (hb : okWord G n)
    (S : ∀ a cap wx, RdN wx (.slice a n cap) ((List.range n).map G) → Calls Try.prog 82 #[.slice (some ⟨wx.heap.size, 0, none⟩) 1 1, .func (.func 83) #[] #[]] (wx.alloc (.cells #[.slice a n cap] 65)) (ResT (wT ((List.range n).map G)) (wx.alloc (.cells #[.slice a n cap] 65)))) : Calls Try.prog 47 #[v] w (ResS (wT ((List.range n).map G)) 0 w) := by
  have h := rdn_rd hN
  have t2 := Try.underlying45
  obtain ⟨w1, hw1⟩ : ∃ w1, w1 = (w.alloc (.cells #[.slice none 0 0] 45)) := ⟨_, rfl⟩
  have B1 : Hid (Below w.heap.size w w1) := Lib.hid (by rw [hw1]; exact (Below.refl _ w).alloc (Nat.le_refl _) _)
  have X1 : Hid (Box1 w1 w.heap.size 45 (.slice none 0 0)) := Lib.hid (by rw [hw1]; exact Box1.new _ _ _)
  have WD := Lib.hid (isWord_yes v n G w1 (h.below B1.out) hb)
  have h1 := hN.below B1.out
  obtain ⟨va, vc, rfl, _⟩ := h
  have ST := Lib.hid (S va vc w1 h1)
  have b9 : Below w1.heap.size w1 (w1.alloc (.cells #[.slice va n vc] 65)) := (Below.refl _ _).alloc (Nat.le_refl _) _
  clear h1 hN
  clear hb
  go_enter Try.func47, Try.ntmps47
  go_upto_region 1 with fail
  rw [← hw1]
  clear hw1
  go_wp2_with fail
  refine WD.out.mono ?_
  rintro e w' ⟨rfl, rfl⟩
  go_wp2_with fail
  refine ST.out.mono ?_
  rintro e w5 ⟨V5, VS5, rfl, f5, s5, b5⟩
  obtain ⟨av, cv, rfl, _, _⟩ := Fam.head f5
  have hsz := X1.out.lt
  have X5 := Lib.hid (X1.out.up (b9.step1 b5))
  have B5 := Lib.hid (B1.out.step1 (b9.step1 b5))
  have FIN := Lib.hid (fin1 f5 B5.out (by rw [World.size_alloc]; omega) X5.out)
  have HS := Lib.hid s5
  clear f5 s5 b5 ST
  have dR := X5.out.c
  have fR := X5.out.fr 0
  go_wp2_with fail
  refine bodyPost_ret (results_box1_tmp rfl _ _ w.heap.size _ _ rfl FIN.out.1 t2 (by kernel_rfl)) rfl ?_
  exact ⟨_, _, rfl, FIN.out.2.1, HS.out, FIN.out.2.2⟩

theorem sumW_one (l : List Int) : sumW [l] = wT l := (sumW_eq (T := wT l) (W := [l]) (wT_asc l) fun z => by
  have : ([l] : List (List Int)).flatMap wT = wT l := by simp
  rw [this, par_nodup _ (wT_asc l).nodup]).symm

theorem rdw_one {w : World} {a : Option Addr} {n cap : Nat} {l : List Int} (h : RdN w (.slice a n cap) l) : RdW (w.alloc (.cells #[.slice a n cap] 65)) (.slice (some ⟨w.heap.size, 0, none⟩) 1 1) [l] := by
  have b : Below w.heap.size w (w.alloc (.cells #[.slice a n cap] 65)) := (Below.refl _ _).alloc (Nat.le_refl _) _
  refine ⟨⟨_, _, rfl⟩, by unfold maxLen; simp, fun _ => .slice a n cap, .inr ⟨w.heap.size, 0, ⟨_, rfl⟩, fun i hi => ?_⟩, fun i hi => ?_⟩
  · have hi : i < 1 := hi
    obtain rfl : i = 0 := by omega
    exact cell_of_row _ w.heap.size 0 _ _ (0, 0) (heap_alloc_new w _)
  · have hi : i < 1 := hi
    obtain rfl : i = 0 := by omega
    exact h.below b

theorem MilnorOfWord_both (n : Nat) (G : Nat → Int) :
    ∃ (L : List (List Int)) (cd : Int), L.length ≤ 15000 ∧ (∀ i, (rowsOf L i).length ≤ 20) ∧
      (∀ v w, RdI w v n G → Calls Try.prog 45 #[v] w (ResS L cd w)) ∧
      (∀ v w, RdN w v ((List.range n).map G) → Calls Try.prog 47 #[v] w (ResS L cd w)) := by
  by_cases h : okWord G n
  · have hw : ∀ l ∈ [(List.range n).map G], okW l ∧ l.sum = ((List.range n).map G).sum := fun l hl => by
      obtain rfl := List.mem_singleton.1 hl
      exact ⟨okW_word h, rfl⟩
    have e1 := sumW_one ((List.range n).map G)
    have hf : (wT ((List.range n).map G)).length ≤ 82 := by rw [← e1]; exact okMl_few (sumW_el hw)
    refine ⟨wT ((List.range n).map G), 0, by omega, rows_short (wT_short (okW_word h)), fun v w hv => specMOW_ok v n G w hv h, fun v w hv => implMOW_ok2 v n G w hv h fun a cap wx hx => ?_⟩
    rw [← e1]
    exact sumOver_any _ _ _ _ _ (Nat.le_refl _) (okW_word h).2 hw (by simp) (by simp) (rdw_one hx)
  · exact ⟨[], 1, Nat.zero_le _, fun i => Nat.zero_le _, fun v w hv => specMOW_no v n G w hv h, fun v w hv => implMOW_no v n G w (rdn_rd hv) h⟩
end Go.Proofs.Ytnmilkehggjpfaa.Ml
end
