/-
  spec.DualBasis and impl.DualBasis answer the same.
-/
import Derived.Test.YtnmilkehggjpfaaEFam
import Derived.Test.YtnmilkehggjpfaaWPartLaw
namespace Go.Proofs.Ytnmilkehggjpfaa.Dl
open Go.RowKit
set_option linter.unusedVariables false
set_option maxRecDepth 100000

theorem infoM : (Try.prog.info? 27).map (fun i => (i.zero, i.size, i.bytes)) = some (some (.agg #[.slice none 0 0]), 1, 24) := by kernel_rfl

/-- append of structs to structs. -/
theorem wpList_mils {ops : Array Oper} {rest : List Oper} {o : Oper} {a : Act} {Q : Exit → Act → World → Prop} (w : World) (hgd : o.guard = none) (s x : Operand) (ho : o.op = .call { callee := .builtin .append, args := #[s, x], argTypes := #[35, 35] })
    (B n : Nat) (v : Value) (xs : List Value) (hs : a.eval s = v) (hown : w.ownsRow B 27 1 v n xs) (ad : Addr) (m c : Nat) (news : List Value) (hx : a.eval x = .slice (some ad) m c)
    (hc : ∀ j u, news[j]? = some u → w.cell? (ad.add j) = some u) (hl : news.length = m) (h1 : ∀ u ∈ news, u.oneCell' = true) (hn : n + m ≤ 400000000000) (hB : B ≤ w.heap.size)
    (h : ∀ v' w', w'.ownsRow B 27 1 v' (n + m) (xs ++ news) → w.grownBy w' v.ownBlock → wpList Try.prog ops Q rest (a.put o.dst v') w') : wpList Try.prog ops Q (o :: rest) a w := by
  obtain ⟨i0, hi, hz0, hz1, hz2⟩ := info_parts infoM
  exact wpList_append_own w hgd s x 35 ho B 27 i0 (.agg #[.slice none 0 0]) 1 24 Try.underlying35 hi hz0 hz1 hz2 rfl (by decide) v n xs hs hown ad m c news hx (by omega) hc h1 (by unfold maxLen; omega) (by omega) hB
      (fun v' w' h2 h3 _ => h v' w' h2 h3)

/-- Structs that each hold one of the rows VS. -/
abbrev FamB (w : World) (B : Nat) (V : Value) (m : Nat) (US VS : Nat → Value) (L : List (List Int)) : Prop := FamM w B V m US (fun _ => 1) (fun i _ => VS i) (fun i _ => rowsOf L i)

/-- The world when a struct of one list of one row was made. -/
def wOne (w : World) (v : Value) : World := (w.alloc (.cells #[v] 65)).alloc (.cells #[.slice (some ⟨w.heap.size, 0, none⟩) 1 1] 27)
theorem wOne_below (w : World) (v : Value) : Below w.heap.size w (wOne w v) := ((Below.refl _ w).alloc (Nat.le_refl _) _).alloc (by simp) _
theorem wOne_size (w : World) (v : Value) : (wOne w v).heap.size = w.heap.size + 2 := by simp [wOne]
theorem wOne_src (w : World) (v : Value) : ∀ jj u, [Value.slice (some ⟨w.heap.size, 0, none⟩) 1 1][jj]? = some u → (wOne w v).cell? ((⟨w.heap.size + 1, 0, none⟩ : Addr).add jj) = some u := fun jj u hu => by
  have h0 : jj = 0 := by have := (List.getElem?_eq_some_iff.1 hu).1; simp at this; omega
  subst h0
  simp at hu
  subst hu
  have := heap_alloc_new (w.alloc (.cells #[v] 65)) (.cells #[.slice (some ⟨w.heap.size, 0, none⟩) 1 1] 27)
  rw [World.size_alloc] at this
  exact cell_of_row _ (w.heap.size + 1) 0 _ _ (0, 0) this
theorem wOne_row (w : World) (v : Value) {B : Nat} (hB : B ≤ w.heap.size) : (wOne w v).ownsRow B 65 1 (.slice (some ⟨w.heap.size, 0, none⟩) 1 1) 1 [v] := by
  refine ⟨rfl, .inr ⟨w.heap.size, 1, #[v], rfl, hB, ?_, Nat.le_refl _, by unfold maxLen; omega, rfl, rfl⟩⟩
  rw [wOne, heap_alloc_old _ _ (by simp)]
  exact heap_alloc_new w _

theorem FamM.push {w w3 : World} {B k : Nat} {S S' : Value} {US VS : Nat → Value} {L : List (List Int)} (h : FamB w B S k US VS L) (hr : w.ownsRow B 2 1 (VS k) (rowsOf L k).length ((rowsOf L k).map (Value.int .i64))) (hB : B ≤ w.heap.size)
    (ho : w3.ownsRow B 27 1 S' (k + 1) ((List.range k).map US ++ [.slice (some ⟨w.heap.size, 0, none⟩) 1 1])) (hg : (wOne w (VS k)).grownBy w3 S.ownBlock) :
    FamB w3 B S' (k + 1) (ext US k (.slice (some ⟨w.heap.size, 0, none⟩) 1 1)) VS L := by
  have hb := wOne_below w (VS k)
  have hS := own_below h.out hb
  refine ⟨by rw [ext_map]; exact ho, fun i hi => ?_⟩
  by_cases hlt : i < k
  · rw [ext, if_pos hlt]
    have h1 := (h.inn i hlt).below hb
    exact ⟨h1.out.kept hg (own_types h1.out hS (by decide)), fun j hj => (h1.inn j hj).kept hg (own_types (h1.inn j hj) hS (by decide))⟩
  · obtain rfl : i = k := by omega
    rw [ext, if_neg (Nat.lt_irrefl _)]
    have h1 := wOne_row w (VS i) hB
    have h2 := own_below hr hb
    refine ⟨?_, fun j hj => ?_⟩
    · have := h1.kept hg (own_types h1 hS (by decide))
      simpa using this
    · exact h2.kept hg (own_types h2 hS (by decide))

theorem FamL.beside {w w3 : World} {B B' k n : Nat} {S V v : Value} {US VS : Nat → Value} {VS' : Nat → Value} {L L' : List (List Int)} (h : FamL w B' V VS' L') (hS : FamB w B S k US VS L) (hg : (wOne w v).grownBy w3 S.ownBlock) : FamL w3 B' V VS' L' := by
  have hb := wOne_below w v
  have h1 := Fam.below h hb
  have h2 := own_below hS.out hb
  exact ⟨h1.out.kept hg (own_types h1.out h2 (by decide)), fun i hi => (h1.inn i hi).kept hg (own_types (h1.inn i hi) h2 (by decide))⟩

def BasRes (w : World) (c : Int) (L : List (List Int)) (e : Ending) (w' : World) : Prop := ∃ V US VS, e = .returned (.tuple #[V, .int .i64 c]) ∧ FamB w' w.heap.size V L.length US VS L ∧ Below w.heap.size w w' ∧ Sep L.length VS
def BasRes0 (w : World) (c : Int) (L : List (List Int)) (e : Ending) (w' : World) : Prop := ∃ V US VS, e = .returned (.tuple #[V, .int .i64 c]) ∧ FamB w' w.heap.size V L.length US VS L ∧ Below w.heap.size w w'

/-- What both loops keep. -/
structure BasI (w : World) (V0 : Value) (VS : Nat → Value) (L : List (List Int)) (k : Nat) (S : Value) (US : Nat → Value) (W : World) : Prop where
  bel : Below w.heap.size w W
  src : FamL W w.heap.size V0 VS L
  out : FamB W w.heap.size S k US VS L
theorem BasI.push {w : World} {V0 : Value} {VS : Nat → Value} {L : List (List Int)} {k : Nat} {S S' : Value} {US : Nat → Value} {W w3 : World} (h : BasI w V0 VS L k S US W) (hk : k < L.length)
    (ho : w3.ownsRow w.heap.size 27 1 S' (k + 1) ((List.range k).map US ++ [.slice (some ⟨W.heap.size, 0, none⟩) 1 1])) (hg : (wOne W (VS k)).grownBy w3 S.ownBlock) :
    BasI w V0 VS L (k + 1) S' (ext US k (.slice (some ⟨W.heap.size, 0, none⟩) 1 1)) w3 :=
  ⟨(h.bel.step1 (wOne_below W (VS k))).grown hg (Nat.le_trans h.bel.size (wOne_below W (VS k)).size) (fun q hq => (h.out.out.lt q (hq.symm ▸ rfl)).1), FamL.beside (n := 0) h.src h.out hg, FamM.push h.out (h.src.inn k hk) h.bel.size ho hg⟩

set_option maxHeartbeats 1000000 in
theorem specBas_ok (d : Nat) (w : World) (hd : d ≤ 40) (hl : (parts 6 [] d).length ≤ 200000000000) : Calls Try.prog 20 #[.int .i64 d] w (BasRes0 w 0 (parts 6 [] d)) := by
  have t2 := Try.underlying27
  have h1 : (d : Int) ≤ 40 := by omega
  have h0 : (0 : Int) ≤ (d : Int) := by omega
  have P := Lib.hid (l01All_any d w hd)
  generalize parts 6 [] d = L at *
  go_enter Try.func20, Try.ntmps20
  go_wp2_with (go_at_call 62; refine (l01In_yes _ _ _ _ h0 h1).mono ?_; rintro e w' ⟨rfl, rfl⟩)
  refine P.out.mono ?_
  rintro e w1 ⟨V0, VS, rfl, hF, hB⟩
  have I0 : Hid (BasI w V0 VS L 0 (.slice (some ⟨w1.heap.size, 0, none⟩) 0 0) (fun _ => undef) (w1.alloc (.cells #[] 27))) := Lib.hid ⟨hB.alloc hB.size _, Fam.below hF ((Below.refl _ w1).alloc (Nat.le_refl _) _), ⟨World.ownsRow_made w1 #[] 0 hB.size (Nat.zero_le _) (by simp), fun i hi => absurd hi (Nat.not_lt_zero _)⟩⟩
  obtain ⟨av, cv, rfl, hm, hc⟩ := hF.head
  have HL := Lib.hid hl
  clear hF hB hc P hl
  go_wp2_with fail
  go_loopw [5, 6] (fun S c wr => ∃ (k : Nat) (US : Nat → Value), k ≤ L.length ∧ c = .int .i64 k ∧ Hid (BasI w (.slice av L.length cv) VS L k S US wr)) (fun _ c _ => L.length - (intOf c).toNat)
  case atStart => exact ⟨0, _, by omega, rfl, I0⟩
  case round =>
    clear I0
    obtain ⟨k, US, hk, rfl, hI⟩ := hrel
    by_cases hlt : k < L.length
    · have hlt' : (k : Int) < (L.length : Int) := by omega
      obtain ⟨a9, c9, e9, _, hc⟩ := hI.out.src.head
      cases e9
      obtain ⟨b, rfl, hc2⟩ := hc.resolve_left (by omega)
      have c1 := hc2 k hlt
      have PU := Lib.hid (fun S' w3 => BasI.push (S' := S') (w3 := w3) hI.out hlt)
      have OW := Lib.hid (own_below hI.out.out.out (wOne_below wr (VS k)))
      have SR := Lib.hid (wOne_src wr (VS k))
      have SZ : Hid (w.heap.size ≤ (wOne wr (VS k)).heap.size) := Lib.hid (Nat.le_trans hI.out.bel.size (wOne_below wr (VS k)).size)
      have hk2 := HL.out
      obtain ⟨ra, rc, ev, _⟩ := own_len (hI.out.src.inn k hlt)
      clear hc hc2 hI
      rw [ev] at c1 PU OW SR SZ
      generalize (rowsOf L k).length = rn at c1 PU OW SR SZ
      clear ev
      go_wp2_with (at_builtin; refine wpList_mils _ rfl _ _ rfl w.heap.size k _ _ rfl OW.out ⟨wr.heap.size + 1, 0, none⟩ 1 1 [.slice (some ⟨wr.heap.size, 0, none⟩) 1 1] rfl SR.out rfl (by simp [Value.oneCell']) (by omega) SZ.out ?_; intro v3 w3 ho3 hg3; have I3 := Lib.hid (PU.out v3 w3 ho3 hg3); clear ho3 hg3)
      go_roundw
      case rel => exact ⟨k + 1, _, by omega, by go_num, I3⟩
      case measure => simp [intOf]; omega
    · obtain rfl : k = L.length := by omega
      go_wp2_with fail
      go_ret2
      exact ⟨_, US, VS, rfl, hI.out.out, hI.out.bel⟩

theorem specBas_no (a : Int) (w : World) (h : ¬ (0 ≤ a ∧ a ≤ 40)) : Calls Try.prog 20 #[.int .i64 a] w (BasRes0 w 2 []) := by
  go_enter Try.func20, Try.ntmps20
  go_wp2_with (go_at_call 62; refine (l01In_no _ _ _ _ (by omega)).mono ?_; rintro e w' ⟨rfl, rfl⟩)
  go_ret2
  exact ⟨_, fun _ => undef, fun _ => undef, rfl, ⟨World.ownsRow_nil _ _ _ _, fun i hi => absurd hi (Nat.not_lt_zero _)⟩, Below.refl _ _⟩

theorem implBas_no (a : Int) (w : World) (h : ¬ (0 ≤ a ∧ a ≤ 40)) : Calls Try.prog 21 #[.int .i64 a] w (BasRes w 2 []) := by
  have P := Lib.hid (implPartitionsOf_all a w)
  rw [show pcOf a = 2 by unfold pcOf; rw [if_neg h]] at P
  clear h
  go_enter Try.func21, Try.ntmps21
  go_wp2_with fail
  refine P.out.mono ?_
  rintro e w1 ⟨V, VS, rfl, hF, hB, hS⟩
  have B := Lib.hid hB
  clear hF hB hS
  go_wp2_with fail
  go_ret2
  exact ⟨_, fun _ => undef, fun _ => undef, rfl, ⟨World.ownsRow_nil _ _ _ _, fun i hi => absurd hi (Nat.not_lt_zero _)⟩, B.out, sep_zero _⟩

set_option maxHeartbeats 1000000 in
theorem implBas_ok (d : Nat) (w : World) (hd : d ≤ 40) (hl : (parts 6 [] d).length ≤ 200000000000) : Calls Try.prog 21 #[.int .i64 d] w (BasRes w 0 (parts 6 [] d)) := by
  have t2 := Try.underlying27
  have P := Lib.hid (implPartitionsOf_all d w)
  rw [show pcOf (d : Int) = 0 by unfold pcOf; rw [if_pos (by omega)], show ptOf (d : Int) = parts 6 [] d by unfold ptOf; rw [if_pos (by omega)]; rfl] at P
  generalize parts 6 [] d = L at *
  go_enter Try.func21, Try.ntmps21
  go_wp2_with fail
  refine P.out.mono ?_
  rintro e w1 ⟨V0, VS, rfl, hF, hB, hS⟩
  have I0 : Hid (BasI w V0 VS L 0 (.slice none 0 0) (fun _ => undef) w1) := Lib.hid ⟨hB, hF, ⟨World.ownsRow_nil _ _ _ _, fun i hi => absurd hi (Nat.not_lt_zero _)⟩⟩
  obtain ⟨av, cv, rfl, hm, hc⟩ := hF.head
  have HL := Lib.hid hl
  have HS := Lib.hid hS
  clear hF hB hc P hl hS
  go_wp2_with fail
  go_loopw [6, 8, 19] (fun S _ c wr => ∃ (k : Nat) (US : Nat → Value), k ≤ L.length ∧ c = .int .i64 k ∧ Hid (BasI w (.slice av L.length cv) VS L k S US wr)) (fun _ _ c _ => L.length - (intOf c).toNat)
  case atStart => exact ⟨0, _, by omega, rfl, I0⟩
  case round =>
    clear I0
    obtain ⟨k, US, hk, rfl, hI⟩ := hrel
    by_cases hlt : k < L.length
    · have hlt' : (k : Int) < (L.length : Int) := by omega
      obtain ⟨a9, c9, e9, _, hc⟩ := hI.out.src.head
      cases e9
      obtain ⟨b, rfl, hc2⟩ := hc.resolve_left (by omega)
      have c1 := hc2 k hlt
      have PU := Lib.hid (fun S' w3 => BasI.push (S' := S') (w3 := w3) hI.out hlt)
      have OW := Lib.hid (own_below hI.out.out.out (wOne_below wr (VS k)))
      have SR := Lib.hid (wOne_src wr (VS k))
      have SZ : Hid (w.heap.size ≤ (wOne wr (VS k)).heap.size) := Lib.hid (Nat.le_trans hI.out.bel.size (wOne_below wr (VS k)).size)
      have hk2 := HL.out
      obtain ⟨ra, rc, ev, _⟩ := own_len (hI.out.src.inn k hlt)
      clear hc hc2 hI
      rw [ev] at c1 PU OW SR SZ
      generalize (rowsOf L k).length = rn at c1 PU OW SR SZ
      clear ev
      go_wp2_with (at_builtin; refine wpList_mils _ rfl _ _ rfl w.heap.size k _ _ rfl OW.out ⟨wr.heap.size + 1, 0, none⟩ 1 1 [.slice (some ⟨wr.heap.size, 0, none⟩) 1 1] rfl SR.out rfl (by simp [Value.oneCell']) (by omega) SZ.out ?_; intro v3 w3 ho3 hg3; have I3 := Lib.hid (PU.out v3 w3 ho3 hg3); clear ho3 hg3)
      go_roundw
      case rel => exact ⟨k + 1, _, by omega, by go_num, I3⟩
      case measure => simp [intOf]; omega
    · obtain rfl : k = L.length := by omega
      go_wp2_with fail
      go_ret2
      exact ⟨_, US, VS, rfl, hI.out.out, hI.out.bel, HS.out⟩

theorem DualBasis_both (a : Int) : ∃ (L : List (List Int)) (cd : Int), L.length ≤ 200000000000 ∧ (∀ i, (rowsOf L i).length ≤ 6) ∧
    (∀ w, Calls Try.prog 20 #[.int .i64 a] w (BasRes0 w cd L)) ∧ (∀ w, Calls Try.prog 21 #[.int .i64 a] w (BasRes w cd L)) := by
  by_cases h : 0 ≤ a ∧ a ≤ 40
  · obtain ⟨d, rfl⟩ := Int.eq_ofNat_of_zero_le h.1
    have hl := ptOf_len (d : Int)
    rw [show ptOf (d : Int) = parts 6 [] d by unfold ptOf; rw [if_pos h]; rfl] at hl
    refine ⟨_, 0, hl.1, fun i => ?_, fun w => specBas_ok d w (by omega) hl.1, fun w => implBas_ok d w (by omega) hl.1⟩
    unfold rowsOf
    by_cases hi : i < (parts 6 [] d).length
    · rw [List.getElem?_eq_getElem hi]
      exact hl.2 _ (List.getElem_mem hi)
    · rw [List.getElem?_eq_none (by omega)]
      exact Nat.zero_le _
  · exact ⟨[], 2, Nat.zero_le _, fun i => Nat.zero_le _, fun w => specBas_no a w h, fun w => implBas_no a w h⟩
end Go.Proofs.Ytnmilkehggjpfaa.Dl
