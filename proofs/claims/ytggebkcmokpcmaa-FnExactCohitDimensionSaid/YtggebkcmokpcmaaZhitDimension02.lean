/-
  Joined: HImC.
-/
import Derived.Test.YtggebkcmokpcmaaZhitDimension01
import Derived.Test.YtggebkcmokpcmaaZBHit17
import Derived.Lib.AppendZeros
import Derived.Deep.RegionLaw
section
namespace Go.Proofs.Ytggebkcmokpcmaa
open Go.RowKit Go.Maps
set_option linter.unusedVariables false
set_option maxRecDepth 100000

/-- v reads as the monomials L, at a place, with room. -/
def RdC (w : World) (v : Value) (L : List (List Int)) : Prop :=
  ∃ b off cap, v = .slice (some ⟨b, off, none⟩) L.length cap ∧ L.length ≤ cap ∧ cap ≤ maxLen ∧ b < w.heap.size ∧ ∀ i (h : i < L.length), w.rangeAt b (off + i * 4) (pwK L[i]).toList
theorem RdC.below {w w' : World} {v : Value} {L : List (List Int)} (h : RdC w v L) (k : Below w.heap.size w w') : RdC w' v L := by
  obtain ⟨b, off, cap, e, h1, h2, hb, h3⟩ := h
  exact ⟨b, off, cap, e, h1, h2, Nat.lt_of_lt_of_le hb k.size, fun i hi q u hq => (k.cell (p := ⟨b, off + i * 4 + q, none⟩) hb).trans (h3 i hi q u hq)⟩
theorem RdC.rd {w : World} {v : Value} {L : List (List Int)} (h : RdC w v L) : RdY w v (L.map pwK) := by
  obtain ⟨b, off, cap, rfl, h1, h2, hb, h3⟩ := h
  refine ⟨_, cap, by rw [List.length_map], by rw [List.length_map]; omega, .inr ⟨b, off, rfl, hb, fun i hi => ?_⟩⟩
  rw [List.length_map] at hi
  rw [List.getElem?_map, List.getElem?_eq_getElem hi]
  exact h3 i hi
theorem RdC.of_own {w : World} {B : Nat} {v : Value} {L : List (List Int)} (h : OwnY w B v (L.map pwK)) (h4 : ∀ z ∈ L, z.length = 4) (hne : L ≠ []) : RdC w v L := by
  have hr := rdY_of_own h h4
  unfold OwnY at h
  rw [List.length_map] at h
  have hpos := List.length_pos_iff.2 hne
  rcases h.2 with ⟨_, h0⟩ | ⟨g, cap, cur, rfl, hb, hg, h1, h2, h3, h5⟩
  · omega
  · refine ⟨g, 0, cap, rfl, h1, h2, (Array.getElem?_eq_some_iff.1 hg).1, fun i hi => ?_⟩
    obtain ⟨a, c, e, hm, hc⟩ := hr
    rw [List.length_map] at e hc
    simp only [Value.slice.injEq] at e
    rcases hc with h0 | ⟨b, off, e2, _, hc⟩
    · omega
    · rw [← e.1] at e2
      simp only [Option.some.injEq, Addr.mk.injEq, and_true] at e2
      obtain ⟨rfl, rfl⟩ := e2
      have := hc i hi
      rw [List.getElem?_map, List.getElem?_eq_getElem hi] at this
      exact this
/-- What is left when the first is cut off. -/
theorem RdC.cut1 {w : World} {b off cap : Nat} {x : List Int} {L : List (List Int)} (h : RdC w (.slice (some ⟨b, off, none⟩) (L.length + 1) cap) (x :: L)) (hc : cap = 1) : RdC w (.slice (some ⟨b, off, none⟩) L.length 0) L := by
  obtain ⟨b', off', cap', e, h1, h2, hb, h3⟩ := h
  simp only [Value.slice.injEq, Option.some.injEq, Addr.mk.injEq, and_true, List.length_cons, true_and] at e
  obtain ⟨⟨rfl, rfl⟩, rfl⟩ := e
  rw [List.length_cons] at h1
  exact ⟨b, off, 0, rfl, by omega, Nat.zero_le _, hb, fun i hi => by omega⟩
theorem RdC.cut {w : World} {b off cap : Nat} {x : List Int} {L : List (List Int)} (h : RdC w (.slice (some ⟨b, off, none⟩) (L.length + 1) cap) (x :: L)) : RdC w (.slice (some ⟨b, off + 4, none⟩) L.length (cap - 1)) L := by
  obtain ⟨b', off', cap', e, h1, h2, hb, h3⟩ := h
  simp only [Value.slice.injEq, Option.some.injEq, Addr.mk.injEq, and_true, List.length_cons, true_and] at e
  obtain ⟨⟨rfl, rfl⟩, rfl⟩ := e
  rw [List.length_cons] at h1
  refine ⟨b, off + 4, cap - 1, rfl, by omega, by omega, hb, fun i hi => ?_⟩
  have := h3 (i + 1) (by simpa using hi)
  rw [show off + (i + 1) * 4 = off + 4 + i * 4 by omega] at this
  simpa using this
theorem RdC.head {w : World} {v : Value} {x : List Int} {L : List (List Int)} (h : RdC w v (x :: L)) : ∃ b off cap, v = .slice (some ⟨b, off, none⟩) (L.length + 1) cap ∧ 1 ≤ cap ∧ cap ≤ maxLen ∧ b < w.heap.size ∧ w.rangeAt b off (pwK x).toList := by
  obtain ⟨b, off, cap, rfl, h1, h2, hb, h3⟩ := h
  rw [List.length_cons] at h1
  refine ⟨b, off, cap, rfl, by omega, h2, hb, ?_⟩
  have := h3 0 (by simp)
  simpa using this
/-- A slice of monomials as a source. -/
theorem RdC.src {w : World} {v : Value} {L : List (List Int)} (h : RdC w v L) (h4 : ∀ z ∈ L, z.length = 4) : ∃ ad c, v = .slice (some ad) L.length c ∧ ∀ w', Below w.heap.size w w' → ∀ j u, ((L.map pwK).flatMap Array.toList)[j]? = some u → w'.cell? (ad.add j) = some u := by
  obtain ⟨b, off, cap, rfl, h1, h2, hb, h3⟩ := h
  refine ⟨⟨b, off, none⟩, cap, rfl, fun w' hw j u hu => ?_⟩
  have hk : ∀ k ∈ L.map pwK, k.size = 4 := fun k hk => by
    obtain ⟨z, hz, rfl⟩ := List.mem_map.1 hk
    rw [pwK_size, h4 z hz]
  have hj : j < ((L.map pwK).flatMap Array.toList).length := (List.getElem?_eq_some_iff.1 hu).1
  rw [flat4_len hk, List.length_map] at hj
  have e : j = j / 4 * 4 + j % 4 := by omega
  have hi : j / 4 < L.length := by omega
  have hf := flat_atY 4 (L.map pwK) hk (j / 4) (by rw [List.length_map]; exact hi) (j % 4) (Nat.mod_lt _ (by decide))
  rw [← e, hu, List.getElem?_map, List.getElem?_eq_getElem hi] at hf
  rw [Addr.add_lit, show off + j = off + j / 4 * 4 + j % 4 by omega]
  exact (hw.cell (p := ⟨b, off + j / 4 * 4 + j % 4, none⟩) hb).trans (h3 (j / 4) hi (j % 4) u hf.symm)

theorem step_pow {ops : Array Oper} {o : Oper} {a : Act} {w : World} {K : Act → World → Prop} {Q : Exit → Act → World → Prop} {E : Prop} (hgd : o.guard = none) (s x : Operand) (ho : o.op = .call { callee := .builtin .append, args := #[s, x], argTypes := #[53, 53] })
    (B n : Nat) (v : Value) (xs : List Value) (hs : a.eval s = v) (hown : w.ownsRow B 71 4 v n xs) (ad : Addr) (c : Nat) (k : List Value) (hx : a.eval x = .slice (some ad) 1 c)
    (hc : ∀ j u, k[j]? = some u → w.cell? (ad.add j) = some u) (hk : k.length = 4) (h1 : ∀ u ∈ k, u.oneCell' = true) (hn : n ≤ 1000000) (hB : B ≤ w.heap.size)
    (h : ∀ v' w', w'.ownsRow B 71 4 v' (n + 1) (xs ++ k) → w.grownBy w' v.ownBlock → K (a.put o.dst v') w') :
    if Region.wanted o (yielded ops a.tmps) = true then Oper.wp Try.prog o a w K Q else E := by
  have hw : Region.wanted o (yielded ops a.tmps) = true := by simp [Region.wanted, hgd]
  rw [if_pos hw]
  obtain ⟨i0, hi, hz0, hz1, hz2⟩ := info_parts infoEY
  exact wp_append_own w s x 53 ho B 71 i0 (.agg #[Value.int .i64 0, Value.int .i64 0, Value.int .i64 0, Value.int .i64 0]) 4 32 Try.underlying53 hi hz0 hz1 hz2 rfl (by decide) v n xs hs hown ad 1 c k hx (by omega) hc h1 (by unfold maxLen; omega) (by omega) hB
      (fun v' w' h2 h3 _ => h v' w' h2 h3)

theorem grow4_nil (n : Nat) (w : World) (hn : n ≤ 100000) :
    Calls Try.prog 113 #[.slice none 0 0, .int .i64 n] w fun e w' => ∃ u, e = .returned u ∧ w'.ownsRow w.heap.size 71 4 u 0 [] ∧ Below w.heap.size w w' := by
  obtain ⟨i0, hi, hz0, hz1, hz2⟩ := info_parts infoEY
  by_cases h0 : n = 0
  · subst h0
    go_enter Try.func113, Try.ntmps113
    go_wp2_with fail
    go_ret
    exact ⟨_, rfl, World.ownsRow_nil _ _ _ _, Below.refl _ _⟩
  · have h1 : ¬ (n : Int) < 0 := by omega
    have h2 : (0 : Int) < (n : Int) := by omega
    have hw : IntKind.i64.wrap (n : Int) = (n : Int) := by rw [IntKind.wrap_i64]; omega
    obtain ⟨cp, hcp⟩ : ∃ cp, grownCap w n 0 71 = cp := ⟨_, rfl⟩
    have HR := Lib.run_append_nil_zeros (P := Try.prog) w 53 3 53 71 i0 (.agg #[Value.int .i64 0, Value.int .i64 0, Value.int .i64 0, Value.int .i64 0]) .i64 .i64 Try.underlying53 Try.underlying3 hi hz0 n (by omega) (by omega) (by omega) (by rw [hz2]; omega)
    have hge := grownCap_ge w n 0 71
    have hle := grownCap_le_maxLen w n 0 71 (by unfold maxLen; omega)
    rw [hcp] at HR hge hle
    obtain ⟨C, hC⟩ : ∃ C, Builtin.zeroCells (Value.agg #[Value.int .i64 0, Value.int .i64 0, Value.int .i64 0, Value.int .i64 0]).cells n ++ Builtin.zeroCells (Value.agg #[Value.int .i64 0, Value.int .i64 0, Value.int .i64 0, Value.int .i64 0]).cells (cp - n) = C := ⟨_, rfl⟩
    have hs : C.size = cp * 4 := by rw [← hC, Array.size_append, size_zeroCells, size_zeroCells]; show n * 4 + (cp - n) * 4 = cp * 4; omega
    rw [hC] at HR
    have HR := Lib.hid HR
    have OW := Lib.hid (World.ownsRow_made (base := w.heap.size) (e := 71) (size := 4) w.drew C cp (Nat.le_refl _) hle hs)
    have BW : Hid (Below w.heap.size w (w.drew.alloc (.cells C 71))) := Lib.hid ((Below.refl _ w).drew.alloc (Nat.le_refl _) _)
    clear hC hs hcp hi hz0 hz1 hz2
    have hcp0 : 0 ≤ cp := Nat.zero_le _
    go_enter Try.func113, Try.ntmps113
    go_wp2_with (at_builtin; refine Lib.wpList_append_run _ rfl _ _ _ _ rfl _ _ rfl rfl _ _ HR.out ?_)
    go_ret
    exact ⟨_, rfl, OW.out, BW.out⟩
end Go.Proofs.Ytggebkcmokpcmaa
end
