/-
  Joined: QLbw, KOwn.
-/
import Derived.Test.YtcbfcpngpnlodaaZsisOfProfile17
import Derived.Test.YtcbfcpngpnlodaaZsisOfProfile06
import Derived.Laws.AppendOwnNone
section
namespace Go.Proofs.Ytcbfcpngpnlodaa
open Go Go.RowKit Go.Maps
set_option linter.unusedVariables false
set_option maxRecDepth 100000

/-- What listsByProfile answers. -/
def LbpPost (X : Nat → List Int) (VS : Nat → Value) (m : Nat) (w : World) (e : Ending) (w' : World) : Prop :=
  e = .returned (.map (some w.heap.size)) ∧ Below w.heap.size w w' ∧ ∃ k D SV, k ≤ m ∧ MapQ w' (w.heap.size + 1) w.heap.size k D SV (grpQ X VS m)

set_option maxHeartbeats 4000000 in
theorem lists_any (V : Value) (m : Nat) (X : Nat → List Int) (VS : Nat → Value) (w : World) (hV : ∃ a cap, V = .slice a m cap) (hm : m ≤ 1000000)
    (hc : m = 0 ∨ ∃ b off, (∃ cap, V = .slice (some ⟨b, off, none⟩) m cap) ∧ ∀ i, i < m → w.cell? ⟨b, off + i, none⟩ = some (VS i))
    (hr : ∀ i, i < m → RdL w (VS i) (X i)) (hX : ∀ i, i < m → okX (X i)) :
    Calls Try.prog 71 #[V] w (LbpPost X VS m w) := by
  have hmm := @run_makeMap Try.prog
  obtain ⟨aV, cV, rfl⟩ := hV
  have HC := Lib.hid (fun i (hi : i < m) => (show ∃ b off, aV = some ⟨b, off, none⟩ ∧ w.cell? ⟨b, off + i, none⟩ = some (VS i) by
    obtain ⟨b, off, ⟨cap, e⟩, hc'⟩ := hc.resolve_left (by omega)
    cases e
    exact ⟨b, off, rfl, hc' i hi⟩))
  have HR := Lib.hid hr
  have HX := Lib.hid hX
  have P0 : Hid (Below w.heap.size w (w.alloc (.map #[] 0)) ∧ ∃ k D SV, k ≤ 0 ∧ MapQ (w.alloc (.map #[] 0)) (w.heap.size + 1) w.heap.size k D SV (grpQ X VS 0)) := Lib.hid
    ⟨(Below.refl _ w).alloc (Nat.le_refl _) _, 0, _, _, Nat.le_refl _, MapQ.start w⟩
  clear hc hr hX
  go_enter Try.func71, Try.ntmps71
  go_wp2_with fail
  generalize (w.alloc (.map #[] 0)) = w1 at P0 ⊢
  clear hmm
  go_loopw [5, 6, 10] (fun _ _ c wr => ∃ i : Nat, i ≤ m ∧ c = .int .i64 (i : Int) ∧ Hid (Below w.heap.size w wr ∧ ∃ k D SV, k ≤ i ∧ MapQ wr (w.heap.size + 1) w.heap.size k D SV (grpQ X VS i))) (fun _ _ c _ => m - (intOf c).toNat)
  case atStart => exact ⟨0, Nat.zero_le _, rfl, P0⟩
  case round =>
    clear P0
    obtain ⟨i, hi, rfl, hI⟩ := hrel
    by_cases hlt : i < m
    · have hlt' : (i : Int) < (m : Int) := by omega
      obtain ⟨hbel, k, D, SV, hk, hM⟩ := hI.out
      obtain ⟨b, off, rfl, hcell⟩ := HC.out i hlt
      have c1 : wr.cell? ⟨b, off + i, none⟩ = some (VS i) := (hbel.cell (p := ⟨b, off + i, none⟩) (World.block_lt_of_cell? w _ hcell)).trans hcell
      have LP := Lib.hid (leastProfile_any (VS i) (X i).length (fun t => (X i)[t]?.getD 0) wr ((HR.out i hlt).below hbel) (HX.out i hlt))
      obtain ⟨va, vc, eV, _⟩ := HR.out i hlt
      rw [eV] at c1 LP
      have EV := Lib.hid eV
      obtain ⟨l, hkey⟩ := kyX_key (HX.out i hlt)
      have HM := Lib.hid hM
      have HB := Lib.hid hbel
      have K5 : Hid ((kyX (X i)).size = 16) := Lib.hid (arK_size _)
      have K1 : Hid ((kyX (X i)).all (·.oneCell') = true) := Lib.hid (arK_one _)
      have HLN : Hid (arK (lenF (X i).length (fun t => (X i)[t]?.getD 0)) = kyX (X i)) := Lib.hid rfl
      have HGS : Hid (grpQ X VS (i + 1) = updK (grpQ X VS i) (kyX (X i)) (grpQ X VS i (kyX (X i)) ++ [VS i])) := Lib.hid (grpQ_succ X VS i)
      have GL := Lib.hid (grpQ_len X VS (kyX (X i)) i)
      unfold SaysA at LP
      rw [HLN.out] at LP
      rw [eV] at HGS
      clear hM hbel hI hcell eV HLN
      generalize (X i).length = n at *
      generalize kyX (X i) = K at *
      go_wp2_with fail
      refine LP.out.mono ?_
      rintro e w2 ⟨rfl, b2⟩
      have B2 := Lib.hid (below_one HB.out b2)
      have M2 := Lib.hid (HM.out.below b2)
      -- the key's variable
      have b3 : Below w2.heap.size w2 (w2.alloc (.cells K 56)) := (Below.refl _ w2).alloc (Nat.le_refl _) _
      have HRK : Hid ((w2.alloc (.cells K 56)).rangeAt w2.heap.size 0 K.toList) := Lib.hid (loadNewQ w2 K K5.out)
      have b4 : Below w2.heap.size w2 ((w2.alloc (.cells K 56)).alloc (.cells #[.slice va n vc] 22)) := b3.alloc (by simp) _
      have M4 := M2.out.below b4
      have B4 := Lib.hid (below_one B2.out b4)
      obtain ⟨v0, st, w5, E1, E2, g5, z5, E3⟩ := entryQ M4.own (by unfold maxLen; omega) hkey
      have ev0 : v0 = SV K := by
        have := M4.at_ K l hkey
        rw [E2] at this
        exact held_inj this
      subst ev0
      have o5 : w5.ownsRow (w.heap.size + 1) 22 1 (SV K) (grpQ X VS i K).length (grpQ X VS i K) := (M4.grp K).kept g5 (M4.off (M4.grp K))
      have SRC : ∀ jj u, [Value.slice va n vc][jj]? = some u → w5.cell? ((⟨w2.heap.size + 1, 0, none⟩ : Addr).add jj) = some u := fun jj u hu => by
        have h0 : jj = 0 := by have := (List.getElem?_eq_some_iff.1 hu).1; simp at this; omega
        subst h0
        simp at hu
        subst hu
        have hb : w5.heap[w2.heap.size + 1]? = some (.cells #[.slice va n vc] 22 (0, 0)) := by
          rw [g5.block (w2.heap.size + 1) (by simp) (by have := M2.out.own.lt; simp; omega)]
          have := heap_alloc_new (w2.alloc (.cells K 56)) (.cells #[.slice va n vc] 22)
          rw [World.size_alloc] at this
          exact this
        exact cell_of_row w5 (w2.heap.size + 1) 0 _ _ (0, 0) hb
      have HE1 := Lib.hid E1
      have HE3 : Hid (∀ v6 w6, w5.grownBy w6 (SV K).ownBlock → ∃ w7, (Instr.entryStore 69 (.map (some w.heap.size)) (goInt st) v6).run Try.prog w6 = .ok () w7 ∧ w7.ownsMap Try.prog 56 RawQ w.heap.size (k + 1) (D.put l (.held v6)) ∧ w6.grownBy w7 (some w.heap.size)) := Lib.hid (fun v6 w6 hg6 => by
        obtain ⟨w7, r7, m7, g7, _⟩ := E3 w6 v6 (hg6.block _ (by rw [z5]; have := M2.out.own.lt; simp; omega) (fun e2 => by
          have := (M4.off (M4.grp K)).resolve_left (fun e3 => by rw [e3] at e2; cases e2)
          exact this e2.symm))
        exact ⟨w7, r7, m7, g7⟩)
      have HO5 := Lib.hid o5
      have HSRC := Lib.hid SRC
      have SZ5 : Hid (w.heap.size + 1 ≤ w5.heap.size) := Lib.hid (by rw [z5]; have := M2.out.own.lt; simp; omega)
      have FIN : Hid (∀ v6 w6 w7, w6.ownsRow (w.heap.size + 1) 22 1 v6 ((grpQ X VS i K).length + 1) (grpQ X VS i K ++ [.slice va n vc]) → w5.grownBy w6 (SV K).ownBlock → (v6.ownBlock = (SV K).ownBlock ∨ v6.ownBlock = some w5.heap.size) → w7.ownsMap Try.prog 56 RawQ w.heap.size (k + 1) (D.put l (.held v6)) → w6.grownBy w7 (some w.heap.size) →
          Below w.heap.size w w7 ∧ ∃ k D SV, k ≤ i + 1 ∧ MapQ w7 (w.heap.size + 1) w.heap.size k D SV (grpQ X VS (i + 1))) := Lib.hid (fun v6 w6 w7 ho hg hl hm7 hg7 => by
        have b5 := B4.out.grown g5 B4.out.size (fun q hq => by cases hq; exact Nat.le_refl _)
        have b6 := b5.grown hg b5.size (fun q hq => by have := ((M4.grp K).lt q hq).1; omega)
        have b7 := b6.grown hg7 b6.size (fun q hq => by cases hq; exact Nat.le_refl _)
        refine ⟨b7, k + 1, D.put l (.held v6), updK SV K v6, by omega, ?_⟩
        rw [HGS.out]
        exact M4.put' hkey g5 z5 ho hg hl hm7 hg7)
      clear E1 E2 E3 g5 z5 o5 SRC M4 b2 b3 b4 HM HB
      obtain ⟨xs, hxs⟩ : ∃ xs, grpQ X VS i K = xs := ⟨_, rfl⟩
      rw [hxs] at HO5 FIN GL
      obtain ⟨sv, hsv⟩ : ∃ sv, SV K = sv := ⟨_, rfl⟩
      rw [hsv] at HO5 FIN HE3 HE1
      clear hxs hsv hkey EV HGS B2 M2 B4 LP
      go_wp2_with (first
        | (refine stKQ w2 rfl _ _ rfl rfl K rfl K5.out K1.out ?_)
        | (refine ldKQ rfl _ rfl w2.heap.size 0 rfl K HRK.out K5.out ?_)
        | (refine wpList_entryQ rfl _ _ rfl (.map (some w.heap.size)) (.agg K) rfl rfl _ w5 HE1.out ?_)
        | (refine wpList_rows_at w5 rfl _ _ rfl (w.heap.size + 1) xs.length sv xs rfl HO5.out ⟨w2.heap.size + 1, 0, none⟩ 1 1 [.slice va n vc] rfl HSRC.out rfl (by intro u hu; simp at hu; subst hu; rfl) (by have := GL.out; omega) SZ5.out ?_; intro v6 w6 ho6 hg6 hl6; obtain ⟨w7, r7, m7, g7⟩ := HE3.out v6 w6 hg6; have R7 := Lib.hid r7; have F7 := Lib.hid (FIN.out v6 w6 w7 ho6 hg6 hl6 m7 g7); clear ho6 hg6 hl6 r7 m7 g7)
        | (refine wpList_storeQ rfl _ _ _ rfl (.map (some w.heap.size)) (goInt st) v6 rfl rfl rfl w7 R7.out ?_))
      go_roundw
      case rel => exact ⟨i + 1, by omega, by go_num, F7⟩
      case measure => simp [intOf]; omega
    · have hlt' : ¬ (i : Int) < (m : Int) := by omega
      obtain rfl : i = m := by omega
      go_wp2_with fail
      go_ret
      exact ⟨rfl, hI.out.1, hI.out.2⟩
end Go.Proofs.Ytcbfcpngpnlodaa
end
section
namespace Go.Proofs.Ytcbfcpngpnlodaa
open Go.RowKit
set_option linter.unusedVariables false
set_option maxRecDepth 100000

theorem ownNil (w : World) :
    Calls Try.prog 90 #[.slice none 0 0] w fun e w' => ∃ u, e = .returned u ∧ w'.ownsRow w.heap.size 2 1 u 0 [] ∧ Below w.heap.size w w' := by
  obtain ⟨i0, hi, hz0, hz1, hz2⟩ := info_parts Try.info2
  go_enter Try.func90, Try.ntmps90
  go_wp2_with (at_builtin; refine wpList_append_own_none rfl _ _ 22 rfl w.heap.size 2 i0 1 Try.underlying22 hi _ 0 [] rfl (World.ownsRow_made w #[] 0 (Nat.le_refl _) (Nat.zero_le _) (by simp)) rfl ?_)
  go_ret
  exact ⟨_, rfl, World.ownsRow_made w #[] 0 (Nat.le_refl _) (Nat.zero_le _) (by simp), (Below.refl _ w).alloc (Nat.le_refl _) _⟩

theorem ownAny (v : Value) (zs : List Int) (B : Nat) (w : World) (hn : zs.length ≤ 1000000) (h : w.ownsRow B 2 1 v zs.length (zs.map (Value.int .i64))) :
    Calls Try.prog 90 #[v] w fun e w' => ∃ u, e = .returned u ∧ w'.ownsRow w.heap.size 2 1 u zs.length (zs.map (Value.int .i64)) ∧ Below w.heap.size w w' := by
  rcases h.2 with ⟨rfl, h0⟩ | ⟨g, cap, cur, rfl, _⟩
  · have hz : zs = [] := List.eq_nil_of_length_eq_zero h0
    subst hz
    exact ownNil w
  · exact (l01Own_any g zs.length cap zs B w hn h).mono fun e w' ⟨u, a, b, _, c⟩ => ⟨u, a, b, c⟩

end Go.Proofs.Ytcbfcpngpnlodaa
end
