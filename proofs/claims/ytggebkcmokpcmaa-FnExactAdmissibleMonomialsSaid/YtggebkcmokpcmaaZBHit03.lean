/-
  Joined: WFam, OpenRows, WExt.
-/
import Derived.Test.YtggebkcmokpcmaaZBHit02
import Derived.Deep.Matrix
section
namespace Go.Proofs.Ytggebkcmokpcmaa
open Go.RowKit
set_option maxRecDepth 100000
set_option linter.unusedVariables false

/-- V owns a row of m slice values VS 0, .., each of which owns the numbers Y i. -/
structure Fam (w : World) (B : Nat) (V : Value) (m : Nat) (VS : Nat → Value) (Y : Nat → List Int) : Prop where
  out : w.ownsRow B 42 1 V m ((List.range m).map VS)
  inn : ∀ i, i < m → w.ownsRow B 2 1 (VS i) (Y i).length ((Y i).map (Value.int .i64))

/-- The rows do not share memory. -/
def Sep (m : Nat) (VS : Nat → Value) : Prop := ∀ i j, i < m → j < m → i ≠ j → (VS i).ownBlock = none ∨ (VS i).ownBlock ≠ (VS j).ownBlock

theorem Fam.below {w w' : World} {B : Nat} {V : Value} {m : Nat} {VS : Nat → Value} {Y : Nat → List Int} (h : Fam w B V m VS Y) (k : Below w.heap.size w w') : Fam w' B V m VS Y :=
  ⟨own_below h.out k, fun i hi => own_below (h.inn i hi) k⟩

theorem Fam.drewN {w : World} {B : Nat} {V : Value} {m : Nat} {VS : Nat → Value} {Y : Nat → List Int} (h : Fam w B V m VS Y) (q : Nat) : Fam (w.drewN q) B V m VS Y := ⟨h.out, h.inn⟩

/-- What lies below C stays when all that lies below C stays. -/
theorem own_lowC {w w' : World} {B C : Nat} {v : Value} {n : Nat} {xs : List Value} {e : TypeId} {s : Nat} (h : w.ownsRow B e s v n xs) (hc : ∀ g, v.ownBlock = some g → g < C) (k : Below C w w') : w'.ownsRow B e s v n xs :=
  own_sameblock h fun g hg => k.block g (hc g hg)

theorem Fam.lowC {w w' : World} {B C : Nat} {V : Value} {m : Nat} {VS : Nat → Value} {Y : Nat → List Int} (h : Fam w B V m VS Y) (hV : ∀ g, V.ownBlock = some g → g < C) (hS : ∀ i, i < m → ∀ g, (VS i).ownBlock = some g → g < C) (k : Below C w w') : Fam w' B V m VS Y :=
  ⟨own_lowC h.out hV k, fun i hi => own_lowC (h.inn i hi) (hS i hi) k⟩

/-- The shape of a family's head. -/
theorem Fam.head {w : World} {B : Nat} {V : Value} {m : Nat} {VS : Nat → Value} {Y : Nat → List Int} (h : Fam w B V m VS Y) : ∃ a cap, V = .slice a m cap ∧ m ≤ maxLen ∧ (m = 0 ∨ ∃ b, a = some ⟨b, 0, none⟩ ∧ ∀ i, i < m → w.cell? ⟨b, i, none⟩ = some (VS i)) := by
  rcases h.out.2 with ⟨rfl, h0⟩ | ⟨g, cap, cur, rfl, hb, hg, h1, h2, h3, h4⟩
  · exact ⟨none, 0, by rw [h0], by rw [h0]; exact Nat.zero_le _, .inl h0⟩
  · refine ⟨_, cap, rfl, Nat.le_trans h1 h2, .inr ⟨g, rfl, fun i hi => ?_⟩⟩
    rw [h.out.cellAt i (by omega)]
    simp [hi]

theorem Fam.rd {w : World} {B : Nat} {V : Value} {m : Nat} {VS : Nat → Value} {Y : Nat → List Int} (h : Fam w B V m VS Y) (i : Nat) (hi : i < m) : RdI w (VS i) (Y i).length (fun j => (Y i)[j]?.getD 0) :=
  rd_of_own (h.inn i hi) rfl

theorem eqInt64SS_same (Va Vb : Value) (m : Nat) (Ba Bb : Nat) (VA VB : Nat → Value) (Y : Nat → List Int) (w : World) (ha : Fam w Ba Va m VA Y) (hb : Fam w Bb Vb m VB Y) :
    Calls Try.prog 23 #[Va, Vb] w fun e w' => e = .returned (.bool true) ∧ ∃ q, w' = w.drewN q := by
  obtain ⟨aa, capa, rfl, hm, hca⟩ := ha.head
  obtain ⟨ab, capb, rfl, _, hcb⟩ := hb.head
  unfold maxLen at hm
  have RA := Lib.hid ha.rd
  have RB := Lib.hid hb.rd
  clear ha hb
  by_cases h0 : m = 0
  · subst h0
    clear hca hcb RA RB
    go_enter Try.func23, Try.ntmps23
    go_wp2
    refine wp_loop_rounds 1 ?_
    rw [rounds_succ]
    go_wp2
    go_ret
    exact ⟨rfl, 0, rfl⟩
  · obtain ⟨ba, rfl, hca'⟩ := hca.resolve_left h0
    obtain ⟨bb, rfl, hcb'⟩ := hcb.resolve_left h0
    have hpos : 0 < m := by omega
    have HA := Lib.hid hca'
    have HB := Lib.hid hcb'
    clear hca hcb hca' hcb' h0
    go_enter Try.func23, Try.ntmps23
    go_wp2
    go_loopw [5] (fun i wr => ∃ k q : Nat, k ≤ m ∧ i = .int .i64 k ∧ Hid (wr = w.drewN q)) (fun i _ => m - (intOf i).toNat)
    case atStart => exact ⟨0, 0, by omega, rfl, Lib.hid rfl⟩
    case round =>
      obtain ⟨k, q, hk, rfl, hw⟩ := hrel
      by_cases hlt : k < m
      · have c1 : wr.cell? ⟨ba, k, none⟩ = some (VA k) := by rw [hw.out]; exact HA.out k hlt
        have c2 : wr.cell? ⟨bb, k, none⟩ = some (VB k) := by rw [hw.out]; exact HB.out k hlt
        have hlt' : (k : Int) < (m : Int) := by omega
        have E : ∀ n, Calls Try.prog 35 #[VA k, VB k] (wr.drewN n) fun e w' => e = .returned (.bool true) ∧ ∃ p, w' = (wr.drewN n).drewN p := by
          intro n
          have e1 : RdI (wr.drewN n) (VA k) (Y k).length (fun j => (Y k)[j]?.getD 0) := by rw [hw.out]; exact RA.out k hlt
          have e2 : RdI (wr.drewN n) (VB k) (Y k).length (fun j => (Y k)[j]?.getD 0) := by rw [hw.out]; exact RB.out k hlt
          exact eqInt64S_same _ _ _ _ _ e1 e2
        have E := Lib.hid E
        generalize VA k = va at c1 E
        generalize VB k = vb at c2 E
        go_wp2
        go_quiet ((go_at_call 35; exact Calls.quiet_of (E.out _)))
        go_wp2
        go_roundw
        case rel => exact ⟨k + 1, q + nq, by omega, by go_num, Lib.hid (by rw [hw.out]; exact World.drewN_drewN ..)⟩
        case measure => simp [intOf]; omega
      · go_wp2
        go_ret
        exact ⟨rfl, q, hw.out⟩

/-- The first number of row i, if the numbers k, k + 1, .. are laid into the rows one after the other. -/
def off (k : Int) (L : Nat → Nat) : Nat → Int
  | 0 => k
  | i + 1 => off k L i + (L i : Int)
theorem off_mono (k : Int) (L : Nat → Nat) (i j : Nat) : off k L i ≤ off k L (i + j) := by
  induction j with
  | zero => exact Int.le_refl _
  | succ j ih => rw [← Nat.add_assoc, off]; omega
theorem off_le (k : Int) (L : Nat → Nat) (i m : Nat) (h : i ≤ m) : off k L i ≤ off k L m := by
  obtain ⟨j, rfl⟩ : ∃ j, m = i + j := ⟨m - i, by omega⟩
  exact off_mono k L i j
theorem off_low (k : Int) (L : Nat → Nat) (i : Nat) : k ≤ off k L i := by
  have h := off_mono k L 0 i
  rw [Nat.zero_add] at h
  exact h

/-- The rows behind the marking of the first j. -/
def mkd (k : Int) (Y : Nat → List Int) (j : Nat) (i : Nat) : List Int := if i < j then marks (off k (fun i => (Y i).length) i) (Y i).length else Y i
theorem mkd_len (k : Int) (Y : Nat → List Int) (j i : Nat) : (mkd k Y j i).length = (Y i).length := by
  unfold mkd
  split
  · exact marks_length _ _
  · rfl

theorem markInt64SS_own (V : Value) (m : Nat) (B : Nat) (VS : Nat → Value) (Y : Nat → List Int) (w : World) (h : Fam w B V m VS Y) (hs : Sep m VS)
    (hk : off 1 (fun i => (Y i).length) m ≤ 1152921504606846976) :
    Calls Try.prog 24 #[V, .int .i64 1] w fun e w' => e = .returned (.int .i64 (off 1 (fun i => (Y i).length) m)) ∧ Fam w' B V m VS (mkd 1 Y m) ∧ Below B w w' := by
  obtain ⟨a, cap, hV, hm, hc⟩ := h.head
  unfold maxLen at hm
  by_cases h0 : m = 0
  · subst h0
    subst hV
    clear hc
    have H := Lib.hid h
    go_enter Try.func24, Try.ntmps24
    go_wp2
    refine wp_loop_rounds 1 ?_
    rw [rounds_succ]
    go_wp2
    go_ret
    exact ⟨rfl, ⟨H.out.out, fun i hi => absurd hi (by omega)⟩, Below.refl _ _⟩
  · obtain ⟨b, rfl, hc'⟩ := hc.resolve_left h0
    have hB0 : B ≤ b := by
      have := h.out.lt b (by rw [hV]; rfl)
      exact this.1
    have HK := Lib.hid hk
    have HS := Lib.hid hs
    have H := Lib.hid h
    have HV := Lib.hid hV
    generalize hL : (fun i => (Y i).length) = L at hk ⊢
    have HL := Lib.hid hL
    clear hL hc hc' h0 hs h
    rw [HV.out]
    clear hV
    go_enter Try.func24, Try.ntmps24
    go_wp2
    go_loopw [1, 5] (fun c i wr => ∃ j : Nat, j ≤ m ∧ i = .int .i64 j ∧ c = .int .i64 (off 1 L j) ∧ Hid (Fam wr B V m VS (mkd 1 Y j)) ∧ Hid (Below B w wr)) (fun _ i _ => m - (intOf i).toNat)
    case atStart => exact ⟨0, by omega, rfl, rfl, Lib.hid ⟨H.out.out, fun i hi => by rw [show mkd 1 Y 0 i = Y i by unfold mkd; rw [if_neg (by omega)]]; exact H.out.inn i hi⟩, Lib.hid (Below.refl _ _)⟩
    case round =>
      obtain ⟨j, hj, rfl, rfl, hF, hB⟩ := hrel
      by_cases hlt : j < m
      · have hlt' : (j : Int) < (m : Int) := by omega
        have c1 : wr.cell? ⟨b, j, none⟩ = some (VS j) := by
          obtain ⟨a', cap', hV', _, hc'⟩ := hF.out.head
          rw [HV.out] at hV'
          cases hV'
          obtain ⟨b', e, hc''⟩ := hc'.resolve_left (by omega)
          cases e
          exact hc'' j hlt
        have hlow := off_low 1 L j
        have hup := off_le 1 L (j + 1) m (by omega)
        have hsm : off 1 L m ≤ 1152921504606846976 := by rw [← HL.out]; exact HK.out
        have hnx : off 1 L (j + 1) = off 1 L j + (L j : Int) := rfl
        have hY : mkd 1 Y j j = Y j := by unfold mkd; rw [if_neg (by omega)]
        have hLj : (Y j).length = L j := by rw [← HL.out]
        have hin := hF.out.inn j hlt
        rw [hY, hLj] at hin
        have M := Lib.hid (markInt64S_own (VS j) (L j) _ (off 1 L j) B wr (by omega) (by omega) (by omega) hin)
        have NX : Hid (off 1 L (j + 1) = off 1 L j + (L j : Int)) := Lib.hid hnx
        clear hin hY hLj hnx hup hlow hsm hk
        generalize hvj : VS j = vj at c1 M
        have HVJ := Lib.hid hvj
        clear hvj
        go_wp2_with fail
        refine M.out.mono ?_
        rintro e w2 ⟨rfl, ho2, hg2, hs2⟩
        have F2 : Hid (Fam w2 B V m VS (mkd 1 Y (j + 1))) := by
          refine Lib.hid ⟨?_, fun i hi => ?_⟩
          · refine hF.out.out.kept hg2 ?_
            rw [← HVJ.out]
            exact own_types hF.out.out (hF.out.inn j hlt) (by decide)
          · by_cases e : i = j
            · subst e
              have e2 : mkd 1 Y (i + 1) i = marks (off 1 L i) (L i) := by unfold mkd; rw [if_pos (by omega), HL.out, ← HL.out]
              rw [e2, marks_length, HVJ.out]
              exact ho2
            · have e2 : mkd 1 Y (j + 1) i = mkd 1 Y j i := by
                unfold mkd
                by_cases h1 : i < j
                · rw [if_pos h1, if_pos (by omega)]
                · rw [if_neg h1, if_neg (by omega)]
              rw [e2]
              refine (hF.out.inn i hi).kept hg2 ?_
              rw [← HVJ.out]
              exact HS.out i j hi hlt e
        have hsz : B ≤ wr.heap.size := by
          have h1 := (hF.out.out.lt b (by rw [HV.out]; rfl))
          omega
        have B2 : Hid (Below B w w2) := Lib.hid (hB.out.grown hg2 hsz (fun k hk2 => ((hF.out.inn j hlt).lt k (by rw [HVJ.out]; exact hk2.symm ▸ rfl)).1))
        clear hg2 ho2 hs2 hF hB M
        go_wp2
        go_roundw
        case rel => exact ⟨j + 1, by omega, by go_num, by rw [NX.out], F2, B2⟩
        case measure => simp [intOf]; omega
      · obtain rfl : j = m := by omega
        go_wp2
        go_ret
        exact ⟨rfl, by rw [← HV.out]; exact hF.out, hB.out⟩

theorem heldInt64SS_own (V : Value) (m : Nat) (B : Nat) (VS : Nat → Value) (Y : Nat → List Int) (w : World) (h : Fam w B V m VS (mkd 1 Y m))
    (hk : off 1 (fun i => (Y i).length) m ≤ 1152921504606846976) :
    Calls Try.prog 25 #[V, .int .i64 1] w fun e w' => e = .returned (.int .i64 (off 1 (fun i => (Y i).length) m)) ∧ w = w' := by
  obtain ⟨a, cap, rfl, hm, hc⟩ := h.head
  unfold maxLen at hm
  by_cases h0 : m = 0
  · subst h0
    clear hc h
    go_enter Try.func25, Try.ntmps25
    go_wp2
    refine wp_loop_rounds 1 ?_
    rw [rounds_succ]
    go_wp2
    go_ret
    exact ⟨rfl, rfl⟩
  · obtain ⟨b, rfl, hc'⟩ := hc.resolve_left h0
    have HK := Lib.hid hk
    have H := Lib.hid h
    have HC := Lib.hid hc'
    generalize hL : (fun i => (Y i).length) = L at hk ⊢
    have HL := Lib.hid hL
    clear hL hc hc' h0 h
    go_enter Try.func25, Try.ntmps25
    go_wp2
    go_loop [1, 5] (fun c i => ∃ j : Nat, j ≤ m ∧ i = .int .i64 j ∧ c = .int .i64 (off 1 L j)) (fun _ i => m - (intOf i).toNat)
    case atStart => exact ⟨0, by omega, rfl, rfl⟩
    case round =>
      obtain ⟨j, hj, rfl, rfl⟩ := hrel
      by_cases hlt : j < m
      · have hlt' : (j : Int) < (m : Int) := by omega
        have c1 := HC.out j hlt
        have hlow := off_low 1 L j
        have hup := off_le 1 L (j + 1) m (by omega)
        have hsm : off 1 L m ≤ 1152921504606846976 := by rw [← HL.out]; exact HK.out
        have hnx : off 1 L (j + 1) = off 1 L j + (L j : Int) := rfl
        have hY : mkd 1 Y m j = marks (off 1 L j) (L j) := by unfold mkd; rw [if_pos hlt, ← HL.out]
        have hin := H.out.inn j hlt
        rw [hY, marks_length] at hin
        have M := Lib.hid (heldInt64S_own (VS j) (L j) (off 1 L j) B w (by omega) (by omega) (by omega) hin)
        have NX : Hid (off 1 L (j + 1) = off 1 L j + (L j : Int)) := Lib.hid hnx
        have hge : ¬ off 1 L j + (L j : Int) < 0 := by omega
        clear hin hY hnx hup hlow hsm hk
        generalize VS j = vj at c1 M
        go_wp2_with (go_at_call 37; refine M.out.mono ?_; rintro e w2 ⟨rfl, rfl⟩)
        go_round
        case rel => exact ⟨j + 1, by omega, by go_num, by rw [NX.out]⟩
        case measure => simp [intOf]; omega
      · obtain rfl : j = m := by omega
        go_wp2
        go_ret
        exact ⟨rfl, rfl⟩
end Go.Proofs.Ytggebkcmokpcmaa
end
section
namespace Go.Proofs.Ytggebkcmokpcmaa
open Go.RowKit Go.Deep
set_option maxRecDepth 100000
set_option linter.unusedVariables false

/-- V reads as the m lists X 0, X 1, .. -/
structure RdSS (w : World) (V : Value) (m : Nat) (X : Nat → List Int) : Prop where
  head : ∃ a cap, V = .slice a m cap
  small : m ≤ maxLen
  rows : ∃ VS : Nat → Value, (m = 0 ∨ ∃ b off, (∃ cap, V = .slice (some ⟨b, off, none⟩) m cap) ∧ ∀ i, i < m → w.cell? ⟨b, off + i, none⟩ = some (VS i)) ∧ ∀ i, i < m → RdI w (VS i) (X i).length (fun j => (X i)[j]?.getD 0)

theorem Fam.rdss {w : World} {B : Nat} {V : Value} {m : Nat} {VS : Nat → Value} {Y : Nat → List Int} (h : Fam w B V m VS Y) : RdSS w V m Y := by
  obtain ⟨a, cap, e, hm, hc⟩ := h.head
  refine ⟨⟨a, cap, e⟩, hm, VS, ?_, fun i hi => h.rd i hi⟩
  rcases hc with h0 | ⟨b, rfl, hc⟩
  · exact .inl h0
  · exact .inr ⟨b, 0, ⟨cap, e⟩, fun i hi => by rw [Nat.zero_add]; exact hc i hi⟩

theorem RdSS.below {w w' : World} {V : Value} {m : Nat} {X : Nat → List Int} (h : RdSS w V m X) (k : Below w.heap.size w w') : RdSS w' V m X := by
  obtain ⟨h1, h2, VS, h3, h4⟩ := h
  refine ⟨h1, h2, VS, ?_, fun i hi => (h4 i hi).below k⟩
  rcases h3 with h0 | ⟨b, off, e, hc⟩
  · exact .inl h0
  · exact .inr ⟨b, off, e, fun i hi => (k.cell (p := ⟨b, off + i, none⟩) (World.block_lt_of_cell? w _ (hc i hi))).trans (hc i hi)⟩

theorem RdSS.drewN {w : World} {V : Value} {m : Nat} {X : Nat → List Int} (h : RdSS w V m X) (q : Nat) : RdSS (w.drewN q) V m X := ⟨h.head, h.small, h.rows⟩

/-- What the walk is told of such an argument. -/
def IsRows (w : World) (a : Option Addr) (m cap : Nat) (X : Nat → List Int) : Prop := RdSS w (.slice a m cap) m X

theorem add_none (b off i : Nat) : (⟨b, off, none⟩ : Addr).add i = ⟨b, off + i, none⟩ := by
  by_cases h6 : i = 0
  · subst h6; simp [Addr.add]
  · simp [Addr.add, h6]

theorem rd_take {w : World} {A : Option Addr} {L C : Nat} {Z : List Int} (hL : L ≤ C) (hC : C ≤ maxLen) (hZ : Z.length = C) (hn : A = none → C = 0)
    (hc : ∀ a', A = some a' → ∀ c, c < C → w.cell? (a'.add c) = some (.int .i64 (Z.getD c 0))) : RdI w (.slice A L C) (Z.take L).length (fun j => (Z.take L)[j]?.getD 0) := by
  have hl : (Z.take L).length = L := by rw [List.length_take]; omega
  rw [hl]
  refine ⟨A, C, rfl, Nat.le_trans hL hC, ?_⟩
  by_cases h0 : L = 0
  · exact .inl h0
  · cases hA : A with
    | none => have := hn hA; omega
    | some a' =>
      obtain ⟨b, off, spot⟩ := a'
      have h1 := hc _ hA 0 (by omega)
      have hs : spot = none := by simpa [Addr.add] using World.cell?_spot h1
      subst hs
      refine .inr ⟨b, off, rfl, fun i hi => ?_⟩
      have h2 := hc _ hA i (by omega)
      rw [add_none] at h2
      rw [h2]
      show _ = some (Value.int .i64 ((List.take L Z)[i]?.getD 0))
      rw [List.getElem?_take, if_pos hi, List.getD_eq_getElem?_getD]

theorem open_rows {H : Type} {enc : TypeId × Value → H} {w : World} {base : Nat} {held : Bool} {a : Option Addr} {m cap : Nat} {d : DataW H} {p : List MemPlace}
    (h : ∃ fuel, DataW.trod enc Try.prog w base (fun _ => true) held fuel 25 (Value.slice a m cap).cells.toList = some (d, p)) : ∃ X, IsRows w a m cap X := by
  obtain ⟨fuel, hf⟩ := h
  rcases open_int_rows Try.underlying25 Try.underlying42 Try.underlying2 (by kernel_rfl) (by kernel_rfl) hf with ⟨hcs, _⟩ | ⟨x, len', cap', A, L, C, Z, hcs, _, hl, hm, _, hrows⟩
  · simp [Value.cells] at hcs
    obtain ⟨rfl, rfl, rfl⟩ := hcs
    exact ⟨fun _ => [], ⟨_, _, rfl⟩, Nat.zero_le _, fun _ => undef, .inl rfl, fun i hi => absurd hi (Nat.not_lt_zero _)⟩
  · simp [Value.cells] at hcs
    obtain ⟨rfl, rfl, rfl⟩ := hcs
    refine ⟨fun i => (Z i).take (L i), ⟨_, _, rfl⟩, Nat.le_trans hl hm, fun i => .slice (A i) (L i) (C i), ?_, fun i hi => ?_⟩
    · by_cases h0 : m = 0
      · exact .inl h0
      · obtain ⟨b, off, spot⟩ := x
        have h1 := (hrows 0 (by omega)).1
        have hs : spot = none := by simpa [Addr.add] using World.cell?_spot h1
        subst hs
        refine .inr ⟨b, off, ⟨_, rfl⟩, fun i hi => ?_⟩
        have h2 := (hrows i (by omega)).1
        rw [add_none] at h2
        exact h2
    · obtain ⟨_, r1, r2, r3, _, r5, r6⟩ := hrows i (by omega)
      exact rd_take r1 r2 r3 r5 (fun a' ha c hc => (r6 a' ha).2 c hc)
end Go.Proofs.Ytggebkcmokpcmaa
end
section
namespace Go.Proofs.Ytggebkcmokpcmaa
open Go.RowKit
set_option maxRecDepth 100000
set_option linter.unusedVariables false

theorem Try.infoS : (Try.prog.info? 42).map (fun i => (i.zero, i.size, i.bytes)) = some (some (.slice none 0 0), 1, 24) := by kernel_rfl
def ext (VS : Nat → Value) (m : Nat) (v : Value) : Nat → Value := fun i => if i < m then VS i else v
end Go.Proofs.Ytggebkcmokpcmaa
end
