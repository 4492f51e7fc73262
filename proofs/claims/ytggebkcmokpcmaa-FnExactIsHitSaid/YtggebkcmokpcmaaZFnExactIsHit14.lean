/-
  Joined: HNorm, LFnExactIsHit, PFnExactIsHit.
-/
import Derived.Test.YtggebkcmokpcmaaZFnExactIsHit13
import Derived.Test.YtggebkcmokpcmaaZBHit13
import Derived.Test.YtggebkcmokpcmaaRows
import Derived.WalkKit
import Derived.ProofKit
import Derived.OpenShut
import Derived.ShutString
import Derived.ChangeOld
import Derived.Below
section
namespace Go.Proofs.Ytggebkcmokpcmaa.Pl
open Go.RowKit
set_option linter.unusedVariables false
set_option maxRecDepth 100000

theorem addR_empty (own : List (List Int)) : addR [] own = [] := by
  unfold addR
  rw [if_neg (by simp)]
theorem remR_empty : ∀ R : List (List (List Int)), remR R [] = []
  | [] => rfl
  | r :: R => by
    show remR R (addR [] r) = []
    rw [addR_empty]
    exact remR_empty R
theorem fam_rows {w : World} {B m : Nat} {V : Value} {VS : Nat → Value} {X : Nat → List Int} (h : Fam w B V m VS X) : FamL w 0 V VS (rowsL X m) := by
  have hl : (rowsL X m).length = m := rowsL_len X m
  have e : ∀ i, i < m → rowsOf (rowsL X m) i = X i := fun i hi => by unfold rowsOf rowsL; simp [hi]
  refine ⟨?_, fun i hi => ?_⟩
  · rw [hl]; exact own_base h.out (Nat.zero_le _)
  · rw [hl] at hi
    rw [e i hi]
    exact own_base (h.inn i hi) (Nat.zero_le _)

/-- What the specification's and the program's walk want to know of a polynomial. -/
structure NoC (k0 : Int) (m : Nat) (X : Nat → List Int) (f d : Nat) : Prop where
  ok : okPl k0 X m
  hf : f < 4
  hd : d ≤ 40
  hk : k0 = ((f + 1 : Nat) : Int)
  dg : dgP X m = (d : Int)
  tm : OkT (TmP f d) (rowsL X m)
theorem noC {k0 : Int} {m : Nat} {X : Nat → List Int} (h : okPl k0 X m) : ∃ f d, NoC k0 m X f d := by
  have hk := h.1
  have hx := dgP_bnd h
  refine ⟨k0.toNat - 1, (dgP X m).toNat, h, by omega, by omega, by omega, by omega, h.asc, fun t ht => ⟨?_, ?_⟩⟩
  · rw [h.len t ht]; omega
  · exact h.mono _ (List.mem_map.2 ⟨t, ht, rfl⟩)
theorem NoC.code {k0 : Int} {m f d : Nat} {X : Nat → List Int} (h : NoC k0 m X f d) : hcOf k0 (d : Int) = if cn f d ≤ 100 then 0 else 3 := by
  have h1 := h.hf; have h2 := h.hd; have h3 := h.hk
  have hm : moIn k0 (d : Int) := ⟨⟨by omega, by omega⟩, by omega, by omega⟩
  unfold hcOf
  rw [if_pos hm, show k0.toNat - 1 = f by omega, Int.toNat_natCast]
theorem NoC.zero {k0 : Int} {m f d : Nat} {X : Nat → List Int} (h : NoC k0 m X f d) (hm : m = 0) : cn f d ≤ 100 := by
  have : d = 0 := by
    have h1 := h.dg
    rw [show dgP X m = 0 from if_pos hm] at h1
    omega
  rw [this, cn_zero]
  decide
/-- The terms of the normal form. -/
def nfT (f d : Nat) (L : List (List Int)) : List (List Int) := remR (hitR f d) L
theorem NoC.nf {k0 : Int} {m f d : Nat} {X : Nat → List Int} (h : NoC k0 m X f d) (hc : cn f d ≤ 100) : OkT (TmP f d) (nfT f d (rowsL X m)) ∧ (nfT f d (rowsL X m)).length ≤ 100 ∧ RowsOk (TmP f d) (hitR f d) ∧ (hitR f d).length ≤ 600 := by
  obtain ⟨a, b⟩ := hitTo_ok h.hf h.hd hc 6
  have c : OkT (TmP f d) (nfT f d (rowsL X m)) := h.tm.remAll a
  exact ⟨c, Nat.le_trans (tms_len h.hf c.asc c.all) hc, a, b⟩

theorem specPC {k0 : Int} {m f d : Nat} {X : Nat → List Int} (h : NoC k0 m X f d) (a0 : Option Addr) (q0 : Nat) (w : World) (ha : RdSS w (.slice a0 m q0) m X) :
    Hid (∀ wx, Below w.heap.size w wx → Calls Try.prog 48 #[.agg #[.int .i64 k0, .slice a0 m q0]] wx (SaysV (.int .i64 (if cn f d ≤ 100 then 0 else 3)) wx)) := Lib.hid fun wx hb => by
  have hax := ha.below hb
  have IS : Hid (∀ wy, Below wx.heap.size wx wy → Calls Try.prog 67 #[.agg #[.int .i64 k0, .slice a0 m q0]] wy (SaysB true wy)) := Lib.hid fun wy hy => (isP_yes k0 X m h.ok).1 _ wy (hax.below hy)
  by_cases hm : m = 0
  · rw [if_pos (h.zero hm)]
    subst hm
    exact l09Poly_zero k0 a0 q0 wx IS
  · obtain ⟨b0, o0, v0, q1, e0, c0, d0⟩ := headP h.ok (by omega) hax
    cases e0
    refine l09Poly_some f d k0 b0 o0 v0 m q0 wx (by omega) h.hf h.hd h.hk c0 ?_ IS
    rw [← h.dg, show dgP X m = sumL (X 0) from if_neg hm]
    exact d0
theorem specNM {k0 : Int} {m f d : Nat} {X : Nat → List Int} (h : NoC k0 m X f d) (hc : cn f d ≤ 100) (a0 : Option Addr) (q0 : Nat) (VA : Nat → Value) (Ba : Nat) (w : World) (ha : Fam w Ba (.slice a0 m q0) m VA X) :
    Hid (∀ wx, Below w.heap.size w wx → Calls Try.prog 49 #[.agg #[.int .i64 k0, .slice a0 m q0]] wx fun e w' => ∃ V VS, e = .returned V ∧ FamL w' 0 V VS (nfT f d (rowsL X m)) ∧ Below wx.heap.size wx w') := Lib.hid fun wx hb => by
  have hax := ha.rdss.below hb
  by_cases hm : m = 0
  · subst hm
    have e : nfT f d (rowsL X 0) = [] := remR_empty _
    rw [e]
    exact l09Normal_zero k0 a0 q0 wx
  · obtain ⟨b0, o0, v0, q1, e0, c0, d0⟩ := headP h.ok (by omega) hax
    cases e0
    refine l09Normal_some f d k0 b0 o0 v0 m q0 VA (rowsL X m) wx (by omega) (Lib.hid (rowsL_len X m).symm) h.hf h.hd hc h.hk c0 ?_ ((fam_rows ha).below hb) h.tm
    rw [← h.dg, show dgP X m = sumL (X 0) from if_neg hm]
    exact d0

theorem implNF {k0 : Int} {m f d : Nat} {X : Nat → List Int} (h : NoC k0 m X f d) (hc : cn f d ≤ 100) (a0 : Option Addr) (q0 : Nat) (w : World) (ha : RdSS w (.slice a0 m q0) m X) :
    Calls Try.prog 27 #[.agg #[.int .i64 k0, .slice a0 m q0]] w (ResY k0 (nfT f d (rowsL X m)) 0 w) := by
  obtain ⟨n1, n2, n3, n4⟩ := h.nf hc
  have hcode := h.code
  rw [if_pos hc] at hcode
  have hf := h.hf
  have et : ((nfT f d (rowsL X m)).map padY).map (List.take (f + 1)) = nfT f d (rowsL X m) := by
    rw [List.map_map]
    refine (List.map_congr_left fun t ht => ?_).trans (List.map_id _)
    exact padY_take (n1.all t ht).1
  have eR : remR (padR (hitR f d)) ((rowsL X m).map padY) = (nfT f d (rowsL X m)).map padY := remR_pad (k := f + 1) _ _ (fun t ht => (h.tm.all t ht).1) n3.wide
  have := implNo_ok (d : Int) (f + 1) k0 (hmOf k0 (d : Int)) ((rowsL X m).map padY) ((nfT f d (rowsL X m)).map padY) (hitR f d) a0 m q0 w h.hk (by omega)
    (Lib.hid fun wx hb => (isP_yes k0 X m h.ok).2 _ wx (ha.below hb)) (Lib.hid (by rw [← h.dg]; exact degP_any h.ok a0 q0 w ha))
    (Lib.hid fun wx => by have := hitMonomials_any k0 (d : Int) wx; unfold HmPost at this; rw [hcode] at this; exact this)
    (Lib.hid fun wx => hitSpaceOf_any f d k0 hf (by have := h.hk; omega) h.hd hc wx)
    (Lib.hid fun wx hb => by
      refine (packed_any k0 _ m X wx (ha.below hb) h.ok.few fun i hi => (h.ok.small i hi).1).mono ?_
      rintro e w' ⟨u, h1, h2, h3⟩
      have e2 : (rowsL X m).map keyY = ((rowsL X m).map padY).map pwK := by rw [List.map_map]; rfl
      rw [e2] at h2
      exact ⟨u, h1, own_base h2 (Nat.zero_le _), h3⟩)
    (Lib.hid fun wx S v zs B h1 h2 h3 => by
      have := remainder_any (PdP f d) S v zs ((rowsL X m).map padY) B wx (SmY_pd hf hc) h1 h3 (by rw [h2]; exact pd_rows n3) (pd_ok h.tm) (by
        have h4 : zs.length = (hitR f d).length := by rw [← rzR_len, h2]; unfold padR; rw [List.length_map]
        omega)
      rw [h2, eR] at this
      exact this)
    (Lib.hid fun z hz => by
      obtain ⟨t, ht, rfl⟩ := List.mem_map.1 hz
      exact padY_len (by rw [(n1.all t ht).1]; omega))
  rw [et, show fitC k0 (nfT f d (rowsL X m)) = k0 from if_pos (by omega), show fitL (nfT f d (rowsL X m)) = nfT f d (rowsL X m) from if_pos (by omega), show fitD (nfT f d (rowsL X m)) = 0 from if_pos (by omega)] at this
  exact this
theorem implNFo {k0 : Int} {m f d : Nat} {X : Nat → List Int} (h : NoC k0 m X f d) (hc : ¬ cn f d ≤ 100) (a0 : Option Addr) (q0 : Nat) (w : World) (ha : RdSS w (.slice a0 m q0) m X) :
    Calls Try.prog 27 #[.agg #[.int .i64 k0, .slice a0 m q0]] w (ResY 0 [] 3 w) := by
  have hcode := h.code
  rw [if_neg hc] at hcode
  exact implNo_over (d : Int) k0 3 (hmOf k0 (d : Int)) a0 m q0 w (by decide) (Lib.hid fun wx hb => (isP_yes k0 X m h.ok).2 _ wx (ha.below hb)) (Lib.hid (by rw [← h.dg]; exact degP_any h.ok a0 q0 w ha))
    (Lib.hid fun wx => by have := hitMonomials_any k0 (d : Int) wx; unfold HmPost at this; rw [hcode] at this; exact this)

theorem NormalForm_both (c0 : Int) (m : Nat) (X : Nat → List Int) :
    ∃ (C : Int) (L : List (List Int)) (cd : Int), L.length ≤ 4000 ∧ (∀ i, (rowsOf L i).length ≤ 20) ∧
      (∀ va VA Ba w, Fam w Ba va m VA X → Calls Try.prog 26 #[.agg #[.int .i64 c0, va]] w (ResY C L cd w)) ∧
      (∀ va w, RdSS w va m X → Calls Try.prog 27 #[.agg #[.int .i64 c0, va]] w (ResY C L cd w)) := by
  by_cases h0 : okPl c0 X m
  · obtain ⟨f, d, h⟩ := noC h0
    by_cases hc : cn f d ≤ 100
    · obtain ⟨n1, n2, _, _⟩ := h.nf hc
      have hf := h.hf
      refine ⟨c0, nfT f d (rowsL X m), 0, by omega, rows4 (fun t ht => (n1.all t ht).1) (by omega), ?_, ?_⟩
      · intro va VA Ba w ha
        obtain ⟨a0, q0, rfl⟩ := ha.rdss.head
        have PC := specPC h a0 q0 w ha.rdss
        rw [if_pos hc] at PC
        exact specNo_ok c0 _ a0 m q0 w ⟨by omega, fun t ht => by have := (n1.all t ht).1; omega⟩ PC (specNM h hc a0 q0 VA Ba w ha)
      · intro va w ha
        obtain ⟨a0, q0, rfl⟩ := ha.head
        exact implNF h hc a0 q0 w ha
    · refine ⟨0, [], 3, Nat.zero_le _, rows0, ?_, ?_⟩
      · intro va VA Ba w ha
        obtain ⟨a0, q0, rfl⟩ := ha.rdss.head
        have PC := specPC h a0 q0 w ha.rdss
        rw [if_neg hc] at PC
        exact specNo_bad c0 3 a0 m q0 w (by decide) PC
      · intro va w ha
        obtain ⟨a0, q0, rfl⟩ := ha.head
        exact implNFo h hc a0 q0 w ha
  · obtain ⟨s0, i0⟩ := isP_no c0 X m h0
    refine ⟨0, [], 1, Nat.zero_le _, rows0, ?_, ?_⟩
    · intro va VA Ba w ha
      obtain ⟨a0, q0, rfl⟩ := ha.rdss.head
      exact specNo_bad c0 1 a0 m q0 w (by decide) (Lib.hid fun wx hb => l09Poly_bad c0 a0 m q0 wx (Lib.hid fun wy hy => s0 _ wy ((ha.rdss.below hb).below hy)))
    · intro va w ha
      obtain ⟨a0, q0, rfl⟩ := ha.head
      exact implNo_bad c0 a0 m q0 w (Lib.hid fun wx hb => i0 _ wx (ha.below hb))

theorem IsHit_both (c0 : Int) (X : Nat → List Int) (m : Nat) : ∃ (x : Bool) (c : Int),
    (∀ V VA Ba w, Fam w Ba V m VA X → Calls Try.prog 17 #[.agg #[.int .i64 c0, V]] w (SaysV (.tuple #[.bool x, .int .i64 c]) w)) ∧
    (∀ V w, RdSS w V m X → Calls Try.prog 19 #[.agg #[.int .i64 c0, V]] w (SaysV (.tuple #[.bool x, .int .i64 c]) w)) := by
  by_cases h0 : okPl c0 X m
  · obtain ⟨f, d, h⟩ := noC h0
    by_cases hc : cn f d ≤ 100
    · refine ⟨(((nfT f d (rowsL X m)).length : Int) == 0), 0, ?_, ?_⟩
      · intro va VA Ba w ha
        obtain ⟨a0, q0, rfl⟩ := ha.rdss.head
        have PC := specPC h a0 q0 w ha.rdss
        rw [if_pos hc] at PC
        exact specHit_ok c0 _ a0 m q0 w PC (specNM h hc a0 q0 VA Ba w ha)
      · intro va w ha
        obtain ⟨a0, q0, rfl⟩ := ha.head
        have := implHit_any c0 c0 0 (nfT f d (rowsL X m)) a0 m q0 w (Lib.hid fun wx hb => implNF h hc a0 q0 wx (ha.below hb))
        simpa using this
    · refine ⟨false, 3, ?_, ?_⟩
      · intro va VA Ba w ha
        obtain ⟨a0, q0, rfl⟩ := ha.rdss.head
        have PC := specPC h a0 q0 w ha.rdss
        rw [if_neg hc] at PC
        exact specHit_bad c0 3 a0 m q0 w (by decide) PC
      · intro va w ha
        obtain ⟨a0, q0, rfl⟩ := ha.head
        exact implHit_any c0 0 3 [] a0 m q0 w (Lib.hid fun wx hb => implNFo h hc a0 q0 wx (ha.below hb))
  · obtain ⟨s0, i0⟩ := isP_no c0 X m h0
    refine ⟨false, 1, ?_, ?_⟩
    · intro va VA Ba w ha
      obtain ⟨a0, q0, rfl⟩ := ha.rdss.head
      exact specHit_bad c0 1 a0 m q0 w (by decide) (Lib.hid fun wx hb => l09Poly_bad c0 a0 m q0 wx (Lib.hid fun wy hy => s0 _ wy ((ha.rdss.below hb).below hy)))
    · intro va w ha
      obtain ⟨a0, q0, rfl⟩ := ha.head
      exact implHit_any c0 0 1 [] a0 m q0 w (Lib.hid fun wx hb => implNo_bad c0 a0 m q0 wx (Lib.hid fun wy hy => i0 _ wy ((ha.below hb).below hy)))
end Go.Proofs.Ytggebkcmokpcmaa.Pl
end
section
namespace Go.Proofs.Ytggebkcmokpcmaa.Pl
open Go.RowKit
set_option linter.unusedVariables false
set_option maxRecDepth 100000

theorem walk_FnExactIsHit (c0 : Int) (a0 : Option Addr) (len0 cap0 : Nat) (z0 : Nat → List Int) (w : World) (w0 : IsRows w a0 len0 cap0 z0) :
    Calls Try.prog 5 #[.agg #[.int .i64 c0, .slice a0 len0 cap0]] w fun e w' => e = .returned (.bool true) ∧ Below w.heap.size w w' := by
  have hr : RdSS w (.slice a0 len0 cap0) len0 z0 := w0
  clear w0
  have t1 := Try.underlying27
  have t2 := Try.underlying31
  have B0 : Hid (Below w.heap.size w (w.alloc (.cells #[.int .i64 c0, .slice a0 len0 cap0] 27))) := Lib.hid ((Below.refl w.heap.size w).alloc (Nat.le_refl _) _)
  have BX : Hid (Box (w.alloc (.cells #[.int .i64 c0, .slice a0 len0 cap0] 27)) w.heap.size 27 (.int .i64 c0) (.slice a0 len0 cap0)) := Lib.hid (Box.new w _ _ _)
  have R0 := Lib.hid (hr.below B0.out)
  clear hr
  by_cases hbig : len0 + tot z0 len0 ≤ 1048576
  · obtain ⟨x, cd, S, I⟩ := IsHit_both c0 z0 len0
    have S := Lib.hid S
    have I := Lib.hid I
    have HX : Hid (∀ i, i < len0 → (z0 i).length ≤ 1048576) := Lib.hid (fun i hi => by have := tot_one z0 i len0 hi; omega)
    have hm : len0 ≤ 1048576 := by omega
    go_enter Try.func5, Try.ntmps5
    go_wp2_with fail
    generalize (w.alloc (.cells #[.int .i64 c0, .slice a0 len0 cap0] 27)) = w1 at *
    have SZ := Lib.hid (szPoly_yes c0 _ len0 z0 1048576 w1 R0.out (by omega) hbig)
    have hge : ¬ ((1048576 : Nat) : Int) - ((len0 + tot z0 len0 : Nat) : Int) < 0 := by omega
    generalize ((1048576 : Nat) : Int) - ((len0 + tot z0 len0 : Nat) : Int) = lf at SZ hge
    clear hbig
    refine SZ.out.mono ?_
    rintro e w2 ⟨rfl, b2⟩
    have B2 := Lib.hid (B0.out.trans (b2.mono B0.out.size))
    have BX2 := Lib.hid (BX.out.up b2)
    have R2 := Lib.hid (R0.out.below b2)
    have d0 := BX2.out.c0
    have d0b := BX2.out.c1
    clear b2 B0 BX R0 SZ
    go_wp2_with fail
    refine (toPoly_any c0 _ len0 z0 w2 hm HX.out R2.out).mono ?_
    rintro e w3 ⟨u3, us3, rfl, f3, b3, _⟩
    have F3 := Lib.hid f3
    have B3 := Lib.hid (B2.out.trans (b3.mono B2.out.size))
    have BX3 := Lib.hid (BX2.out.up b3)
    have R3 := Lib.hid (R2.out.below b3)
    clear f3 b3 B2 BX2 R2 d0 d0b
    go_wp2_with fail
    refine (S.out u3 us3 _ w3 F3.out).mono ?_
    rintro e w4 ⟨rfl, b4⟩
    have B4 := Lib.hid (B3.out.trans (b4.mono B3.out.size))
    have BX4 := Lib.hid (BX3.out.up b4)
    have R4 := Lib.hid (R3.out.below b4)
    have d0 := BX4.out.c0
    have d0b := BX4.out.c1
    clear b4 B3 BX3 R3 F3
    go_wp2_with fail
    refine (toPoly_any c0 _ len0 z0 w4 hm HX.out R4.out).mono ?_
    rintro e w5 ⟨u5, us5, rfl, f5, b5, _⟩
    obtain ⟨ua, uc, rfl, _⟩ := f5.head
    have F5 := Lib.hid (f5.base (Nat.zero_le _))
    have B5 := Lib.hid (B4.out.trans (b5.mono B4.out.size))
    have BX5 := Lib.hid (BX4.out.up b5)
    have R5 := Lib.hid (R4.out.below b5)
    clear f5 b5 B4 BX4 R4 d0 d0b
    go_wp2_with fail
    have b6 : Below w5.heap.size w5 (w5.alloc (.cells #[.int .i64 c0, .slice ua len0 uc] 31)) := (Below.refl _ _).alloc (Nat.le_refl _) _
    have BY6 : Hid (Box (w5.alloc (.cells #[.int .i64 c0, .slice ua len0 uc] 31)) w5.heap.size 31 (.int .i64 c0) (.slice ua len0 uc)) := Lib.hid (Box.new _ _ _ _)
    have B6 := Lib.hid (B5.out.trans (b6.mono B5.out.size))
    have BX6 := Lib.hid (BX5.out.up b6)
    have F6 := Lib.hid (F5.out.below b6)
    have R6 := Lib.hid (R5.out.below b6)
    clear b6 B5 BX5 R5 F5
    generalize (w5.alloc (.cells #[.int .i64 c0, .slice ua len0 uc] 31)) = w6 at *
    refine (I.out _ w6 F6.out.rdss).mono ?_
    rintro e w7 ⟨rfl, b7⟩
    have BX7 := Lib.hid (BX6.out.up b7)
    have BY7 := Lib.hid (BY6.out.up b7)
    have F7 := Lib.hid (F6.out.below b7)
    have R7 := Lib.hid (R6.out.below b7)
    have B7 := Lib.hid (B6.out.trans (b7.mono B6.out.size))
    clear b7 B6 BX6 BY6 R6 F6
    have KEEP : Hid (∀ wx, Below w7.heap.size w7 wx → (wx.cell? ⟨w5.heap.size, 0, none⟩ = some (.int .i64 c0) ∧ wx.cell? ⟨w5.heap.size, 1, none⟩ = some (.slice ua len0 uc) ∧ wx.cell? ⟨w.heap.size, 0, none⟩ = some (.int .i64 c0) ∧ wx.cell? ⟨w.heap.size, 1, none⟩ = some (.slice a0 len0 cap0) ∧ Below w7.heap.size w7 wx)) :=
      Lib.hid (fun wx hb => ⟨(BY7.out.up hb).c0, (BY7.out.up hb).c1, (BX7.out.up hb).c0, (BX7.out.up hb).c1, hb⟩)
    have z0 : Below w7.heap.size w7 w7.drew := (Below.refl _ _).drew
    go_wp2_with fail
    go_region_held3 (fun wx => wx.cell? ⟨w5.heap.size, 0, none⟩ = some (.int .i64 c0) ∧ wx.cell? ⟨w5.heap.size, 1, none⟩ = some (.slice ua len0 uc) ∧ wx.cell? ⟨w.heap.size, 0, none⟩ = some (.int .i64 c0) ∧ wx.cell? ⟨w.heap.size, 1, none⟩ = some (.slice a0 len0 cap0) ∧ Below w7.heap.size w7 wx)
      (first | exact KEEP.out _ (Below.refl _ _).drew | exact KEEP.out _ (by assumption))
      (first | (go_at_call 18; refine (toPoly_any c0 _ len0 _ _ hm HX.out (R7.out.below z0)).mono ?_; rintro e w8 ⟨u8, us8, rfl, f8, b8, _⟩; have q8 := (F7.out.below z0).below b8; have z8 := z0.step1 b8) | (go_at_call 20; refine (eqPoly_same c0 _ _ len0 _ _ _ _ _ _ q8 f8).mono ?_; rintro e w9 ⟨rfl, b9⟩; have z9 := z8.step1 b9))
    have B9 := Lib.hid (B7.out.trans (z9.mono B7.out.size))
    go_wp2_with fail
    go_ret
    exact ⟨rfl, B9.out⟩
  · go_enter Try.func5, Try.ntmps5
    go_wp2_with fail
    refine (szPoly_over c0 _ len0 z0 1048576 _ R0.out (by omega) (by omega)).mono ?_
    rintro e w2 ⟨rfl, b2⟩
    have B2 := Lib.hid (B0.out.trans (b2.mono B0.out.size))
    go_wp2_with fail
    go_ret
    exact ⟨rfl, B2.out⟩
end Go.Proofs.Ytggebkcmokpcmaa.Pl
end
section
namespace Go.Proofs.Ytggebkcmokpcmaa.fnExactIsHit
open Go.ChangeShapes Go.WideShapes Go.ChangeAt Go.RowKit Go.Proofs.Ytggebkcmokpcmaa.Pl
open Go.ChangeMaps (open_string shut_string)
set_option maxRecDepth 100000
set_option linter.unusedVariables false

theorem own : ownKnob Try.prog.godebug = none := by kernel_rfl
theorem laidOut : laidOutB Try.prog = true := by kernel_rfl

set_option maxRecDepth 100000 in
theorem lifted (os : Os) (started : os.Started) (H : Type) (enc : TypeId × Value → H) :
    ReturnsInHanded {} Try.checked os 5 .any (Rows.fnExactIsHitSpec.pre6 enc Try.prog Try.f5 Rows.fnExactIsHitRow.domain false) (Rows.fnExactIsHitSpec.post enc Try.prog Try.f5 false true false false) := by
  refine returnsInHanded_of_change (C := Try.checked) own started (by kernel_rfl) Try.func5
    (ChangeSpec.witness6 (enc := enc) (C := Try.checked) false ⟨#[], #[.agg #[.int .i64 0, .slice none 0 0]], []⟩ 8 (by kernel_rfl) (by kernel_rfl) (by kernel_rfl) (by kernel_rfl)) ?_
  intro W base args ds gs before hval0 hW hcnd _
  have hval : ∀ (j : Nat) t v, Try.f5.params[j]? = some t → args[j]? = some v → Value.okWide Try.prog W .any base t v := hval0
  have hW' := hW
  obtain ⟨p, q, hA0, hV, rfl, hfz, hnd⟩ := hW
  have hA : DataW.TrodAll enc Try.prog W 0 (fun _ => true) true Try.f5.params.toList args.toList ds p := hA0
  rw [Try.params5] at hA hval
  obtain ⟨v0, vs0, d0, ds0, p0, q0, hargs, rfl, rfl, h0, r0⟩ := trodAll_cons hA
  obtain ⟨rfl, rfl, rfl⟩ := trodAll_nil r0
  obtain rfl : args = #[v0] := by cases args; simp_all
  obtain ⟨rfl, rfl⟩ := trodVars_none hV
  have k0 := h0
  have lt0 : ∀ x ∈ p0, x.block < W.heap.size := by obtain ⟨m, hm⟩ := k0; exact DataW.trod_lt m _ _ _ hm
  obtain ⟨c0, a0, len0, cap0, z0, rfl, w0⟩ := open_pl (hval 0 27 v0 rfl rfl) h0
  clear hA0 hval0
  refine (walk_FnExactIsHit c0 a0 len0 cap0 z0 W w0).mono fun e W' ⟨he, bel⟩ => ?_
  subst he
  exact ⟨_, rfl, _, _, _, [], _, [], hW', trodAll_mk1 (shut_bool Try.underlying4 _), (trodAll_cons_mk (Below.trod laidOut (by kernel_rfl) (of_decide_eq_true (by kernel_rfl)) k0 bel lt0) trodAll_mk0), rfl, bel.frame _, fun h => by cases h⟩

theorem over : Rows.fnExactIsHitRow.holds Try.pinned (OpenSpec.ofChange Rows.fnExactIsHitSpec) :=
  OpenClaim.holds_of_wide 5 Try.f5 rfl rfl rfl rfl rfl rfl rfl ⟨rfl, rfl, rfl, rfl, rfl⟩ rfl rfl rfl rfl rfl (by kernel_rfl) Try.func5 (by kernel_rfl)
    (of_decide_eq_true (by kernel_rfl)) (by unfold Func.isWrapper; first | (rw [if_pos (by decide +kernel)]; kernel_rfl) | (rw [if_neg (by decide +kernel)]; exact ⟨rfl, rfl⟩))
    (fun os started H enc _ => lifted os started H enc)

theorem proved : Rows.FnExactIsHitSaid := over
#print axioms proved
end Go.Proofs.Ytggebkcmokpcmaa.fnExactIsHit
end
