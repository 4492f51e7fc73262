/-
  Contract of (*impl.rowSpace).add.
-/
import Derived.Test.YtdojblmffmefgaaDoorDRem
import Derived.Deep.RegionHeld3
namespace Go.Proofs.YtdojblmffmefgaaDoor
open Go.RowKit
set_option linter.unusedVariables false
set_option maxRecDepth 100000

theorem grown_of_below {w w' : World} (k : Below w.heap.size w w') (o : Option Nat) : w.grownBy w' o := ⟨k.os, k.tape, k.output, k.size, fun i hi _ => k.block i hi⟩
theorem grown_trans {w w' w'' : World} {o : Option Nat} (h : w.grownBy w' o) (k : w'.grownBy w'' o) : w.grownBy w'' o :=
  ⟨k.os.trans h.os, k.tape.trans h.tape, k.output.trans h.output, Nat.le_trans h.size k.size, fun i hi hne => (k.block i (Nat.lt_of_lt_of_le hi h.size) hne).trans (h.block i hi hne)⟩
theorem grown_set {w w' : World} {g i : Nat} {v : Value} (h : w.grownBy w' (some g)) : w.grownBy (w'.setCell ⟨g, i, none⟩ v) (some g) :=
  ⟨h.os, h.tape, h.output, by simpa using h.size, fun b hb hne => (heap_setCell_other w' _ b v (fun e => hne (by simpa using e))).trans (h.block b hb hne)⟩
theorem Box.grownG {w w' : World} {b g : Nat} {t : TypeId} {x y : Value} (h : Box w b t x y) (k : w.grownBy w' (some g)) (hne : b ≠ g) : Box w' b t x y :=
  (k.block b h.lt (by simpa using hne)).trans h
theorem Sp.congr {w : World} {g : Nat} {S S' : Nat → TR} (h : Sp w g S) (e : ∀ j, j < 60 → S j = S' j) : Sp w g S' := by
  obtain ⟨cs, h1, h2, h3⟩ := h
  exact ⟨cs, h1, h2, fun j hj => by rw [← e j hj]; exact h3 j hj⟩
theorem Sp.ne_box {w : World} {b g : Nat} {t : TypeId} {x y : Value} {S : Nat → TR} (h : Sp w g S) (k : Box w b t x y) : b ≠ g := by
  intro e
  subst e
  obtain ⟨cs, h1, h2, _⟩ := h
  unfold Box at k
  rw [h1] at k
  simp only [Option.some.injEq, Obj.cells.injEq] at k
  rw [k.1] at h2
  simp at h2

theorem grown_new {w w' : World} {o : Option Nat} {b i : Nat} {v : Value} (h : w.grownBy w' o) (hb : w.heap.size ≤ b) : w.grownBy (w'.setCell ⟨b, i, none⟩ v) o :=
  ⟨h.os, h.tape, h.output, by simpa using h.size, fun k hk hne => (heap_setCell_other w' _ k v (show k ≠ b by omega)).trans (h.block k hk hne)⟩
theorem Sp.other {w : World} {g : Nat} {S : Nat → TR} (h : Sp w g S) (a : Addr) (v : Value) (hne : g ≠ a.block) : Sp (w.setCell a v) g S := by
  obtain ⟨cs, h1, h2⟩ := h
  exact ⟨cs, (heap_setCell_other w a g v hne).trans h1, h2⟩
/-- The array behind j rows of the joining. -/
def Sj (S : Nat → TR) (left : TR) (j : Nat) : Nat → TR := fun i => if i < j then nxt left i (S i) else S i

def AddRes (g : Nat) (S : Nat → TR) (r : TR) (w : World) (e : Ending) (w' : World) : Prop :=
  e = .returned (tv (rmd S r 60)) ∧ Sp w' g (addS S r) ∧ w.grownBy w' (some g)

set_option maxHeartbeats 4000000 in
theorem add_any (g : Nat) (S : Nat → TR) (r : TR) (w : World) (hS : Sp w g S) (ok : okS S) (hr : r.1 < 2 ^ 60 ∧ r.2 < 2 ^ 60) (hT : T0 w) (hg : g ≠ 0) :
    Calls Tryd.prog 93 #[.pointer (some ⟨g, 0, none⟩), tv r] w (AddRes g S r w) := by
  have HS := Lib.hid hS
  have OK := Lib.hid ok
  have HT := Lib.hid hT
  have HG := Lib.hid hg
  have hl := rmd_ok ok r hr 60 (Nat.le_refl _)
  have t3 := Tryd.underlying91
  have t4 := Tryd.underlying94
  have GL := Lib.hid hS.lt
  have B2 : Hid (Below w.heap.size w ((w.alloc (.cells #[.int .i64 ((r.1 : Nat) : Int), .int .i64 ((r.2 : Nat) : Int)] 91)).alloc (.cells #[.int .i64 0, .int .i64 0] 91))) := Lib.hid (((Below.refl w.heap.size w).alloc (Nat.le_refl _) _).alloc (by simp) _)
  have XR : Hid (Box ((w.alloc (.cells #[.int .i64 ((r.1 : Nat) : Int), .int .i64 ((r.2 : Nat) : Int)] 91)).alloc (.cells #[.int .i64 0, .int .i64 0] 91)) (w.heap.size + 1) 91 (.int .i64 0) (.int .i64 0)) := Lib.hid (by have := Box.new (w.alloc (.cells #[.int .i64 ((r.1 : Nat) : Int), .int .i64 ((r.2 : Nat) : Int)] 91)) 91 (.int .i64 0) (.int .i64 0); simpa using this)
  have RM := Lib.hid (remainder_any g S r _ (hS.up B2.out) ok hr)
  clear hS ok hT hg
  have EA : Hid (addS S r = if (rmd S r 60).1 = 0 then S else fun j => if j = tz (rmd S r 60).1 then rmd S r 60 else nxt (rmd S r 60) j (S j)) := Lib.hid rfl
  generalize hq : rmd S r 60 = left at *
  have HQ := Lib.hid hq
  clear hq
  unfold tv
  go_enter Tryd.func93, Tryd.ntmps93
  go_wp2_with fail
  generalize ((w.alloc (.cells #[.int .i64 ((r.1 : Nat) : Int), .int .i64 ((r.2 : Nat) : Int)] 91)).alloc (.cells #[.int .i64 0, .int .i64 0] 91)) = w2 at *
  refine RM.out.mono ?_
  rintro e w3 ⟨rfl, b3⟩
  have B3 := Lib.hid (B2.out.trans (b3.mono B2.out.size))
  have XR3 := Lib.hid (XR.out.up b3)
  clear b3 B2 XR RM
  unfold tv
  have XR4 := Lib.hid (XR3.out.alloc (.cells #[.int .i64 ((left.1 : Nat) : Int), .int .i64 ((left.2 : Nat) : Int)] 91))
  have XL4 := Lib.hid (Box.new w3 91 (.int .i64 ((left.1 : Nat) : Int)) (.int .i64 ((left.2 : Nat) : Int)))
  have B4 := Lib.hid (B3.out.alloc B3.out.size (.cells #[.int .i64 ((left.1 : Nat) : Int), .int .i64 ((left.2 : Nat) : Int)] 91))
  have NG : Hid (w3.heap.size ≠ g) := Lib.hid (by have := GL.out; have := B3.out.size; omega)
  have NG2 : Hid (w.heap.size + 1 ≠ g) := Lib.hid (by have := GL.out; omega)
  have NG3 : Hid (w.heap.size + 1 ≠ w3.heap.size) := Lib.hid (by have := XR3.out.lt; omega)
  have xr0 := XR4.out.c0
  have xr1 := XR4.out.c1
  have fr0 := XR4.out.fr 0
  have fr1 := XR4.out.fr 1
  by_cases h0 : left.1 = 0
  · have hb : (((left.1 : Nat) : Int) == 0) = true := by rw [h0]; rfl
    have E : Hid (addS S r = S) := Lib.hid (by rw [EA.out, if_pos h0])
    have F1 := Lib.hid ((XR4.out.set0 (.int .i64 ((left.1 : Nat) : Int))).set1 (.int .i64 ((left.2 : Nat) : Int)))
    have F2 := Lib.hid ((B4.out.setCell (p := ⟨w.heap.size + 1, 0, none⟩) (by simp) (.int .i64 ((left.1 : Nat) : Int))).setCell (p := ⟨w.heap.size + 1, 1, none⟩) (by simp) (.int .i64 ((left.2 : Nat) : Int)))
    clear h0 EA
    go_wp2
    refine bodyPost_ret (results_cell_row rfl _ _ (w.heap.size + 1) 91 _ (0, 0) _ rfl F1.out t3 rfl (by kernel_rfl)) rfl ?_
    exact ⟨by rw [HQ.out]; rfl, by rw [E.out]; exact HS.out.up F2.out, grown_of_below F2.out _⟩
  · have hb : (((left.1 : Nat) : Int) == 0) = false := by rw [beq_eq_false_iff_ne]; omega
    have tp := tz_lt60 left.1 h0 hl.1
    have E : Hid (addS S r = fun j => if j = tz left.1 then left else nxt left j (S j)) := Lib.hid (by rw [EA.out, if_neg h0])
    have PV := Lib.hid (fun w hT => pivot_any left.1 w h0 hl.1 hT)
    have HL := Lib.hid hl
    have TP := Lib.hid tp
    have HT4 := Lib.hid (HT.out.below B4.out)
    clear h0 EA hl
    have SP4 := Lib.hid (HS.out.up B4.out)
    have GW4 := Lib.hid (grown_of_below B4.out (some g))
    clear B3 XR3 B4
    have xl0 := XL4.out.c0
    have xl1 := XL4.out.c1
    go_wp2_with fail
    generalize (w3.alloc (.cells #[.int .i64 ((left.1 : Nat) : Int), .int .i64 ((left.2 : Nat) : Int)] 91)) = w4 at *
    generalize w3.heap.size = gl at *
    clear xr0 xr1 fr0 fr1
    refine (PV.out w4 HT4.out).mono ?_
    rintro e w' ⟨rfl, rfl⟩
    have htp : ((tz left.1 : Nat) : Int) < 60 := by omega
    generalize htz : tz left.1 = p at *
    have HP := Lib.hid htz
    clear htz PV
    go_wp2_with fail
    go_loopw [7, 8, 21] (fun _ _ c wr => ∃ j : Nat, j ≤ 60 ∧ c = .int .i64 j ∧ Hid (Sp wr g (Sj S left j)) ∧ Hid (w.grownBy wr (some g)) ∧ Hid (Box wr gl 91 (.int .i64 ((left.1 : Nat) : Int)) (.int .i64 ((left.2 : Nat) : Int))) ∧ Hid (Box wr (w.heap.size + 1) 91 (.int .i64 0) (.int .i64 0))) (fun _ _ c _ => 60 - (intOf c).toNat)
    case atStart => exact ⟨0, by omega, rfl, Lib.hid (SP4.out.congr fun j _ => by simp [Sj]), GW4, XL4, XR4⟩
    case round =>
      clear SP4 GW4 XL4 XR4 xl0 xl1
      obtain ⟨j, hj, rfl, SP, GW, XL, XR⟩ := hrel
      have xl0 := XL.out.c0
      have xl1 := XL.out.c1
      by_cases hlt : j < 60
      · have hlt' : (j : Int) < 60 := by omega
        have eS : Sj S left j j = S j := by unfold Sj; rw [if_neg (by omega)]
        have c0 := SP.out.c0 j hlt
        have c1 := SP.out.c1 j hlt
        have SZ0 := SP.out.up ((Below.refl wr.heap.size wr).alloc (Nat.le_refl _) (.cells #[.int .i64 0, .int .i64 0] 91))
        have c0' := SZ0.c0 j hlt
        have c1' := SZ0.c1 j hlt
        rw [eS] at c0 c1 c0' c1'
        have okj := OK.out j hlt
        have PL := Lib.hid (fun w => plus_any (S j) left w okj HL.out)
        have DG := Lib.hid (fun w => digitN_any (S j).1 p w okj.1 (by omega))
        have NX : Hid (Sj S left (j + 1) = fun i => if i = j then nxt left j (S j) else Sj S left j i) := Lib.hid (by
          funext i
          unfold Sj
          by_cases e : i = j
          · subst e; rw [if_pos (by omega), if_pos rfl]
          · rw [if_neg e]
            by_cases h : i < j
            · rw [if_pos h, if_pos (by omega)]
            · rw [if_neg h, if_neg (by omega)])
        have NXD : Hid (nxt left j (S j) = if (S j).1.testBit p = true then addTR (S j) left else S j) := Lib.hid (by unfold nxt; rw [HP.out])
        have SJJ : Hid (Sj S left j j = S j) := Lib.hid eS
        clear SZ0 eS okj
        generalize S j = o at *
        go_wp2_with fail
        go_region
        have SP5 : Hid (Sp ((wr.alloc (.cells #[.int .i64 ((o.1 : Nat) : Int), .int .i64 ((o.2 : Nat) : Int)] 91)).drew) g (Sj S left j)) := Lib.hid (SP.out.up ((Below.refl wr.heap.size wr).alloc (Nat.le_refl _) _).drew)
        have GW5 : Hid (w.grownBy ((wr.alloc (.cells #[.int .i64 ((o.1 : Nat) : Int), .int .i64 ((o.2 : Nat) : Int)] 91)).drew) (some g)) := Lib.hid (grown_trans GW.out (grown_of_below ((Below.refl wr.heap.size wr).alloc (Nat.le_refl _) _).drew _))
        have XL5 : Hid (Box ((wr.alloc (.cells #[.int .i64 ((o.1 : Nat) : Int), .int .i64 ((o.2 : Nat) : Int)] 91)).drew) gl 91 (.int .i64 ((left.1 : Nat) : Int)) (.int .i64 ((left.2 : Nat) : Int))) := Lib.hid (XL.out.alloc _)
        have XR5 : Hid (Box ((wr.alloc (.cells #[.int .i64 ((o.1 : Nat) : Int), .int .i64 ((o.2 : Nat) : Int)] 91)).drew) (w.heap.size + 1) 91 (.int .i64 0) (.int .i64 0)) := Lib.hid (XR.out.alloc _)
        have XO5 : Hid (Box ((wr.alloc (.cells #[.int .i64 ((o.1 : Nat) : Int), .int .i64 ((o.2 : Nat) : Int)] 91)).drew) wr.heap.size 91 (.int .i64 ((o.1 : Nat) : Int)) (.int .i64 ((o.2 : Nat) : Int))) := Lib.hid (Box.new wr _ _ _)
        have NO : Hid (wr.heap.size ≠ g) := Lib.hid (by have := SP.out.lt; omega)
        clear c0 c1 c0' c1' xl0 xl1 SP GW XL XR
        generalize ((wr.alloc (.cells #[.int .i64 ((o.1 : Nat) : Int), .int .i64 ((o.2 : Nat) : Int)] 91)).drew) = w5 at *
        generalize wr.heap.size = go at *
        have xo0 := XO5.out.c0
        have xo1 := XO5.out.c1
        cases ht : o.1.testBit p with
        | false =>
          rw [ht] at DG NXD
          clear ht
          have SPN : Hid (Sp w5 g (Sj S left (j + 1))) := Lib.hid (by
            refine SP5.out.congr fun i _ => ?_
            rw [NX.out]
            show Sj S left j i = if i = j then nxt left j o else Sj S left j i
            by_cases e : i = j
            · subst e
              rw [if_pos rfl, NXD.out, SJJ.out]
              rfl
            · rw [if_neg e])
          go_wp2_with (go_at_call 84; refine (DG.out _).mono ?_; rintro e w' ⟨rfl, rfl⟩)
          go_roundw
          case rel => exact ⟨j + 1, by omega, by go_num, SPN, GW5, XL5, XR5⟩
          case measure => simp [intOf]; omega
        | true =>
          rw [ht] at DG NXD
          clear ht
          go_wp2_with (go_at_call 84; refine (DG.out _).mono ?_; rintro e w' ⟨rfl, rfl⟩)
          have xl0 := XL5.out.c0
          have xl1 := XL5.out.c1
          have KEEP : Hid (∀ wx, w5.grownBy wx (some g) → (wx.cell? ⟨go, 0, none⟩ = some (.int .i64 ((o.1 : Nat) : Int)) ∧ wx.cell? ⟨go, 1, none⟩ = some (.int .i64 ((o.2 : Nat) : Int)) ∧ wx.cell? ⟨gl, 0, none⟩ = some (.int .i64 ((left.1 : Nat) : Int)) ∧ wx.cell? ⟨gl, 1, none⟩ = some (.int .i64 ((left.2 : Nat) : Int)) ∧ w5.grownBy wx (some g))) :=
            Lib.hid (fun wx hb => ⟨(XO5.out.grownG hb NO.out).c0, (XO5.out.grownG hb NO.out).c1, (XL5.out.grownG hb NG.out).c0, (XL5.out.grownG hb NG.out).c1, hb⟩)
          go_region_held3 (fun wx => wx.cell? ⟨go, 0, none⟩ = some (.int .i64 ((o.1 : Nat) : Int)) ∧ wx.cell? ⟨go, 1, none⟩ = some (.int .i64 ((o.2 : Nat) : Int)) ∧ wx.cell? ⟨gl, 0, none⟩ = some (.int .i64 ((left.1 : Nat) : Int)) ∧ wx.cell? ⟨gl, 1, none⟩ = some (.int .i64 ((left.2 : Nat) : Int)) ∧ w5.grownBy wx (some g))
            (first | exact KEEP.out _ (grown_of_below (Below.refl _ _).drew _) | exact KEEP.out _ (grown_of_below (by assumption) _) | exact KEEP.out _ (grown_set (grown_set (grown_of_below (by assumption) _))))
            (first | (go_at_call 112; refine (PL.out _).mono ?_; rintro e w6 ⟨rfl, b6⟩; unfold tv; have z6 := below_drew1 b6; have s0 := (SP5.out.up z6).c0 j hlt; have s1 := (SP5.out.up z6).c1 j hlt; have f0 := (SP5.out.up z6).fr (j * 2); have f1 := (SP5.out.up z6).fr (j * 2 + 1)))
          have Z7 := Lib.hid (grown_set (i := j * 2 + 1) (v := .int .i64 (((addTR o left).2 : Nat) : Int)) (grown_set (i := j * 2) (v := .int .i64 (((addTR o left).1 : Nat) : Int)) (grown_of_below z6 (some g))))
          have SP7 : Hid (Sp ((w6.setCell ⟨g, j * 2, none⟩ (.int .i64 (((addTR o left).1 : Nat) : Int))).setCell ⟨g, j * 2 + 1, none⟩ (.int .i64 (((addTR o left).2 : Nat) : Int))) g (Sj S left (j + 1))) := Lib.hid (by
            refine ((SP5.out.up z6).set j hlt (addTR o left)).congr fun i _ => ?_
            rw [NX.out]
            show (if i = j then addTR o left else Sj S left j i) = if i = j then nxt left j o else Sj S left j i
            rw [NXD.out, if_pos trivial])
          have GW7 := Lib.hid (grown_trans GW5.out Z7.out)
          have XL7 := Lib.hid (XL5.out.grownG Z7.out NG.out)
          have XR7 := Lib.hid (XR5.out.grownG Z7.out NG2.out)
          clear s0 s1 f0 f1 z6 b6 xl0 xl1 xo0 xo1 KEEP Z7 SP5 GW5 XL5 XR5
          go_wp2
          go_roundw
          case rel => exact ⟨j + 1, by omega, by go_num, SP7, GW7, XL7, XR7⟩
          case measure => simp [intOf]; omega
      · obtain rfl : j = 60 := by omega
        have c0 := SP.out.c0 p TP.out
        have c1 := SP.out.c1 p TP.out
        have f0 := SP.out.fr (p * 2)
        have f1 := SP.out.fr (p * 2 + 1)
        have htp0 : (0 : Int) ≤ (p : Int) := by omega
        have SP7 : Hid (Sp ((wr.setCell ⟨g, p * 2, none⟩ (.int .i64 ((left.1 : Nat) : Int))).setCell ⟨g, p * 2 + 1, none⟩ (.int .i64 ((left.2 : Nat) : Int))) g (addS S r)) := Lib.hid (by
          refine (SP.out.set p TP.out left).congr fun i hi => ?_
          rw [E.out]
          show (if i = p then left else Sj S left 60 i) = if i = p then left else nxt left i (S i)
          unfold Sj
          rw [if_pos hi])
        have Z7 := Lib.hid (grown_set (i := p * 2 + 1) (v := .int .i64 ((left.2 : Nat) : Int)) (grown_set (i := p * 2) (v := .int .i64 ((left.1 : Nat) : Int)) (grown_of_below (Below.refl wr.heap.size wr) (some g))))
        have GW7 := Lib.hid (grown_trans GW.out Z7.out)
        have XL7 := Lib.hid (XL.out.grownG Z7.out NG.out)
        have XR7 := Lib.hid (XR.out.grownG Z7.out NG2.out)
        go_wp2_with fail
        go_region
        have dr : Below ((wr.setCell ⟨g, p * 2, none⟩ (.int .i64 ((left.1 : Nat) : Int))).setCell ⟨g, p * 2 + 1, none⟩ (.int .i64 ((left.2 : Nat) : Int))).heap.size ((wr.setCell ⟨g, p * 2, none⟩ (.int .i64 ((left.1 : Nat) : Int))).setCell ⟨g, p * 2 + 1, none⟩ (.int .i64 ((left.2 : Nat) : Int))) ((wr.setCell ⟨g, p * 2, none⟩ (.int .i64 ((left.1 : Nat) : Int))).setCell ⟨g, p * 2 + 1, none⟩ (.int .i64 ((left.2 : Nat) : Int))).drew := (Below.refl _ _).drew
        have SP8 := Lib.hid (SP7.out.up dr)
        have GW8 := Lib.hid (grown_trans GW7.out (grown_of_below dr (some g)))
        have XL8 := Lib.hid (XL7.out.up dr)
        have XR8 := Lib.hid (XR7.out.up dr)
        clear c0 c1 f0 f1 SP7 Z7 GW7 XL7 XR7 SP GW XL XR dr xl0 xl1
        generalize ((wr.setCell ⟨g, p * 2, none⟩ (.int .i64 ((left.1 : Nat) : Int))).setCell ⟨g, p * 2 + 1, none⟩ (.int .i64 ((left.2 : Nat) : Int))).drew = w8 at *
        have xl0 := XL8.out.c0
        have xl1 := XL8.out.c1
        have xr0 := XR8.out.c0
        have xr1 := XR8.out.c1
        have fr0 := XR8.out.fr 0
        have fr1 := XR8.out.fr 1
        have F1 := Lib.hid ((XR8.out.set0 (.int .i64 ((left.1 : Nat) : Int))).set1 (.int .i64 ((left.2 : Nat) : Int)))
        have F2 := Lib.hid (grown_new (b := w.heap.size + 1) (i := 1) (v := .int .i64 ((left.2 : Nat) : Int)) (grown_new (b := w.heap.size + 1) (i := 0) (v := .int .i64 ((left.1 : Nat) : Int)) GW8.out (by omega)) (by omega))
        have F3 := Lib.hid ((SP8.out.other ⟨w.heap.size + 1, 0, none⟩ (.int .i64 ((left.1 : Nat) : Int)) (Ne.symm NG2.out)).other ⟨w.heap.size + 1, 1, none⟩ (.int .i64 ((left.2 : Nat) : Int)) (Ne.symm NG2.out))
        go_wp2
        refine bodyPost_ret (results_cell_row rfl _ _ (w.heap.size + 1) 91 _ (0, 0) _ rfl F1.out t3 rfl (by kernel_rfl)) rfl ?_
        exact ⟨by rw [HQ.out]; rfl, F3.out, F2.out⟩
end Go.Proofs.YtdojblmffmefgaaDoor
