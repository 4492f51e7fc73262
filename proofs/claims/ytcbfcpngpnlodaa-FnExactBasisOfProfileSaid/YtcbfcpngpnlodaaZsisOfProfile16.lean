/-
  Joined: QLen.
-/
import Derived.Test.YtcbfcpngpnlodaaZsisOfProfile14
import Derived.Test.YtcbfcpngpnlodaaZsisOfProfile15
section
namespace Go.Proofs.Ytcbfcpngpnlodaa
open Go Go.RowKit
set_option linter.unusedVariables false
set_option maxRecDepth 100000

/-- How many binary digits a number has. -/
def bl (x : Nat) : Nat := if x = 0 then 0 else Nat.log2 x + 1
theorem bl_lt (x h : Nat) : x < 2 ^ h ↔ bl x ≤ h := by
  unfold bl
  by_cases e : x = 0
  · subst e
    rw [if_pos rfl]
    exact ⟨fun _ => Nat.zero_le _, fun _ => Nat.pow_pos (by decide)⟩
  · rw [if_neg e]
    rw [← Nat.log2_lt e]
    omega
theorem bl_small {x : Nat} (h : x ≤ 255) : bl x ≤ 8 := (bl_lt x 8).1 (by omega)

theorem wrap_byte (u : UInt8) : wrap64 (wrap64 ((u.toNat : Nat) : Int)) = ((u.toNat : Nat) : Int) := by
  have := u.toNat_lt
  unfold wrap64
  omega
theorem len64_any (x : Nat) (h : x ≤ 40) (w : World) : Calls Try.prog 107 #[.int .u64 x] w fun e w' => e = .returned (.int .i64 (bl x)) ∧ w = w' := by
  have h1 : ¬ (4294967296 : Int) ≤ (x : Int) := by omega
  have h2 : ¬ (65536 : Int) ≤ (x : Int) := by omega
  have h3 : ¬ (256 : Int) ≤ (x : Int) := by omega
  go_enter Try.func107, Try.ntmps107
  go_wp2
  go_ret
  have hx : x = 0 ∨ x = 1 ∨ x = 2 ∨ x = 3 ∨ x = 4 ∨ x = 5 ∨ x = 6 ∨ x = 7 ∨ x = 8 ∨ x = 9 ∨ x = 10 ∨ x = 11 ∨ x = 12 ∨ x = 13 ∨ x = 14 ∨ x = 15 ∨ x = 16 ∨ x = 17 ∨ x = 18 ∨ x = 19 ∨ x = 20 ∨ x = 21 ∨ x = 22 ∨ x = 23 ∨ x = 24 ∨ x = 25 ∨ x = 26 ∨ x = 27 ∨ x = 28 ∨ x = 29 ∨ x = 30 ∨ x = 31 ∨ x = 32 ∨ x = 33 ∨ x = 34 ∨ x = 35 ∨ x = 36 ∨ x = 37 ∨ x = 38 ∨ x = 39 ∨ x = 40 := by omega
  refine ⟨?_, rfl⟩
  refine Eq.trans (congrArg (fun z => Ending.returned (Value.int .i64 z)) (wrap_byte _)) ?_
  congr 2
  rcases hx with rfl | rfl | rfl | rfl | rfl | rfl | rfl | rfl | rfl | rfl | rfl | rfl | rfl | rfl | rfl | rfl | rfl | rfl | rfl | rfl | rfl | rfl | rfl | rfl | rfl | rfl | rfl | rfl | rfl | rfl | rfl | rfl | rfl | rfl | rfl | rfl | rfl | rfl | rfl | rfl | rfl
  all_goals rfl

/-- The least profile of an exponent list. -/
def lenTo (n : Nat) (G : Nat → Int) (k i : Nat) : Int := if i < k then (if i < n then (bl (G i).toNat : Int) else 0) else 0
def lenF (n : Nat) (G : Nat → Int) (i : Nat) : Int := if i < n then (bl (G i).toNat : Int) else 0
/-- A list whose least profile the program may ask for. -/
def okLen (n : Nat) (G : Nat → Int) : Prop := n ≤ 16 ∧ ∀ i, i < n → 0 ≤ G i ∧ G i ≤ 40
theorem lenTo_zero (n : Nat) (G : Nat → Int) : lenTo n G 0 = zeroF := by funext i; unfold lenTo zeroF; rw [if_neg (by omega)]
theorem lenTo_step (n : Nat) (G : Nat → Int) (k : Nat) (h : k < n) : updF (lenTo n G k) k (bl (G k).toNat : Int) = lenTo n G (k + 1) := by
  funext i
  unfold updF lenTo
  by_cases e : i = k
  · subst e
    have c : i < i + 1 := by omega
    simp only [if_pos c, if_pos h, if_true]
  · rw [if_neg e]
    by_cases c : i < k
    · have c1 : i < k + 1 := by omega
      simp only [if_pos c, if_pos c1]
    · have c1 : ¬ i < k + 1 := by omega
      simp only [if_neg c, if_neg c1]
theorem lenTo_all (n : Nat) (G : Nat → Int) : lenTo n G n = lenF n G := by
  funext i
  unfold lenTo lenF
  split
  · rfl
  · rfl
structure Two16 (w0 : World) (f : Nat → Int) (w : World) : Prop where
  bel : Below w0.heap.size w0 w
  r : ArAt w w0.heap.size zeroF
  a : ArAt w (w0.heap.size + 1) f

set_option maxHeartbeats 2000000 in
theorem leastProfile_any (v : Value) (n : Nat) (G : Nat → Int) (w : World) (h : RdI w v n G) (hok : okLen n G) :
    Calls Try.prog 98 #[v] w (SaysA (lenF n G) w) := by
  have HP := Lib.hid hok.2
  have hn : n ≤ 16 := hok.1
  have HR0 := Lib.hid (fun wx (hb : Below w.heap.size w wx) => h.below hb)
  obtain ⟨va, vc, rfl⟩ : ∃ a c, v = .slice a n c := by obtain ⟨a, c, e, _⟩ := h; exact ⟨a, c, e⟩
  obtain ⟨w1, hw1⟩ : ∃ w1, w1 = ((w.alloc (.cells (arK zeroF) 56)).alloc (.cells (arK zeroF) 56)) := ⟨_, rfl⟩
  have T1 : Hid (Two16 w (lenTo n G 0) w1) := Lib.hid (by
    rw [hw1, lenTo_zero]
    refine ⟨((Below.refl w.heap.size w).alloc (Nat.le_refl _) _).alloc (by simp) _, (ArAt.new w zeroF).alloc _, ?_⟩
    have := ArAt.new (w.alloc (.cells (arK zeroF) 56)) zeroF
    rw [World.size_alloc] at this
    exact this)
  rw [arK_zero] at hw1
  clear h hok
  go_enter Try.func98, Try.ntmps98
  go_upto_region 2 with fail
  rw [← hw1]
  clear hw1
  go_wp2_with fail
  go_loopw [4, 5, 8] (fun _ _ c wr => ∃ k : Nat, k ≤ n ∧ c = .int .i64 k ∧ Hid (Two16 w (lenTo n G k) wr)) (fun _ _ c _ => n - (intOf c).toNat)
  case atStart => exact ⟨0, by omega, rfl, T1⟩
  case round =>
    clear T1
    obtain ⟨k, hk, rfl, hT⟩ := hrel
    by_cases hlt : k < n
    · have hlt' : (k : Int) < (n : Int) := by omega
      have hp := HP.out k hlt
      obtain ⟨x, hx⟩ := Int.eq_ofNat_of_zero_le hp.1
      have HC : Hid (∃ b off, va = some ⟨b, off, none⟩ ∧ wr.cell? ⟨b, off + k, none⟩ = some (.int .i64 (x : Int))) := Lib.hid (by
        obtain ⟨a, c, e, hm, hc⟩ := HR0.out wr hT.out.bel
        cases e
        obtain ⟨b, off, rfl, hc'⟩ := hc.resolve_left (by omega)
        have h1 := hc' k hlt
        rw [hx] at h1
        exact ⟨b, off, rfl, h1⟩)
      obtain ⟨b, off, rfl, c1⟩ := HC.out
      have L := Lib.hid (fun wx => len64_any x (by omega) wx)
      have k16 : k < 16 := by omega
      have k16' : (k : Int) < 16 := by omega
      have T2 : Hid (Two16 w (lenTo n G (k + 1)) (wr.setCell ⟨w.heap.size + 1, k, none⟩ (.int .i64 (bl x : Int)))) := Lib.hid ⟨hT.out.bel.setCell (p := ⟨w.heap.size + 1, k, none⟩) (Nat.le_succ _) _, hT.out.r.other _ _ (by simp), by
        have := hT.out.a.set k k16 (bl (G k).toNat : Int)
        rw [lenTo_step n G k hlt, hx, Int.toNat_natCast] at this
        exact this⟩
      have c2 := hT.out.a.cell k k16
      have f2 := hT.out.a.fr k
      generalize lenTo n G k k = old at c2
      have hx0 : (0 : Int) ≤ (x : Int) := by omega
      have hx40 : (x : Int) ≤ 40 := by omega
      clear hx hp HC hT
      go_wp2_with fail
      refine (L.out _).mono ?_
      rintro e w' ⟨rfl, rfl⟩
      go_wp2_with fail
      go_roundw
      case rel => exact ⟨k + 1, by omega, by go_num, T2⟩
      case measure => simp [intOf]; omega
    · have hlt' : ¬ (k : Int) < (n : Int) := by omega
      obtain rfl : k = n := by omega
      have HR := Lib.hid hT.out.a.range
      have HO : Hid (wr.heap[w.heap.size]? = some (.cells (arK zeroF) 56 (0, 0))) := Lib.hid hT.out.r
      have SZ := Lib.hid (sizeAr (lenTo k G k))
      have S5 := Lib.hid (arK_size (lenTo k G k))
      have S1 := Lib.hid (arK_one (lenTo k G k))
      have SQ : Hid ((arK zeroF).size = (arK (lenTo k G k)).size) := Lib.hid (by rw [arK_size, arK_size])
      have B3 := Lib.hid hT.out.bel
      have HE : arK (lenF k G) = arK (lenTo k G k) := by rw [lenTo_all]
      clear hT
      obtain ⟨K, hK⟩ : ∃ K, arK (lenTo k G k) = K := ⟨_, rfl⟩
      rw [hK] at HR SZ S5 SQ HE S1
      have HK : Hid (.agg (arK (lenF k G)) = Value.agg K) := Lib.hid (by rw [HE])
      clear hK HE
      go_wp2_with (first
        | (refine ldKQ rfl _ rfl (w.heap.size + 1) 0 rfl K HR.out S5.out ?_)
        | (refine wpList_store_row rfl 56 _ _ rfl w.heap.size K rfl rfl 56 _ HO.out SZ.out SQ.out S1.out ?_))
      refine bodyPost_ret (results_cell_row rfl _ _ w.heap.size 56 K (0, 0) _ rfl (setRow_heap _ _ _ _ _ _ HO.out) Try.underlying56 rfl SZ.out) rfl ?_
      exact ⟨by rw [HK.out], below_setRow B3.out (Nat.le_refl _) _⟩
end Go.Proofs.Ytcbfcpngpnlodaa
end
