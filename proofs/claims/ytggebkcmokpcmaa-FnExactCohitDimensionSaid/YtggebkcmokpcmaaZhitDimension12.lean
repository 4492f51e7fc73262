/-
  Joined: HImL.
-/
import Derived.Test.YtggebkcmokpcmaaZhitDimension10
import Derived.Test.YtggebkcmokpcmaaZhitDimension11
import Derived.Test.YtggebkcmokpcmaaZBHit33
import Derived.Test.YtggebkcmokpcmaaZBHit21
section
namespace Go.Proofs.Ytggebkcmokpcmaa
open Go.RowKit Go.Proofs.Ytggebkcmokpcmaa.Pl
set_option linter.unusedVariables false
set_option maxRecDepth 100000

/-- The monomials that hitMonomials returns. -/
def hmOf (a b : Int) : List (List Int) := if hcOf a b = 0 then ms (a.toNat - 1) b.toNat [] else []
theorem cn_small (f d : Nat) (hf : f < 4) (hd : d < 41) (h : cn f d ≤ 100) : cn f d ≤ 2000 := by omega
def HmPost (a b : Int) (w : World) (e : Ending) (w' : World) : Prop := ∃ u, e = .returned (.tuple #[u, .int .i64 (hcOf a b)]) ∧ OwnY w' w.heap.size u (((hmOf a b).map padY).map pwK) ∧ Below w.heap.size w w'

set_option maxHeartbeats 4000000 in
theorem hitMonomials_any (a b : Int) (w : World) : Calls Try.prog 44 #[.int .i64 a, .int .i64 b] w (HmPost a b w) := by
  have MO := Lib.hid (implMonomialsOf_all a b w)
  have NIL := Lib.hid (fun w' => World.ownsRow_nil w' w.heap.size 71 4)
  have HM : Hid (hmOf a b = if hcOf a b = 0 then moOf a b else []) := Lib.hid (by
    unfold hmOf hcOf moOf
    by_cases h : moIn a b
    · rw [if_pos h]
      by_cases h2 : cn (a.toNat - 1) b.toNat ≤ 100
      · rw [if_pos h2, if_pos rfl, if_pos rfl, if_pos h, ms_cn, if_pos (by omega)]
      · rw [if_neg h2, if_neg (by decide), if_neg (by decide)]
    · rw [if_neg h, if_neg (by decide), if_neg (by decide)])
  have HC : Hid (hcOf a b = if mcOf a b ≠ 0 then mcOf a b else if (moOf a b).length > 100 then 3 else 0) := Lib.hid (by
    unfold hcOf mcOf moOf
    by_cases h : moIn a b
    · by_cases h3 : cn (a.toNat - 1) b.toNat ≤ 100
      · have h2 : cn (a.toNat - 1) b.toNat ≤ 2000 := by omega
        simp only [if_pos h, ms_cn, if_pos h3, if_pos h2]
        rw [if_neg (by simp), if_neg (by omega)]
      · by_cases h2 : cn (a.toNat - 1) b.toNat ≤ 2000
        · simp only [if_pos h, ms_cn, if_neg h3, if_pos h2]
          rw [if_neg (by simp), if_pos (by omega)]
        · simp only [if_pos h, ms_cn, if_neg h3, if_neg h2]
          rw [if_pos (by decide)]
    · simp only [if_neg h]
      rw [if_pos (by decide)])
  have ML := moOf_len a b
  unfold HmPost
  generalize hcOf a b = hc at *
  generalize hmOf a b = hm at *
  generalize moOf a b = L at *
  generalize mcOf a b = mc at *
  by_cases h0 : mc = 0
  · subst h0
    rw [if_neg (by decide)] at HC
    by_cases hl : L.length > 100
    · rw [if_pos hl] at HC
      have HM2 : Hid (hm = []) := Lib.hid (by rw [HM.out, HC.out]; rfl)
      rw [HC.out, HM2.out]
      have hl2 : (100 : Int) < (L.length : Int) := by omega
      clear HM HC
      go_enter Try.func44, Try.ntmps44
      go_wp2_with fail
      refine MO.out.mono ?_
      rintro e w1 ⟨V, VS, rfl, hF, hB, hS⟩
      obtain ⟨va, vc, rfl⟩ := own_slc hF.out
      have B1 := Lib.hid hB
      clear hF hB hS MO
      go_wp2_with fail
      go_ret2
      exact ⟨_, rfl, NIL.out _, B1.out⟩
    · rw [if_neg hl] at HC
      have HM2 : Hid (hm = L) := Lib.hid (by rw [HM.out, HC.out]; rfl)
      rw [HC.out, HM2.out]
      have hl2 : ¬ (100 : Int) < (L.length : Int) := by omega
      clear HM HC
      go_enter Try.func44, Try.ntmps44
      go_wp2_with fail
      refine MO.out.mono ?_
      rintro e w1 ⟨V, VS, rfl, hF, hB, hS⟩
      have PK := Lib.hid (packed_any a V L.length (rowsOf L) w1 hF.rdss ML.1 (fun i hi => ML.2 _ (by
        have : rowsOf L i ∈ rowsL (rowsOf L) L.length := List.mem_map.2 ⟨i, List.mem_range.2 hi, rfl⟩
        rw [rowsL_ofR] at this
        exact this)))
      rw [rowsL_ofR] at PK
      obtain ⟨va, vc, rfl⟩ := own_slc hF.out
      have B1 := Lib.hid hB
      clear hF hB hS MO
      go_wp2_with fail
      refine PK.out.mono ?_
      rintro e w2 ⟨u, rfl, ho, b2⟩
      have e2 : L.map keyY = (L.map padY).map pwK := by rw [List.map_map]; rfl
      have O2 := Lib.hid (own_base ho B1.out.size)
      rw [e2] at O2
      have B2 := Lib.hid (B1.out.step1 b2)
      clear ho b2 PK
      go_wp2_with fail
      go_ret2
      exact ⟨_, rfl, O2.out, B2.out⟩
  · rw [if_pos h0] at HC
    have HM2 : Hid (hm = []) := Lib.hid (by rw [HM.out, HC.out, if_neg h0])
    rw [HC.out, HM2.out]
    clear HM HC
    go_enter Try.func44, Try.ntmps44
    go_wp2_with fail
    refine MO.out.mono ?_
    rintro e w1 ⟨V, VS, rfl, hF, hB, hS⟩
    have B1 := Lib.hid hB
    clear hF hB hS MO
    go_wp2_with fail
    go_ret2
    exact ⟨_, rfl, NIL.out _, B1.out⟩
end Go.Proofs.Ytggebkcmokpcmaa
end
