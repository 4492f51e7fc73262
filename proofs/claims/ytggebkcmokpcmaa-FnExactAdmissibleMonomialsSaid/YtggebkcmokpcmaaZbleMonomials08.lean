/-
  Joined: HImL, HImM, QBase.
-/
import Derived.Test.YtggebkcmokpcmaaZbleMonomials06
import Derived.Test.YtggebkcmokpcmaaZbleMonomials07
import Derived.Test.YtggebkcmokpcmaaZBHit33
import Derived.Test.YtggebkcmokpcmaaZBHit21
import Derived.Test.YtggebkcmokpcmaaZBHit28
import Derived.Test.YtggebkcmokpcmaaZBHit02
section
namespace Go.Proofs.Ytggebkcmokpcmaa
open Go.RowKit Go.Proofs.Ytggebkcmokpcmaa.Pl
set_option linter.unusedVariables false
set_option maxRecDepth 100000

/-- The monomials that hitMonomials returns. -/
def hmOf (a b : Int) : List (List Int) := if hcOf a b = 0 then ms (a.toNat - 1) b.toNat [] else []
theorem cn_small (f d : Nat) (hf : f < 4) (hd : d < 41) (h : cn f d ≤ 100) : cn f d ≤ 2000 := by omega
def HmPost (a b : Int) (w : World) (e : Ending) (w' : World) : Prop := ∃ u, e = .returned (.tuple #[u, .int .i64 (hcOf a b)]) ∧ OwnY w' w.heap.size u (((hmOf a b).map padY).map pwK) ∧ Below w.heap.size w w'

set_option maxHeartbeats 4000000 in
theorem hitMonomials_any (a b : Int) (w : World) : Calls Try.prog 44 #[.int .i64 a, .int .i64 b] w (HmPost a b w) := by
  have MO := Lib.hid (implMonomialsOf_all a b w)
  have NIL := Lib.hid (fun w' => World.ownsRow_nil w' w.heap.size 71 4)
  have HM : Hid (hmOf a b = if hcOf a b = 0 then moOf a b else []) := Lib.hid (by
    unfold hmOf hcOf moOf
    by_cases h : moIn a b
    · rw [if_pos h]
      by_cases h2 : cn (a.toNat - 1) b.toNat ≤ 100
      · rw [if_pos h2, if_pos rfl, if_pos rfl, if_pos h, ms_cn, if_pos (by omega)]
      · rw [if_neg h2, if_neg (by decide), if_neg (by decide)]
    · rw [if_neg h, if_neg (by decide), if_neg (by decide)])
  have HC : Hid (hcOf a b = if mcOf a b ≠ 0 then mcOf a b else if (moOf a b).length > 100 then 3 else 0) := Lib.hid (by
    unfold hcOf mcOf moOf
    by_cases h : moIn a b
    · by_cases h3 : cn (a.toNat - 1) b.toNat ≤ 100
      · have h2 : cn (a.toNat - 1) b.toNat ≤ 2000 := by omega
        simp only [if_pos h, ms_cn, if_pos h3, if_pos h2]
        rw [if_neg (by simp), if_neg (by omega)]
      · by_cases h2 : cn (a.toNat - 1) b.toNat ≤ 2000
        · simp only [if_pos h, ms_cn, if_neg h3, if_pos h2]
          rw [if_neg (by simp), if_pos (by omega)]
        · simp only [if_pos h, ms_cn, if_neg h3, if_neg h2]
          rw [if_pos (by decide)]
    · simp only [if_neg h]
      rw [if_pos (by decide)])
  have ML := moOf_len a b
  unfold HmPost
  generalize hcOf a b = hc at *
  generalize hmOf a b = hm at *
  generalize moOf a b = L at *
  generalize mcOf a b = mc at *
  by_cases h0 : mc = 0
  · subst h0
    rw [if_neg (by decide)] at HC
    by_cases hl : L.length > 100
    · rw [if_pos hl] at HC
      have HM2 : Hid (hm = []) := Lib.hid (by rw [HM.out, HC.out]; rfl)
      rw [HC.out, HM2.out]
      have hl2 : (100 : Int) < (L.length : Int) := by omega
      clear HM HC
      go_enter Try.func44, Try.ntmps44
      go_wp2_with fail
      refine MO.out.mono ?_
      rintro e w1 ⟨V, VS, rfl, hF, hB, hS⟩
      obtain ⟨va, vc, rfl⟩ := own_slc hF.out
      have B1 := Lib.hid hB
      clear hF hB hS MO
      go_wp2_with fail
      go_ret2
      exact ⟨_, rfl, NIL.out _, B1.out⟩
    · rw [if_neg hl] at HC
      have HM2 : Hid (hm = L) := Lib.hid (by rw [HM.out, HC.out]; rfl)
      rw [HC.out, HM2.out]
      have hl2 : ¬ (100 : Int) < (L.length : Int) := by omega
      clear HM HC
      go_enter Try.func44, Try.ntmps44
      go_wp2_with fail
      refine MO.out.mono ?_
      rintro e w1 ⟨V, VS, rfl, hF, hB, hS⟩
      have PK := Lib.hid (packed_any a V L.length (rowsOf L) w1 hF.rdss ML.1 (fun i hi => ML.2 _ (by
        have : rowsOf L i ∈ rowsL (rowsOf L) L.length := List.mem_map.2 ⟨i, List.mem_range.2 hi, rfl⟩
        rw [rowsL_ofR] at this
        exact this)))
      rw [rowsL_ofR] at PK
      obtain ⟨va, vc, rfl⟩ := own_slc hF.out
      have B1 := Lib.hid hB
      clear hF hB hS MO
      go_wp2_with fail
      refine PK.out.mono ?_
      rintro e w2 ⟨u, rfl, ho, b2⟩
      have e2 : L.map keyY = (L.map padY).map pwK := by rw [List.map_map]; rfl
      have O2 := Lib.hid (own_base ho B1.out.size)
      rw [e2] at O2
      have B2 := Lib.hid (B1.out.step1 b2)
      clear ho b2 PK
      go_wp2_with fail
      go_ret2
      exact ⟨_, rfl, O2.out, B2.out⟩
  · rw [if_pos h0] at HC
    have HM2 : Hid (hm = []) := Lib.hid (by rw [HM.out, HC.out, if_neg h0])
    rw [HC.out, HM2.out]
    clear HM HC
    go_enter Try.func44, Try.ntmps44
    go_wp2_with fail
    refine MO.out.mono ?_
    rintro e w1 ⟨V, VS, rfl, hF, hB, hS⟩
    have B1 := Lib.hid hB
    clear hF hB hS MO
    go_wp2_with fail
    go_ret2
    exact ⟨_, rfl, NIL.out _, B1.out⟩
end Go.Proofs.Ytggebkcmokpcmaa
end
section
namespace Go.Proofs.Ytggebkcmokpcmaa
open Go.RowKit Go.Proofs.Ytggebkcmokpcmaa.Pl
set_option linter.unusedVariables false
set_option maxRecDepth 100000

/-- The monomials of degree d in f + 1 variables, with zeros behind. -/
def PdP (f d : Nat) (t : List Int) : Prop := ∃ s, TmP f d s ∧ t = padY s
theorem padY_take {k : Nat} {s : List Int} (h : s.length = k) : (padY s).take k = s := by
  unfold padY
  rw [List.take_append_of_le_length (by omega), List.take_of_length_le (by omega)]
theorem pd_back {f d : Nat} {T : List (List Int)} (h : ∀ t ∈ T, PdP f d t) : ∃ S : List (List Int), T = S.map padY ∧ ∀ s ∈ S, TmP f d s := by
  refine ⟨T.map (List.take (f + 1)), ?_, fun s hs => ?_⟩
  · rw [List.map_map]
    refine (List.map_id T).symm.trans (List.map_congr_left fun t ht => ?_)
    obtain ⟨s, h1, rfl⟩ := h t ht
    show padY s = padY ((padY s).take (f + 1))
    rw [padY_take h1.1]
  · obtain ⟨t, ht, rfl⟩ := List.mem_map.1 hs
    obtain ⟨s, h1, rfl⟩ := h t ht
    rw [padY_take h1.1]
    exact h1
theorem asc_pad {k : Nat} {S : List (List Int)} (h : ∀ s ∈ S, s.length = k) : Asc (S.map padY) ↔ Asc S := by
  unfold Asc
  rw [List.pairwise_map]
  constructor
  · intro hp
    exact hp.imp_of_mem fun ha hb hr => by rw [lexLt_pad (h _ ha) (h _ hb)] at hr; exact hr
  · intro hp
    exact hp.imp_of_mem fun ha hb hr => by rw [lexLt_pad (h _ ha) (h _ hb)]; exact hr
theorem SmY_pd {f d : Nat} (hf : f < 4) (hc : cn f d ≤ 100) : SmY (PdP f d) := by
  refine ⟨fun T hT => ?_, fun t ⟨s, h1, h2⟩ => ?_⟩
  · obtain ⟨S, rfl, hS⟩ := pd_back hT.all
    rw [List.length_map]
    exact Nat.le_trans (tms_len hf ((asc_pad fun s hs => (hS s hs).1).1 hT.asc) hS) hc
  · rw [h2, padY_len (by rw [h1.1]; omega)]
theorem pd_rows {f d : Nat} {R : List (List (List Int))} (h : RowsOk (TmP f d) R) : RowsOk (PdP f d) (padR R) := by
  refine ⟨fun r hr => ?_, fun r hr => ?_, fun r hr t ht => ?_, ?_⟩
  · obtain ⟨r0, h0, rfl⟩ := List.mem_map.1 hr
    exact fun e => h.ne r0 h0 (List.map_eq_nil_iff.1 e)
  · obtain ⟨r0, h0, rfl⟩ := List.mem_map.1 hr
    exact (asc_pad fun s hs => (h.all r0 h0 s hs).1).2 (h.asc r0 h0)
  · obtain ⟨r0, h0, rfl⟩ := List.mem_map.1 hr
    obtain ⟨s, hs, rfl⟩ := List.mem_map.1 ht
    exact ⟨s, h.all r0 h0 s hs, rfl⟩
  · unfold padR
    rw [List.pairwise_map]
    refine h.desc.imp_of_mem fun ha hb hr => ?_
    rw [lastL_map padY (h.ne _ ha), lastL_map padY (h.ne _ hb), lexLt_pad (h.all _ hb _ (lastL_mem (h.ne _ hb))).1 (h.all _ ha _ (lastL_mem (h.ne _ ha))).1]
    exact hr
theorem pd_ok {f d : Nat} {T : List (List Int)} (h : OkT (TmP f d) T) : OkT (PdP f d) (T.map padY) := by
  refine ⟨(asc_pad fun s hs => (h.all s hs).1).2 h.asc, fun t ht => ?_⟩
  obtain ⟨s, hs, rfl⟩ := List.mem_map.1 ht
  exact ⟨s, h.all s hs, rfl⟩
theorem bsRunYK (w : World) (x : List Int) (hx : x.length = 4) : (Instr.buildSlice 53 1 #[(0, .agg (pwK x))]).run Try.prog w = .ok (.slice (some ⟨w.heap.size, 0, none⟩) 1 1) (w.alloc (.cells (pwK x) 71)) := by
  match x, hx with
  | [a, b, c, d], _ => exact bsRunY4 w a b c d

theorem bsKY {ops : Array Oper} {rest : List Oper} {o : Oper} {a : Act} {Q : Exit → Act → World → Prop} (w : World) (hgd : o.guard = none) (x : Operand) (ho : o.op = .buildSlice 53 1 #[(0, x)])
    (k : Array Value) (hx : a.eval x = .agg k) (hr : (Instr.buildSlice 53 1 #[(0, .agg k)]).run Try.prog w = .ok (.slice (some ⟨w.heap.size, 0, none⟩) 1 1) (w.alloc (.cells k 71))) (h : wpList Try.prog ops Q rest (a.put o.dst (.slice (some ⟨w.heap.size, 0, none⟩) 1 1)) (w.alloc (.cells k 71))) : wpList Try.prog ops Q (o :: rest) a w := by
  refine wpList_plain hgd fun K' hK' => ?_
  unfold Oper.wp execOp
  simp only [ho, List.map_toArray, List.map_cons, List.map_nil, hx, hr, Sem.run_bind, Sem.run_pure, Result.andThen_ok]
  exact hK' _ _ h

structure HsJ (w : World) (S : Value) (zs : RwZ) (R : List (List (List Int))) (wr : World) : Prop where
  bel : Below w.heap.size w wr
  fam : FamY wr w.heap.size S zs
  eq : rzR zs = padR R
theorem HsJ.up {w wr w' : World} {S : Value} {zs : RwZ} {R : List (List (List Int))} (h : HsJ w S zs R wr) (b : Below wr.heap.size wr w') : HsJ w S zs R w' := ⟨h.bel.step1 b, h.fam.below b, h.eq⟩
theorem HsJ.len {w wr : World} {S : Value} {zs : RwZ} {R : List (List (List Int))} (h : HsJ w S zs R wr) : zs.length = R.length := by rw [← rzR_len, h.eq]; unfold padR; rw [List.length_map]
def HsPost (R : List (List (List Int))) (w : World) (e : Ending) (w' : World) : Prop := ∃ S zs, e = .returned S ∧ FamY w' w.heap.size S zs ∧ rzR zs = padR R ∧ Below w.heap.size w w'
theorem below_trans {B : Nat} {a b c : World} (h : Below B a b) (k : Below B b c) : Below B a c := ⟨k.os.trans h.os, k.tape.trans h.tape, k.output.trans h.output, Nat.le_trans h.size k.size, fun i hi => (k.block i hi).trans (h.block i hi)⟩

set_option maxHeartbeats 8000000 in
theorem hitSpaceOf_any (f d : Nat) (k : Int) (hf : f < 4) (hk : k = (f : Int) + 1) (hd : d ≤ 40) (hc : cn f d ≤ 100) (w : World) :
    Calls Try.prog 45 #[.int .i64 k, .int .i64 (d : Int)] w (HsPost (hitR f d) w) := by
  have HOK := Lib.hid (fun j => hitTo_ok hf hd hc j)
  have SP := Lib.hid (SmY_pd (d := d) hf hc)
  have HF := Lib.hid hf
  have HK := Lib.hid hk
  have HC := Lib.hid hc
  have J0 : Hid (HsJ w (.slice none 0 0) [] (hitTo f d 0) w) := Lib.hid ⟨Below.refl _ _, ⟨World.ownsRow_nil _ _ _ _, fun z hz => by cases hz⟩, rfl⟩
  clear hf hk hc
  go_enter Try.func45, Try.ntmps45
  go_wp2_with fail
  go_loopw [5, 6, 7, 8, 10] (fun R c _ _ _ wr => ∃ (j : Nat) (zs : RwZ), j ≤ 6 ∧ c = .int .i64 ((2 ^ j : Nat) : Int) ∧ Hid (HsJ w R zs (hitTo f d j) wr)) (fun _ c _ _ _ _ => 100 - (intOf c).toNat)
  case atStart => exact ⟨0, [], by omega, rfl, J0⟩
  case round =>
    clear J0
    obtain ⟨j, zs, hj, rfl, hJ⟩ := hrel
    have hp1 : 1 ≤ 2 ^ j := Nat.one_le_two_pow
    have hp6 : 2 ^ j ≤ 64 := Nat.le_trans (Nat.pow_le_pow_right (by decide) hj) (by decide)
    have NXP : Hid (2 ^ (j + 1) = 2 * 2 ^ j) := Lib.hid (by rw [Nat.pow_succ]; omega)
    have END := Lib.hid (fun (h : d < 2 ^ j) => hitTo_end f d j h hj)
    have NXH : Hid (2 ^ j ≤ d → hitTo f d (j + 1) = hitM (2 ^ j) (hitTo f d j) (ms f (d - 2 ^ j) [])) := Lib.hid (fun h => by rw [hitTo, if_pos h])
    have ROK := Lib.hid (HOK.out j)
    have hj9 : d < 2 ^ 6 := Nat.lt_of_le_of_lt hd (by decide)
    have J6 : Hid (2 ^ j ≤ d → j + 1 ≤ 6) := Lib.hid (fun h => by
      apply Decidable.byContradiction; intro hc
      have : j = 6 := by omega
      subst this
      omega)
    clear hj9
    generalize hitTo f d j = R0 at *
    generalize 2 ^ j = n at *
    by_cases hnd : n ≤ d
    · obtain ⟨e, he⟩ : ∃ e, e + n = d := ⟨d - n, by omega⟩
      have ee : d - n = e := by omega
      rw [ee] at NXH
      have hle : (n : Int) ≤ (d : Int) := by omega
      have hsub : (d : Int) - (n : Int) = (e : Int) := by omega
      have hw1 : wrap64 ((d : Int) - (n : Int)) = (e : Int) := by rw [wrap_sm (by omega) (by omega), hsub]
      have hw2 : IntKind.i64.wrap ((d : Int) - (n : Int)) = (e : Int) := by rw [IntKind.wrap_i64]; omega
      have hce : cn f e ≤ 100 := by
        have := cn_mono f HF.out d (by omega) n
        rw [ee] at this
        have := HC.out
        omega
      have hko : k.toNat - 1 = f := by have := HK.out; omega
      have hmi : moIn k (e : Int) := by have := HK.out; have := HF.out; exact ⟨⟨by omega, by omega⟩, by omega, by omega⟩
      have HCE : Hid (hcOf k (e : Int) = 0) := Lib.hid (by unfold hcOf; rw [if_pos hmi, hko, Int.toNat_natCast, if_pos hce])
      have ALL := Lib.hid (fun wx => hitMonomials_any k (e : Int) wx)
      have HME : Hid (hmOf k (e : Int) = ms f e []) := Lib.hid (by unfold hmOf; rw [if_pos HCE.out, hko, Int.toNat_natCast])
      unfold HmPost at ALL
      rw [HCE.out, HME.out] at ALL
      have HAT := Lib.hid (fun t => hitM_at HF.out he hd R0 ROK.out.1 t)
      have SQO := Lib.hid (fun m (hm : m ∈ ms f e []) => sqM_ok HF.out he hd hm)
      have MSL : Hid ((ms f e []).length ≤ 100) := Lib.hid (by rw [ms_cn]; exact hce)
      have MTM := Lib.hid (fun m (hm : m ∈ ms f e []) => ms_tm HF.out hm)
      have NX1 := Lib.hid (NXH.out hnd)
      have J7 := Lib.hid (J6.out hnd)
      have r0l := Nat.le_trans ROK.out.2 (Nat.mul_le_mul_right 100 hj)
      clear hsub NXH J6 END ROK hnd HCE HME hce hmi
      generalize ms f e [] = L at *
      go_wp2_with fail
      refine (ALL.out _).mono ?_
      rintro e2 w2 ⟨u, rfl, ou, b2⟩
      obtain ⟨ua, uc, rfl⟩ := own_slc ou
      rw [List.length_map, List.length_map] at *
      have LK : Hid (∀ z ∈ L.map padY, z.length = 4) := Lib.hid (fun z hz => by
        obtain ⟨m, hm, rfl⟩ := List.mem_map.1 hz
        rw [padY_len (by rw [(MTM.out m hm).1]; have := HF.out; omega)])
      have O2 : Hid (OwnY w2 0 (.slice ua L.length uc) ((L.map padY).map pwK)) := Lib.hid (own_base ou (Nat.zero_le _))
      have I0 : Hid (HsJ w u5 zs (hitM n R0 (L.take 0)) w2) := Lib.hid (by rw [List.take_zero, hitM_nil]; exact hJ.out.up b2)
      clear ou b2 hJ ALL
      go_wp2_with fail
      go_loopw [5, 10, 26] (fun R _ c wr => ∃ (t : Nat) (zs : RwZ), t ≤ L.length ∧ c = .int .i64 t ∧ Hid (HsJ w R zs (hitM n R0 (L.take t)) wr) ∧ Hid (OwnY wr 0 (.slice ua L.length uc) ((L.map padY).map pwK))) (fun _ _ c _ => L.length - (intOf c).toNat)
      case atStart => exact ⟨0, zs, by omega, rfl, I0, O2⟩
      case round =>
        clear I0 O2
        obtain ⟨t, zs, ht, rfl, hJ, hO⟩ := hrel
        have tl := MSL.out
        by_cases htl : t < L.length
        · have htl' : (t : Int) < (L.length : Int) := by omega
          obtain ⟨a9, c9, e9, _, hrd⟩ := rdY_of_own hO.out LK.out
          rw [List.length_map, List.length_map] at e9
          cases e9
          obtain ⟨b, off, rfl, hbl, hrg⟩ := hrd.resolve_left (by rw [List.length_map, List.length_map]; omega)
          have hmm : L[t] ∈ L := List.getElem_mem htl
          have hrk := hrg t (by rw [List.length_map, List.length_map]; exact htl)
          rw [List.getElem?_map, List.getElem?_map, List.getElem?_eq_getElem htl] at hrk
          have hrow := MTM.out _ hmm
          obtain ⟨sq1, sq2⟩ := SQO.out _ hmm
          obtain ⟨hr1, hr2⟩ := HAT.out t
          have NXT : Hid (hitM n R0 (L.take (t + 1)) = withR (hitM n R0 (L.take t)) (oddY (sqAll [L[t]] n))) := Lib.hid (by rw [List.take_add_one, List.getElem?_eq_getElem htl, Option.toList_some, hitM_snoc])
          generalize L[t] = m at *
          have x4 : (padY m).length = 4 := padY_len (by rw [hrow.1]; have := HF.out; omega)
          have HRW : Hid (wr.rangeAt b (off + t * 4) (pwK (padY m)).toList) := Lib.hid hrk
          have SX : Hid ((pwK (padY m)).size = 4) := Lib.hid (by rw [pwK_size, x4])
          have ONX : Hid ((pwK (padY m)).all (·.oneCell') = true) := Lib.hid (pwK_one _)
          have NX : Hid ((wr.alloc (.cells (pwK (padY m)) 71)).rangeAt wr.heap.size 0 (pwK (padY m)).toList) := Lib.hid (PwAt.new wr (padY m)).range
          have BS := fun w => bsRunYK w (padY m) x4
          have zb : zs.length ≤ 1000 := by have := hJ.out.len; have := MSL.out; omega
          have hmf := hrow.1
          have SQ : Hid (Calls Try.prog 75 #[.slice (some ⟨wr.heap.size + 1, 0, none⟩) 1 1, .int .i64 (n : Int)] ((wr.alloc (.cells (pwK (padY m)) 71)).alloc (.cells (pwK (padY m)) 71)) (MonsRes ((oddY (sqAll [m] n)).map padY) ((wr.alloc (.cells (pwK (padY m)) 71)).alloc (.cells (pwK (padY m)) 71)))) := Lib.hid (by
            rw [← odd_padS hmf]
            refine squareY_any _ [padY m] e n _ ⟨_, 1, rfl, (by show 1 ≤ maxLen; decide), .inr ⟨wr.heap.size + 1, 0, rfl, ?_, fun i hi => ?_⟩⟩ (fun x hx => ?_) (by omega) (by show 1 ≤ 100000; decide)
            · rw [World.size_alloc, World.size_alloc]; omega
            · obtain rfl : i = 0 := by
                have : i < 1 := hi
                omega
              have := (PwAt.new (wr.alloc (.cells (pwK (padY m)) 71)) (padY m)).range
              rw [World.size_alloc] at this
              exact this
            · rw [List.mem_singleton.1 hx]; exact hrow.2)
          have B1 : Hid (Below wr.heap.size wr ((wr.alloc (.cells (pwK (padY m)) 71)).alloc (.cells (pwK (padY m)) 71))) := Lib.hid (((Below.refl _ _).alloc (Nat.le_refl _) _).alloc (by rw [World.size_alloc]; omega) _)
          have SQK := Lib.hid (pd_ok (OkT.mk sq1 sq2))
          have WP := Lib.hid (withR_pad (k := f + 1) (hitM n R0 (L.take t)) (oddY (sqAll [m] n)) (fun t ht => (sq2 t ht).1) hr1.wide)
          have RI := Lib.hid (pd_rows hr1)
          clear hrg hrk hrow hmm sq1 sq2 hr1 hr2
          generalize pwK (padY m) = K at *
          generalize oddY (sqAll [m] n) = q at *
          go_wp2_with (first | (refine ldKY rfl _ rfl b (off + t * 4) rfl K HRW.out SX.out ?_) | (refine stKY wr rfl _ _ rfl rfl K rfl SX.out ONX.out ?_) | (refine ldKY rfl _ rfl wr.heap.size 0 rfl K NX.out SX.out ?_) | (refine bsKY _ rfl _ rfl K rfl (BS _) ?_))
          refine SQ.out.mono ?_
          rintro e3 w3 ⟨qv, rfl, oq, bq⟩
          have B3 := Lib.hid (B1.out.step1 bq)
          have J3 := Lib.hid (hJ.out.up B3.out)
          have O3 := Lib.hid (own_below hO.out B3.out)
          have WW := Lib.hid (with_any (PdP f d) u5 qv zs (q.map padY) w.heap.size w3 SP.out J3.out.fam J3.out.bel.size (own_base oq (Nat.zero_le _)) (by rw [J3.out.eq]; exact RI.out) SQK.out zb)
          clear oq bq SQ HRW NX
          go_wp2_with fail
          refine WW.out.mono ?_
          rintro e4 w4 ⟨S', zs', rfl, f4, e4, g4⟩
          have J4 : Hid (HsJ w S' zs' (hitM n R0 (L.take (t + 1))) w4) := Lib.hid ⟨below_trans J3.out.bel (grown_below J3.out.bel.size J3.out.fam.out g4), f4, by
            rw [e4, J3.out.eq, NXT.out]
            exact WP.out⟩
          have O4 := Lib.hid (own_grownT O3.out J3.out.fam.out g4 pw_ne_pp)
          clear WW J3 O3 f4 e4 g4
          go_wp2_with fail
          go_roundw
          case rel => exact ⟨t + 1, zs', by omega, by go_num, J4, O4⟩
          case measure => simp [intOf]; omega
        · obtain rfl : t = L.length := by omega
          rw [List.take_length, ← NX1.out] at hJ
          have hw2 : wrap64 ((n : Int) * 2) = (n : Int) * 2 := wrap_sm (by omega) (by omega)
          go_wp2_with fail
          go_roundw
          case rel => exact ⟨j + 1, zs, J7.out, by rw [NXP.out]; congr 1; omega, hJ⟩
          case measure => simp [intOf]; omega
    · have hlt' : ¬ (n : Int) ≤ (d : Int) := by omega
      have E9 := Lib.hid (END.out (by omega))
      rw [E9.out] at hJ
      go_wp2_with fail
      go_ret
      exact ⟨_, zs, rfl, hJ.out.fam, hJ.out.eq, hJ.out.bel⟩
end Go.Proofs.Ytggebkcmokpcmaa
end
section
namespace Go.Proofs.Ytggebkcmokpcmaa
open Go.RowKit
set_option maxRecDepth 100000
set_option linter.unusedVariables false

/-- A call that answers v and leaves what was. -/
def SaysV (v : Value) (w : World) (e : Ending) (w' : World) : Prop := e = .returned v ∧ Below w.heap.size w w'
/-- A call that answers a new list of numbers, and a code. -/
def ResI (zs : List Int) (c : Int) (w : World) (e : Ending) (w' : World) : Prop :=
  ∃ v, e = .returned (.tuple #[v, .int .i64 c]) ∧ w'.ownsRow w.heap.size 2 1 v zs.length (zs.map (Value.int .i64)) ∧ Below w.heap.size w w'

theorem apart_sw {v v' : Value} (h : v.ownBlock = none ∨ v.ownBlock ≠ v'.ownBlock) : v'.ownBlock = none ∨ v'.ownBlock ≠ v.ownBlock := by
  rcases h with h | h
  · rw [h]
    exact Classical.em _
  · exact .inr (Ne.symm h)
theorem below_one {a w w' : World} (h : Below a.heap.size a w) (k : Below w.heap.size w w') : Below a.heap.size a w' := h.trans (k.mono h.size)
theorem below_dr (w : World) (q : Nat) : Below w.heap.size w (w.drewN q) := ⟨rfl, rfl, rfl, Nat.le_refl _, fun _ _ => rfl⟩
theorem rd_cpy {w : World} {B n : Nat} {G : Nat → Int} {v : Value} (h : w.ownsRow B 2 1 v n ((cpy G n n).map (Value.int .i64))) : RdI w v n G :=
  (rd_of_own h (cpy_length G n n).symm).congr (cpy_get G n)

/-- Two calls that answer the same. -/
theorem resI_up {f : Nat} {args : Array Value} {w : World} {zs : List Int} {c : Int} (h : Calls Try.prog f args w fun e w' => ∃ v, e = .returned (.tuple #[v, .int .i64 c]) ∧ w'.ownsRow w.heap.size 2 1 v zs.length (zs.map (Value.int .i64)) ∧ Below w.heap.size w w') : Calls Try.prog f args w (ResI zs c w) := h
theorem saysV_up {f : Nat} {args : Array Value} {w : World} {v : Value} (h : Calls Try.prog f args w fun e w' => e = .returned v ∧ w = w') : Calls Try.prog f args w (SaysV v w) :=
  h.mono fun e w' ⟨he, hw⟩ => ⟨he, hw ▸ Below.refl _ _⟩
end Go.Proofs.Ytggebkcmokpcmaa
end
