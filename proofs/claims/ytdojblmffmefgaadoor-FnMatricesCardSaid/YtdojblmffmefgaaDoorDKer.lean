/-
  Contract of spec.l02Kernel.
-/
import Derived.Test.YtdojblmffmefgaaDoorDRed
import Derived.Test.YtdojblmffmefgaaDoorPlainRun
namespace Go.Proofs.YtdojblmffmefgaaDoor
open Go.RowKit
set_option linter.unusedVariables false
set_option maxRecDepth 100000

/-- append(v, r), and where the new row lies. -/
theorem wpList_append1L {w : World} {ops : Array Oper} {rest : List Oper} {o : Oper} {a : Act} {Q : Exit → Act → World → Prop} (hgd : o.guard = none) (s x : Operand)
    (ho : o.op = .call { callee := .builtin .append, args := #[s, x], argTypes := #[24, 24] })
    (B : Nat) (v : Value) (n : Nat) (xs : List Int) (hs : a.eval s = v) (hown : w.ownsRow B 2 1 v n (xs.map (Value.int .i64)))
    (r : Int) (g c : Nat) (hx : a.eval x = .slice (some ⟨g, 0, none⟩) 1 c) (hc : w.cell? ⟨g, 0, none⟩ = some (.int .i64 r)) (hn : n ≤ 1000000) (hB : B ≤ w.heap.size)
    (h : ∀ g' cap w', w'.ownsRow B 2 1 (.slice (some ⟨g', 0, none⟩) (n + 1) cap) (n + 1) ((xs ++ [r]).map (Value.int .i64)) → w.grownBy w' v.ownBlock → (v.ownBlock = some g' ∨ g' = w.heap.size) → wpList Tryd.prog ops Q rest (a.put o.dst (.slice (some ⟨g', 0, none⟩) (n + 1) cap)) w') : wpList Tryd.prog ops Q (o :: rest) a w := by
  obtain ⟨i0, hi, hz0, hz1, hz2⟩ := info_parts Tryd.info2
  refine wpList_append_lies w hgd s x 24 ho B 2 i0 (.int .i64 0) 1 8 Tryd.underlying24 hi hz0 hz1 hz2 rfl (by decide) v n (xs.map (Value.int .i64)) hs hown ⟨g, 0, none⟩ 1 c [.int .i64 r] hx rfl ?_ ?_ (by decide) ?_ ?_ hB _ rfl ?_
  · intro j u hj
    match j, hj with
    | 0, hj => simp at hj; subst hj; simpa [Addr.add] using hc
  · intro u hu; simp at hu; subst hu; rfl
  · unfold maxLen; omega
  · omega
  · intro g' cap w' h1 h2 h3 _
    exact h g' cap w' (by rw [List.map_append]; exact h1) h2 h3

theorem apart_new {w : World} {B m g : Nat} {u v v' : Value} {ys : List Value} (h : w.ownsRow B 2 1 u m ys) (ap : u.ownBlock = none ∨ u.ownBlock ≠ v.ownBlock) (hl : v.ownBlock = some g ∨ g = w.heap.size) (hv : v'.ownBlock = some g) : u.ownBlock = none ∨ u.ownBlock ≠ v'.ownBlock := by
  rw [hv]
  rcases hl with e | e
  · rw [← e]; exact ap
  · cases hu : u.ownBlock with
    | none => exact .inl rfl
    | some q =>
      have := (h.lt q hu).2
      refine .inr fun e2 => ?_
      simp at e2
      omega

/-- The three rows of the list's way. -/
structure K3 (w0 : World) (vd vm vo : Value) (D M O : List Nat) (w : World) : Prop where
  d : w.ownsRow w0.heap.size 2 1 vd D.length ((nI D).map (Value.int .i64))
  m : w.ownsRow w0.heap.size 2 1 vm M.length ((nI M).map (Value.int .i64))
  o : w.ownsRow w0.heap.size 2 1 vo O.length ((nI O).map (Value.int .i64))
  dm : vd.ownBlock = none ∨ vd.ownBlock ≠ vm.ownBlock
  dn : vd.ownBlock = none ∨ vd.ownBlock ≠ vo.ownBlock
  mo : vm.ownBlock = none ∨ vm.ownBlock ≠ vo.ownBlock
  bel : Below w0.heap.size w0 w
section
variable {w0 w w' : World} {vd vm vo : Value} {D M O : List Nat} {g cap x : Nat}
theorem K3.up (h : K3 w0 vd vm vo D M O w) (k : Below w.heap.size w w') : K3 w0 vd vm vo D M O w' :=
  ⟨own_below h.d k, own_below h.m k, own_below h.o k, h.dm, h.dn, h.mo, h.bel.trans (k.mono h.bel.size)⟩
theorem nI_snoc (L : List Nat) (x : Nat) : nI L ++ [(x : Int)] = nI (L ++ [x]) := by rw [nI_app]; rfl
theorem K3.pushO (h : K3 w0 vd vm vo D M O w) (ho : w'.ownsRow w0.heap.size 2 1 (.slice (some ⟨g, 0, none⟩) (O.length + 1) cap) (O.length + 1) ((nI O ++ [(x : Int)]).map (Value.int .i64))) (k : w.grownBy w' vo.ownBlock) (hl : vo.ownBlock = some g ∨ g = w.heap.size) :
    K3 w0 vd vm (.slice (some ⟨g, 0, none⟩) (O.length + 1) cap) D M (O ++ [x]) w' :=
  ⟨h.d.kept k h.dn, h.m.kept k h.mo, by rw [← nI_snoc, List.length_append]; exact ho, h.dm, apart_new h.d h.dn hl rfl, apart_new h.m h.mo hl rfl, h.bel.grown k h.bel.size (fun q hq => (h.o.lt q hq).1)⟩
theorem K3.pushD (h : K3 w0 vd vm vo D M O w) (ho : w'.ownsRow w0.heap.size 2 1 (.slice (some ⟨g, 0, none⟩) (D.length + 1) cap) (D.length + 1) ((nI D ++ [(x : Int)]).map (Value.int .i64))) (k : w.grownBy w' vd.ownBlock) (hl : vd.ownBlock = some g ∨ g = w.heap.size) :
    K3 w0 (.slice (some ⟨g, 0, none⟩) (D.length + 1) cap) vm vo (D ++ [x]) M O w' :=
  ⟨by rw [← nI_snoc, List.length_append]; exact ho, h.m.kept k (apart_symm h.dm), h.o.kept k (apart_symm h.dn), apart_symm (apart_new h.m (apart_symm h.dm) hl rfl), apart_symm (apart_new h.o (apart_symm h.dn) hl rfl), h.mo, h.bel.grown k h.bel.size (fun q hq => (h.d.lt q hq).1)⟩
theorem K3.pushM (h : K3 w0 vd vm vo D M O w) (ho : w'.ownsRow w0.heap.size 2 1 (.slice (some ⟨g, 0, none⟩) (M.length + 1) cap) (M.length + 1) ((nI M ++ [(x : Int)]).map (Value.int .i64))) (k : w.grownBy w' vm.ownBlock) (hl : vm.ownBlock = some g ∨ g = w.heap.size) :
    K3 w0 vd (.slice (some ⟨g, 0, none⟩) (M.length + 1) cap) vo D (M ++ [x]) O w' :=
  ⟨h.d.kept k h.dm, by rw [← nI_snoc, List.length_append]; exact ho, h.o.kept k (apart_symm h.mo), apart_new h.d h.dm hl rfl, h.dn, apart_symm (apart_new h.o (apart_symm h.mo) hl rfl), h.bel.grown k h.bel.size (fun q hq => (h.m.lt q hq).1)⟩
theorem K3.rd (h : K3 w0 vd vm vo D M O w) : RdN w vd D ∧ RdN w vm M := ⟨rdn_of_own h.d, rdn_of_own h.m⟩
end

theorem kruns_len (G : Nat → Nat) (i : Nat) : (kruns G i).D.length ≤ i ∧ (kruns G i).O.length ≤ i := by
  induction i with
  | zero => exact ⟨Nat.le_refl _, Nat.le_refl _⟩
  | succ i ih =>
    rw [kruns]
    unfold kst
    split
    · simp; omega
    · simp; omega

theorem rml_at {st : KS} (h : KOk st) (r : TR) (h1 : r.1 < 2 ^ 60 ∧ r.2 < 2 ^ 60) (j : Nat) (hj : j ≤ st.D.length) : (rmp (fam st.D st.M) (pvt st.D) r j).1 < 2 ^ 60 ∧ (rmp (fam st.D st.M) (pvt st.D) r j).2 < 2 ^ 60 := by
  induction j with
  | zero => exact h1
  | succ j ih =>
    obtain ⟨a, b⟩ := ih (by omega)
    rw [rmp_succ]; unfold stp
    split
    · exact ⟨Nat.xor_lt_two_pow a (h.lt j (by omega)), Nat.xor_lt_two_pow b (h.tl j (by omega))⟩
    · exact ⟨a, b⟩

theorem wrap_two (j : Nat) (hj : j < 60) : wrap64 (2 ^ j) = ((2 ^ j : Nat) : Int) := by
  have h1 := pow_le60 hj
  have e : ((2 ^ j : Nat) : Int) = 2 ^ j := by simp
  rw [← e]
  clear e
  generalize (2 ^ j : Nat) = z at *
  exact IntWalk.wrap64_in _ ⟨by omega, by omega⟩

set_option maxHeartbeats 4000000 in
theorem l02Kernel_any (s : Value) (R : List Nat) (w : World) (h : RdN w s R) (hR : ∀ x ∈ R, x < 2 ^ 60) (hl : R.length ≤ 60) :
    Calls Tryd.prog 95 #[s] w (PutRes w.heap.size (putAll [] (kruns (fun i => R.getD i 0) R.length).O) w) := by
  have H := Lib.hid h
  have HR := Lib.hid hR
  have BR := Lib.hid (both_runs (fun i => R.getD i 0) R.length hl (fun i hi => by
    have : R.getD i 0 ∈ R := by rw [List.getD_eq_getElem?_getD, List.getElem?_eq_getElem hi]; exact List.getElem_mem hi
    exact hR _ this))
  obtain ⟨a, cap, rfl, hm, hc⟩ := h
  clear hc hR
  generalize hn : R.length = n at *
  have HN := Lib.hid hn
  clear hn
  generalize hG : (fun i => R.getD i 0) = G at *
  have HG : Hid (∀ i, R.getD i 0 = G i) := Lib.hid (fun i => by rw [← hG])
  clear hG
  have W3 : ∃ w3, w3 = (((w.alloc (.cells #[] 2)).alloc (.cells #[] 2)).alloc (.cells #[] 2)) := ⟨_, rfl⟩
  obtain ⟨w3, hw3⟩ := W3
  have S3 : Hid (K3 w (.slice (some ⟨w.heap.size, 0, none⟩) 0 0) (.slice (some ⟨w.heap.size + 1, 0, none⟩) 0 0) (.slice (some ⟨w.heap.size + 1 + 1, 0, none⟩) 0 0) (kruns G 0).D (kruns G 0).M (kruns G 0).O w3) := Lib.hid (by
    have b1 : Below w.heap.size w (w.alloc (.cells #[] 2)) := (Below.refl _ _).alloc (Nat.le_refl _) _
    have b2 : Below w.heap.size w ((w.alloc (.cells #[] 2)).alloc (.cells #[] 2)) := b1.alloc (by simp) _
    have b3 : Below w.heap.size w (((w.alloc (.cells #[] 2)).alloc (.cells #[] 2)).alloc (.cells #[] 2)) := b2.alloc (by simp; omega) _
    have o1 : (w.alloc (.cells #[] 2)).ownsRow w.heap.size 2 1 (.slice (some ⟨w.heap.size, 0, none⟩) 0 0) 0 (([] : List Int).map (Value.int .i64)) := World.ownsRow_made w #[] 0 (Nat.le_refl _) (Nat.zero_le _) (by simp)
    have o2 : ((w.alloc (.cells #[] 2)).alloc (.cells #[] 2)).ownsRow w.heap.size 2 1 (.slice (some ⟨w.heap.size + 1, 0, none⟩) 0 0) 0 (([] : List Int).map (Value.int .i64)) := by
      have := World.ownsRow_made (base := w.heap.size) (e := 2) (size := 1) (w.alloc (.cells #[] 2)) #[] 0 b1.size (Nat.zero_le _) (by simp)
      simpa using this
    have o3 : (((w.alloc (.cells #[] 2)).alloc (.cells #[] 2)).alloc (.cells #[] 2)).ownsRow w.heap.size 2 1 (.slice (some ⟨w.heap.size + 1 + 1, 0, none⟩) 0 0) 0 (([] : List Int).map (Value.int .i64)) := by
      have := World.ownsRow_made (base := w.heap.size) (e := 2) (size := 1) ((w.alloc (.cells #[] 2)).alloc (.cells #[] 2)) #[] 0 b2.size (Nat.zero_le _) (by simp)
      simpa using this
    rw [hw3]
    refine ⟨own_below (own_below o1 ((Below.refl _ _).alloc (Nat.le_refl _) _)) ((Below.refl _ _).alloc (Nat.le_refl _) _), own_below o2 ((Below.refl _ _).alloc (Nat.le_refl _) _), o3, .inr ?_, .inr ?_, .inr ?_, b3⟩ <;> simp [Value.ownBlock] <;> omega)
  go_enter Tryd.func95, Tryd.ntmps95
  go_wp2
  rw [← hw3]
  clear hw3
  go_loopw [3, 4, 5, 6] (fun vd vm vo c wr => ∃ i : Nat, i ≤ n ∧ c = .int .i64 i ∧ Hid (K3 w vd vm vo (kruns G i).D (kruns G i).M (kruns G i).O wr)) (fun _ _ _ c _ => n - (intOf c).toNat)
  case atStart => exact ⟨0, by omega, rfl, S3⟩
  case round =>
    clear S3
    obtain ⟨i, hi, rfl, S⟩ := hrel
    obtain ⟨da, dc, rfl⟩ := S.out.d.shape
    obtain ⟨ma, mc, rfl⟩ := S.out.m.shape
    obtain ⟨oa, oc, rfl⟩ := S.out.o.shape
    have BI := BR.out i hi
    obtain ⟨ld, lo⟩ := kruns_len G i
    by_cases hlt : i < n
    · have hlt' : (i : Int) < (n : Int) := by omega
      have HRi := H.out.below S.out.bel
      unfold RdN at HRi
      rw [HN.out] at HRi
      obtain ⟨_, _, e, _, hc⟩ := HRi
      cases e
      obtain ⟨b, off, rfl, hc2⟩ := hc.resolve_left (by omega)
      have c1 : wr.cell? ⟨b, off + i, none⟩ = some (.int .i64 ((R.getD i 0 : Nat) : Int)) := hc2 i hlt
      rw [HG.out i] at c1
      have gl : G i < 2 ^ 60 := by rw [← HG.out i]; exact HR.out _ (by rw [List.getD_eq_getElem?_getD, List.getElem?_eq_getElem (by rw [HN.out]; exact hlt)]; exact List.getElem_mem (by rw [HN.out]; exact hlt))
      clear hc hc2
      have ok := BI.ok
      have LM := Lib.hid ok.len
      have AT := Lib.hid (rml_at ok (G i, 2 ^ i) ⟨gl, pow_lt60 (by omega)⟩)
      have RS := Lib.hid (rmp_succ (fam (kruns G i).D (kruns G i).M) (pvt (kruns G i).D) (G i, 2 ^ i))
      have KE : Hid (kruns G (i + 1) = kst (kruns G i) (G i, 2 ^ i)) := Lib.hid rfl
      have W2 := Lib.hid (wrap_two i (by omega))
      have RD := Lib.hid S.out.rd
      have R0 : Hid (rmp (fam (kruns G i).D (kruns G i).M) (pvt (kruns G i).D) (G i, 2 ^ i) 0 = (G i, 2 ^ i)) := Lib.hid rfl
      have OKK := Lib.hid ok
      have RL : Hid (rml (kruns G i).D (kruns G i).M (G i, 2 ^ i) = rmp (fam (kruns G i).D (kruns G i).M) (pvt (kruns G i).D) (G i, 2 ^ i) (kruns G i).D.length) := Lib.hid rfl
      have KZ := Lib.hid (@kst_zero (kruns G i) (G i, 2 ^ i))
      have KM := Lib.hid (@kst_more (kruns G i) (G i, 2 ^ i))
      clear BI ok gl
      generalize kruns G i = st at *
      generalize hq : (fun j => rmp (fam st.D st.M) (pvt st.D) (G i, 2 ^ i) j) = q at *
      have HQ : Hid (∀ j, rmp (fam st.D st.M) (pvt st.D) (G i, 2 ^ i) j = q j) := Lib.hid (fun j => by rw [← hq])
      clear hq
      go_wp2
      go_loop [7, 8, 9] (fun x o c => ∃ j : Nat, j ≤ st.D.length ∧ c = .int .i64 j ∧ x = .int .i64 (((q j).1 : Nat) : Int) ∧ o = .int .i64 (((q j).2 : Nat) : Int)) (fun _ _ c => st.D.length - (intOf c).toNat)
      case atStart =>
        refine ⟨0, by omega, rfl, ?_, ?_⟩
        · rw [← HQ.out, R0.out]
        · rw [← HQ.out, R0.out, ← W2.out]
      case round =>
        obtain ⟨j, hj, rfl, rfl, rfl⟩ := hrel
        by_cases hjd : j < st.D.length
        · have hjd' : (j : Int) < (st.D.length : Int) := by omega
          obtain ⟨_, _, e1, _, hcd⟩ := RD.out.1
          cases e1
          obtain ⟨bd, od, rfl, hcd2⟩ := hcd.resolve_left (by omega)
          have d1 : wr.cell? ⟨bd, od + j, none⟩ = some (.int .i64 ((st.D.getD j 0 : Nat) : Int)) := hcd2 j hjd
          obtain ⟨_, _, e2, _, hcm⟩ := RD.out.2
          cases e2
          obtain ⟨bm, om, rfl, hcm2⟩ := hcm.resolve_left (by have := LM.out; omega)
          have d2 : wr.cell? ⟨bm, om + j, none⟩ = some (.int .i64 ((st.M.getD j 0 : Nat) : Int)) := hcm2 j (by have := LM.out; omega)
          clear hcd hcd2 hcm hcm2
          have hd := OKK.out.lt j hjd
          have hdm := OKK.out.tl j hjd
          have h0 := OKK.out.pos j hjd
          have QJ := AT.out j (by omega)
          rw [HQ.out] at QJ
          have QS := RS.out j
          rw [HQ.out, HQ.out] at QS
          have QS : Hid (q (j + 1) = stp (q j) (tz (st.D.getD j 0)) (st.D.getD j 0, st.M.getD j 0)) := Lib.hid QS
          have BT := Lib.hid (bit_test (q j).1 (tz (st.D.getD j 0)) QJ.1 (tz_lt60 _ h0 hd))
          have LW := Lib.hid (fun w => l02Low_any (st.D.getD j 0) w h0 hd)
          have X1 := Lib.hid (i64_xor (q j).1 (st.D.getD j 0) (by have := QJ.1; omega) (by omega))
          have X2 := Lib.hid (i64_xor (q j).2 (st.M.getD j 0) (by have := QJ.2; omega) (by omega))
          have H0 := Lib.hid h0
          have hjm : (j : Int) < (st.M.length : Int) := by have := LM.out; omega
          clear hd hdm h0 QJ
          generalize q j = y at *
          generalize st.D.getD j 0 = dd at *
          generalize st.M.getD j 0 = mm at *
          cases hb : y.1.testBit (tz dd) with
          | true =>
            have hb2 : (bits .and .i64 ((y.1 : Nat) : Int) ((2 ^ tz dd : Nat) : Int) != 0) = true := by rw [BT.out]; exact hb
            have E : Hid (q (j + 1) = (y.1 ^^^ dd, y.2 ^^^ mm)) := Lib.hid (by rw [QS.out]; unfold stp; rw [if_pos ⟨H0.out, hb⟩]; rfl)
            clear hb
            generalize ((2 ^ tz dd : Nat) : Int) = pw at *
            go_wp2_with (go_at_call 114; refine (LW.out _).mono ?_; rintro e w' ⟨rfl, rfl⟩)
            go_round
            case rel => exact ⟨j + 1, by omega, by go_num, by rw [E.out, ← X1.out], by rw [E.out, ← X2.out]⟩
            case measure => simp [intOf]; omega
          | false =>
            have hb2 : (bits .and .i64 ((y.1 : Nat) : Int) ((2 ^ tz dd : Nat) : Int) != 0) = false := by rw [BT.out]; exact hb
            have E : Hid (q (j + 1) = y) := Lib.hid (by rw [QS.out]; unfold stp; rw [if_neg (fun h => by have := h.2; rw [hb] at this; cases this)])
            clear hb
            generalize ((2 ^ tz dd : Nat) : Int) = pw at *
            go_wp2_with (go_at_call 114; refine (LW.out _).mono ?_; rintro e w' ⟨rfl, rfl⟩)
            go_round
            case rel => exact ⟨j + 1, by omega, by go_num, by rw [E.out], by rw [E.out]⟩
            case measure => simp [intOf]; omega
        · obtain rfl : j = st.D.length := by omega
          rw [HQ.out] at RL
          by_cases hz : (q st.D.length).1 = 0
          · have hb : ((((q st.D.length).1 : Nat) : Int) == 0) = true := by rw [hz]; rfl
            have EK : Hid (kruns G (i + 1) = ⟨st.D, st.M, st.O ++ [(q st.D.length).2]⟩) := Lib.hid (by rw [KE.out, KZ.out (by rw [RL.out]; exact hz), RL.out])
            clear hz
            have A := Lib.hid (S.out.up ((Below.refl _ _).alloc (Nat.le_refl _) (.cells #[.int .i64 (((q st.D.length).2 : Nat) : Int)] 2)))
            go_wp2_with (at_builtin; refine wpList_append1L rfl _ _ rfl w.heap.size _ st.O.length (nI st.O) rfl A.out.o _ _ 1 rfl (World.cell?_alloc_new _ _ _ _) ?c1 ?c2 ?_)
            case c1 => omega
            case c2 => have := A.out.bel.size; simpa using this
            intro g' cp w5 ho hg hl2
            have F := Lib.hid (A.out.pushO (x := (q st.D.length).2) (by rw [List.map_append]; exact ho) hg (by simpa using hl2))
            clear ho hg hl2
            go_wp2
            go_roundw
            case rel => exact ⟨i + 1, by omega, by go_num, Lib.hid (by rw [EK.out]; exact F.out)⟩
            case measure => simp [intOf]; omega
          · have hb : ((((q st.D.length).1 : Nat) : Int) == 0) = false := by rw [beq_eq_false_iff_ne]; omega
            have EK : Hid (kruns G (i + 1) = ⟨st.D ++ [(q st.D.length).1], st.M ++ [(q st.D.length).2], st.O⟩) := Lib.hid (by rw [KE.out, KM.out (by rw [RL.out]; exact hz), RL.out])
            clear hz
            have A := Lib.hid (S.out.up ((Below.refl _ _).alloc (Nat.le_refl _) (.cells #[.int .i64 (((q st.D.length).1 : Nat) : Int)] 2)))
            go_wp2_with (at_builtin; refine wpList_append1L rfl _ _ rfl w.heap.size _ st.D.length (nI st.D) rfl A.out.d _ _ 1 rfl (World.cell?_alloc_new _ _ _ _) ?c1 ?c2 ?_)
            case c1 => omega
            case c2 => have := A.out.bel.size; simpa using this
            intro g' cp w5 ho hg hl2
            have F := Lib.hid (A.out.pushD (x := (q st.D.length).1) (by rw [List.map_append]; exact ho) hg (by simpa using hl2))
            have A2 := Lib.hid (F.out.up ((Below.refl _ _).alloc (Nat.le_refl _) (.cells #[.int .i64 (((q st.D.length).2 : Nat) : Int)] 2)))
            clear ho hg hl2
            go_wp2_with (at_builtin; refine wpList_append1L rfl _ _ rfl w.heap.size _ st.M.length (nI st.M) rfl A2.out.m _ _ 1 rfl (World.cell?_alloc_new _ _ _ _) ?c3 ?c4 ?_)
            case c3 => have := LM.out; omega
            case c4 => have := A2.out.bel.size; simpa using this
            intro g2 cp2 w6 ho hg hl2
            have F2 := Lib.hid (A2.out.pushM (x := (q st.D.length).2) (by rw [List.map_append]; exact ho) hg (by simpa using hl2))
            clear ho hg hl2
            go_wp2
            go_roundw
            case rel => exact ⟨i + 1, by omega, by go_num, Lib.hid (by rw [EK.out]; exact F2.out)⟩
            case measure => simp [intOf]; omega
    · obtain rfl : i = n := by omega
      have RO := Lib.hid (rdn_of_own S.out.o)
      have BL := Lib.hid S.out.bel
      have OB : ∀ x ∈ (kruns G i).O, x < 2 ^ 60 := fun x hx => by
        rw [BI.same] at hx
        exact Nat.lt_of_lt_of_le (BI.out x hx).1 (Nat.pow_le_pow_right (by decide) hl)
      have OBB := Lib.hid OB
      clear OB BI
      generalize (kruns G i).O = K at *
      go_wp2_with fail
      refine (l02Reduce_any _ K wr RO.out OBB.out (by omega)).mono ?_
      rintro e w5 ⟨u, rfl, o5, b5⟩
      have O5 := Lib.hid (own_base o5 BL.out.size)
      have B5 := Lib.hid (BL.out.trans (b5.mono BL.out.size))
      clear o5 b5
      go_wp2_with fail
      go_ret
      exact ⟨_, rfl, O5.out, B5.out⟩
end Go.Proofs.YtdojblmffmefgaaDoor
