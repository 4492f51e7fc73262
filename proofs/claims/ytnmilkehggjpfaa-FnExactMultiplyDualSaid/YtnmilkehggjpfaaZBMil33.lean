/-
  Joined: KSumT2.
-/
import Derived.Test.YtnmilkehggjpfaaZBMil32
section
namespace Go.Proofs.Ytnmilkehggjpfaa
open Go.RowKit Go.Maps
set_option linter.unusedVariables false
set_option maxRecDepth 100000

theorem take_at {α : Type} (l : List α) (j : Nat) (h : j < l.length) : ∃ x, l[j]? = some x ∧ x ∈ l ∧ l.take (j + 1) = l.take j ++ [x] :=
  ⟨l[j], List.getElem?_eq_getElem h, List.getElem_mem h, by rw [List.take_add_one, List.getElem?_eq_getElem h]; rfl⟩
/-- The rows of keys that stay while a loop runs. -/
structure RowsP (B : Nat) (v : Value) (ts : List (List Int)) (qa qb : Value) (A C : List (List Int)) (w : World) : Prop where
  row : w.ownsRow B 157 8 v (ts.map packK).length ((ts.map packK).flatMap Array.toList)
  one : w.ownsRow B 161 21 qa (wdL A).length ((wdL A).flatMap Array.toList)
  two : w.ownsRow B 161 21 qb (wdL C).length ((wdL C).flatMap Array.toList)
structure RowsW (B : Nat) (v : Value) (ts : List (List Int)) (w : World) : Prop where
  row : w.ownsRow B 161 21 v (ts.map wideK).length ((ts.map wideK).flatMap Array.toList)
theorem RowsP.below {B : Nat} {v qa qb : Value} {ts A C : List (List Int)} {w w' : World} (h : RowsP B v ts qa qb A C w) (k : Below w.heap.size w w') : RowsP B v ts qa qb A C w' := ⟨own_below h.row k, own_below h.one k, own_below h.two k⟩
theorem RowsW.below {B : Nat} {v : Value} {ts : List (List Int)} {w w' : World} (h : RowsW B v ts w) (k : Below w.heap.size w w') : RowsW B v ts w' := ⟨own_below h.row k⟩
theorem RowsP.kept {B n : Nat} {v qa qb S : Value} {xs : List Value} {ts A C : List (List Int)} {w w' : World} (h : RowsP B v ts qa qb A C w) (hS : w.ownsRow B 65 1 S n xs) (k : w.grownBy w' S.ownBlock) : RowsP B v ts qa qb A C w' :=
  ⟨h.row.kept k (own_types h.row hS (by decide)), h.one.kept k (own_types h.one hS (by decide)), h.two.kept k (own_types h.two hS (by decide))⟩
theorem RowsW.kept {B n : Nat} {v S : Value} {xs : List Value} {ts : List (List Int)} {w w' : World} (h : RowsW B v ts w) (hS : w.ownsRow B 65 1 S n xs) (k : w.grownBy w' S.ownBlock) : RowsW B v ts w' :=
  ⟨h.row.kept k (own_types h.row hS (by decide))⟩
theorem key_at (f : List Int → Array Value) (s : Nat) {w : World} {B : Nat} {T : TypeId} {a : Option Addr} {n cap : Nat} {ts : List (List Int)} (h : w.ownsRow B T s (.slice a n cap) (ts.map f).length ((ts.map f).flatMap Array.toList)) (hk : ∀ y ∈ ts, (f y).size = s)
    (j : Nat) (hj : j < ts.length) (x : List Int) (hx : ts[j]? = some x) : ∃ b off, a = some ⟨b, off, none⟩ ∧ w.rangeAt b (off + j * s) (f x).toList := by
  obtain ⟨a', cap', e, _, hc⟩ := rdK_of_own h (fun k hk' => by obtain ⟨y, hy, rfl⟩ := List.mem_map.1 hk'; exact hk y hy)
  obtain ⟨b, off, e2, _, hc⟩ := hc.resolve_left (by rw [List.length_map]; omega)
  have h1 := hc j (by rw [List.length_map]; exact hj)
  rw [List.getElem?_map, hx] at h1
  simp only [Value.slice.injEq] at e
  exact ⟨b, off, e.1.trans e2, h1⟩

/-- What the two rows of keys are, summed. -/
theorem sum_lists (A B ts us : List (List Int)) (nt : ts.Nodup) (nu : us.Nodup) (pt : ∀ x ∈ ts, fits x) (pu : ∀ x ∈ us, ¬ fits x)
    (ht : ∀ x, x ∈ ts ↔ (fits x ∧ par (A ++ B) x)) (hu : ∀ x, x ∈ us ↔ (¬ fits x ∧ par (A ++ B) x)) :
    (ts ++ us).Nodup ∧ ∀ zs : List (List Int), (∀ x, x ∈ zs ↔ x ∈ ts ++ us) → ∀ x, x ∈ zs ↔ par (A ++ B) x := by
  refine ⟨sum_nodup (fun x => decide (fits x)) A B ts us nt nu (fun x hx => decide_eq_true (pt x hx)) (fun x hx => decide_eq_false (pu x hx)), fun zs hm x => ?_⟩
  rw [hm, List.mem_append, ht, hu]
  by_cases h : fits x <;> simp [h]

theorem packs (A B : List (List Int)) (rs : List (Array Value)) (hn : rs.Nodup) (hm : ∀ k, k ∈ rs ↔ par (pkL A ++ pkL B) k) :
    ∃ ts : List (List Int), rs = ts.map packK ∧ ts.Nodup ∧ (∀ x ∈ ts, fits x) ∧ ts.length ≤ A.length + B.length ∧ ∀ x, x ∈ ts ↔ (fits x ∧ par (A ++ B) x) := by
  obtain ⟨ts, h1, h2, h3, h4⟩ := keys_par packK fits packK_inj (A.filter (fun x => decide (fits x))) (B.filter (fun x => decide (fits x))) (fun x hx => of_decide_eq_true (List.mem_filter.1 hx).2) (fun x hx => of_decide_eq_true (List.mem_filter.1 hx).2) rs hn hm
  have h5 : ∀ x, x ∈ ts ↔ (fits x ∧ par (A ++ B) x) := fun x => by
    rw [h4, ← List.filter_append, par_filter, decide_eq_true_iff]
  refine ⟨ts, h1, h2, h3, ?_, h5⟩
  have := nodup_len ts (A ++ B) h2 (fun x hx => par_mem _ _ ((h5 x).1 hx).2)
  rw [List.length_append] at this
  exact this
theorem wides (A B : List (List Int)) (la : ∀ x ∈ A, x.length ≤ 20) (lb : ∀ x ∈ B, x.length ≤ 20) (fa : ∀ x ∈ A, ∀ z ∈ x, (Lit.int .i64 z).wf = true) (fb : ∀ x ∈ B, ∀ z ∈ x, (Lit.int .i64 z).wf = true) (rs : List (Array Value)) (hn : rs.Nodup) (hm : ∀ k, k ∈ rs ↔ par (wdL A ++ wdL B) k) :
    ∃ us : List (List Int), rs = us.map wideK ∧ us.Nodup ∧ (∀ x ∈ us, ¬ fits x) ∧ (∀ x ∈ us, x.length ≤ 20) ∧ (∀ x ∈ us, KOKW (wideK x)) ∧ us.length ≤ A.length + B.length ∧ ∀ x, x ∈ us ↔ (¬ fits x ∧ par (A ++ B) x) := by
  have hsub : ∀ (l : List (List Int)) x, x ∈ l.filter (fun x => !decide (fits x)) → x ∈ l ∧ ¬ fits x := by
    intro l x hx
    have h := List.mem_filter.1 hx
    exact ⟨h.1, by have := h.2; simpa using this⟩
  obtain ⟨us, h1, h2, h3, h4⟩ := keys_par wideK (fun x => x.length ≤ 20) wideK_inj (A.filter (fun x => !decide (fits x))) (B.filter (fun x => !decide (fits x))) (fun x hx => la x (hsub A x hx).1) (fun x hx => lb x (hsub B x hx).1) rs hn hm
  have h5 : ∀ x, x ∈ us ↔ (¬ fits x ∧ par (A ++ B) x) := fun x => by
    rw [h4, ← List.filter_append, par_filter]
    simp
  have key : ∀ x ∈ us, (x ∈ A ∨ x ∈ B) ∧ ¬ fits x := by
    intro x hx
    obtain ⟨h6, h7⟩ := (h5 x).1 hx
    exact ⟨List.mem_append.1 (par_mem _ _ h7), h6⟩
  refine ⟨us, h1, h2, fun x hx => (key x hx).2, h3, fun x hx => wideK_ok x (h3 x hx) ?_, ?_, h5⟩
  · rcases (key x hx).1 with h | h
    · exact fa x h
    · exact fb x h
  · have := nodup_len us (A ++ B) h2 (fun x hx => par_mem _ _ ((h5 x).1 hx).2)
    rw [List.length_append] at this
    exact this

set_option maxHeartbeats 4000000 in
theorem sumOfTerms_par (va vb : Value) (m n : Nat) (X Y : Nat → List Int) (w : World) (hra : RdSS w va m X) (hrb : RdSS w vb n Y) (hm : m ≤ 20000) (hn : n ≤ 20000)
    (hX : ∀ i, i < m → (X i).length ≤ 20) (hY : ∀ i, i < n → (Y i).length ≤ 20) (hXw : ∀ i, i < m → ∀ z ∈ X i, (Lit.int .i64 z).wf = true) (hYw : ∀ i, i < n → ∀ z ∈ Y i, (Lit.int .i64 z).wf = true)
    (SORT : SortAll) :
    Calls Try.prog 120 #[va, vb] w fun e w' => ∃ V VS zs, e = .returned V ∧ FamL w' w.heap.size V VS zs ∧ Sep zs.length VS ∧ Below w.heap.size w w' ∧ Asc zs ∧ ∀ x, x ∈ zs ↔ par (rowsL X m ++ rowsL Y n) x := by
  obtain ⟨i1, hj1, hy0, hy1, hy2⟩ := info_parts Try.infoS
  have K1 := Lib.hid (keysOf_any va m X w hra hm hX hXw)
  have HRB := Lib.hid hrb
  have K2 := fun w1 (hb1 : Below w.heap.size w w1) => keysOf_any vb n Y w1 (HRB.out.below hb1) hn hY hYw
  have K2 := Lib.hid K2
  have SORT := Lib.hid SORT
  have LA : Hid (∀ x ∈ rowsL X m, x.length ≤ 20) := Lib.hid fun x hx => by obtain ⟨i, hi, rfl⟩ := mem_rowsL hx; exact hX i hi
  have LB : Hid (∀ x ∈ rowsL Y n, x.length ≤ 20) := Lib.hid fun x hx => by obtain ⟨i, hi, rfl⟩ := mem_rowsL hx; exact hY i hi
  have FA0 : Hid (∀ x ∈ rowsL X m, ∀ z ∈ x, (Lit.int .i64 z).wf = true) := Lib.hid fun x hx => by obtain ⟨i, hi, rfl⟩ := mem_rowsL hx; exact hXw i hi
  have FB0 : Hid (∀ x ∈ rowsL Y n, ∀ z ∈ x, (Lit.int .i64 z).wf = true) := Lib.hid fun x hx => by obtain ⟨i, hi, rfl⟩ := mem_rowsL hx; exact hYw i hi
  have LNA : Hid ((rowsL X m).length ≤ 20000) := Lib.hid (by rw [rowsL_len]; exact hm)
  have LNB : Hid ((rowsL Y n).length ≤ 20000) := Lib.hid (by rw [rowsL_len]; exact hn)
  clear hra hrb hX hY hXw hYw hm hn HRB
  generalize rowsL X m = A at *
  generalize rowsL Y n = C at *
  go_enter Try.func120, Try.ntmps120
  go_wp2_with fail
  refine K1.out.mono ?_
  rintro e w1 ⟨pa, qa, rfl, hpa, hqa, hb1⟩
  have HPA := Lib.hid hpa
  have HQA := Lib.hid hqa
  have HB1 := Lib.hid hb1
  clear hpa hqa hb1 K1
  go_wp2_with fail
  refine (K2.out w1 HB1.out).mono ?_
  rintro e w2 ⟨pb, qb, rfl, hpb, hqb, hb2⟩
  have HPB := Lib.hid hpb
  have HQB := Lib.hid hqb
  have HPA2 : Hid (OwnP w2 w.heap.size pa (pkL A)) := Lib.hid (own_below HPA.out hb2)
  have HQA2 : Hid (OwnW w2 w.heap.size qa (wdL A)) := Lib.hid (own_below HQA.out hb2)
  have hsz1 := HB1.out.size
  have HB2 := Lib.hid (HB1.out.trans (hb2.mono hsz1))
  clear hpb hqb hb2 K2 HPA HQA HB1
  have SP := Lib.hid (sumOfP pa pb (pkL A) (pkL C) w2 (rdP_of_own HPA2.out (pkL_ok A)) (rdP_of_own HPB.out (pkL_ok C)) (pkL_ok A) (pkL_ok C) (by have := pkL_len A; have := LNA.out; omega) (by have := pkL_len C; have := LNB.out; omega) colP)
  have hsz2 := HB2.out.size
  go_wp2_with fail
  refine SP.out.mono ?_
  rintro e w3 ⟨u, rs, rfl, hu, hb3, hnd, hmem⟩
  obtain ⟨ts, rfl, nt, pt, lt, ht⟩ := packs A C rs hnd hmem
  obtain ⟨au, cu, rfl, _, _⟩ := rdP_of_own hu (fun k hk => by obtain ⟨x, hx, rfl⟩ := List.mem_map.1 hk; exact packK_ok x (pt x hx))
  have KR0 := Lib.hid (own_base hu hsz2)
  have OKP : Hid (∀ x ∈ ts, KOKP (packK x)) := Lib.hid fun x hx => packK_ok x (pt x hx)
  have TOKP := Lib.hid pt
  have NT := Lib.hid nt
  have HTS := Lib.hid ht
  have LENP : Hid (ts.length ≤ 40000) := Lib.hid (by have := LNA.out; have := LNB.out; omega)
  have HQA3 : Hid (OwnW w3 w.heap.size qa (wdL A)) := Lib.hid (own_below HQA2.out hb3)
  have HQB3 : Hid (OwnW w3 w.heap.size qb (wdL C)) := Lib.hid (own_below (own_base HQB.out hsz1) hb3)
  have BP := Lib.hid (HB2.out.trans (hb3.mono hsz2))
  rw [List.length_map] at KR0
  have KRP : Hid (RowsP w.heap.size (.slice au ts.length cu) ts qa qb A C w3) := Lib.hid ⟨by rw [List.length_map]; exact KR0.out, HQA3.out, HQB3.out⟩
  clear hu hb3 hnd hmem pt nt ht lt SP HPA2 HPB HQA2 HQB HB2 KR0 HQA3 HQB3
  simp only [List.length_map]
  have FP : Hid (FamL w3 w.heap.size (.slice none 0 0) (fun _ => undef) []) := Lib.hid ⟨World.ownsRow_nil _ _ _ _, fun i hi => absurd hi (Nat.not_lt_zero _)⟩
  have SP : Hid (Sep ([] : List (List Int)).length (fun _ => undef)) := Lib.hid fun i j hi => absurd hi (Nat.not_lt_zero _)
  go_wp2_with fail
  go_loopw [9, 11, 28] (fun S _ c wr => ∃ j : Nat, j ≤ ts.length ∧ c = .int .i64 j ∧ ∃ VS, Hid (FamL wr w.heap.size S VS (([] : List (List Int)) ++ ts.take j)) ∧ Hid (Sep (([] : List (List Int)) ++ ts.take j).length VS) ∧ Hid (RowsP w.heap.size (.slice au ts.length cu) ts qa qb A C wr) ∧ Hid (Below w.heap.size w wr)) (fun _ _ c _ => ts.length - (intOf c).toNat)
  case atStart => exact ⟨0, Nat.zero_le _, rfl, (fun _ => undef), Lib.hid (by rw [List.take_zero]; exact FP.out), Lib.hid (by rw [List.take_zero]; exact SP.out), KRP, BP⟩
  case round =>
    clear FP SP KRP BP
    obtain ⟨j, hj, rfl, VS, hF, hS, hK, hB⟩ := hrel
    by_cases hlt : j < ts.length
    · have hlt' : (j : Int) < (ts.length : Int) := by omega
      have hsz := hB.out.size
      obtain ⟨x, hx, hmem, HT0⟩ := take_at ts j hlt
      obtain ⟨b, off, rfl, hrg⟩ := key_at packK 8 hK.out.row (fun y hy => (OKP.out y hy).size) j hlt x hx
      have HRG := Lib.hid hrg
      have HKO := Lib.hid (OKP.out x hmem)
      have TM := Lib.hid (termP_any x (wr.alloc (.cells (packK x) 157)) (TOKP.out x hmem))
      have HT : Hid (([] : List (List Int)) ++ ts.take (j + 1) = (([] : List (List Int)) ++ ts.take j) ++ [x]) := Lib.hid (by rw [HT0, List.append_assoc])
      have hj5 : j < 100000 := by have := LENP.out; omega
      have hlen : (([] : List (List Int)) ++ ts.take j).length ≤ 90000 := by rw [List.length_append, List.length_take]; have := LENP.out; (try simp only [List.length_nil]); omega
      generalize ([] : List (List Int)) ++ ts.take j = L at hF hS HT hlen
      have HN := Lib.hid (loadNewP wr (packK x) HKO.out.size)
      obtain ⟨K, hK2⟩ : ∃ K, packK x = K := ⟨_, rfl⟩
      rw [hK2] at TM HKO HRG HN
      have HSZ := Lib.hid HKO.out.size
      have HONE := Lib.hid HKO.out.one
      clear hrg hmem hK2 hx HT0
      go_wp2_with (first
        | (refine ldKP rfl _ rfl b (off + j * 8) rfl K HRG.out HSZ.out ?_)
        | (refine ldKP rfl _ rfl wr.heap.size 0 rfl K HN.out HSZ.out ?_)
        | (refine stKP wr rfl _ _ rfl rfl K rfl HSZ.out HONE.out ?_))
      refine TM.out.mono ?_
      rintro e w3 ⟨v, rfl, hv, hb3⟩
      obtain ⟨ua, uc, rfl, _⟩ := own_len hv
      have HV := Lib.hid hv
      have HB3 := Lib.hid hb3
      have hsz3 := hb3.size
      simp only [World.size_alloc] at hsz3
      have BK := Lib.hid ((Below.refl _ wr).alloc (Nat.le_refl _) (.cells K 157))
      have FA := Lib.hid (hF.out.below BK.out)
      have F3 := Lib.hid (FA.out.below hb3)
      have K3 := Lib.hid ((hK.out.below BK.out).below hb3)
      have E1 : Hid (∀ j u, [Value.slice ua x.length uc][j]? = some u → (w3.alloc (.cells #[Value.slice ua x.length uc] 65)).cell? ((⟨w3.heap.size, 0, none⟩ : Addr).add j) = some u) := Lib.hid (cell_one_new _ _ _)
      have E2 : Hid (∀ u ∈ [Value.slice ua x.length uc], u.oneCell' = true) := by
        refine Lib.hid fun u hu => ?_
        rw [List.mem_singleton.1 hu]
        rfl
      have E3 : Hid (L.length + 1 ≤ maxLen) := Lib.hid (by unfold maxLen; omega)
      have E4 : Hid ((L.length + 1) * 24 ≤ 140737488355328) := Lib.hid (by omega)
      have E5 : Hid (w.heap.size ≤ (w3.alloc (.cells #[Value.slice ua x.length uc] 65)).heap.size) := Lib.hid (by simp; omega)
      have F3A := Lib.hid (F3.out.out.alloc (.cells #[Value.slice ua x.length uc] 65))
      have K3A := Lib.hid (K3.out.below ((Below.refl _ w3).alloc (Nat.le_refl _) (.cells #[Value.slice ua x.length uc] 65)))
      clear hv hb3
      go_wp2_with (at_builtin; refine wpList_append_own _ rfl _ _ 22 rfl w.heap.size 65 i1 (.slice none 0 0) 1 24 Try.underlying22 hj1 hy0 hy1 hy2 rfl (by decide) _ _ _ rfl F3A.out ⟨w3.heap.size, 0, none⟩ 1 1 [.slice ua x.length uc] rfl rfl E1.out E2.out E3.out E4.out E5.out ?_)
      intro V4 w4 hV4 hg4 _
      have R := fam_put (w := wr.alloc (.cells K 157)) FA.out hS.out (by simp; omega) HV.out rfl HB3.out _ hV4 hg4
      have F4 := Lib.hid R.1
      have S4 := Lib.hid R.2.1
      have B4 := Lib.hid ((hB.out.alloc hsz (.cells K 157)).trans R.2.2)
      have K4 := Lib.hid (K3A.out.kept F3A.out hg4)
      clear R hV4 hg4
      go_wp2
      go_roundw
      case rel => exact ⟨j + 1, by omega, by go_num, ext VS L.length (.slice ua x.length uc), Lib.hid (by rw [HT.out]; exact F4.out), Lib.hid (by rw [HT.out]; exact S4.out), K4, B4⟩
      case measure => simp [intOf]; omega
    · have ej : j = ts.length := by omega
      have hF5 := Lib.hid hF.out
      rw [ej, List.take_length] at hF5 hS
      have hsz := hB.out.size
      clear hF ej
      obtain ⟨VS1, hVS1⟩ : ∃ VS1, VS1 = VS := ⟨_, rfl⟩
      subst hVS1
      have hQA := hK.out.one
      have hQB := hK.out.two
      have SW := Lib.hid (sumOfW qa qb (wdL A) (wdL C) wr (rdW_of_own hQA (wdL_ok A LA.out FA0.out)) (rdW_of_own hQB (wdL_ok C LB.out FB0.out)) (wdL_ok A LA.out FA0.out) (wdL_ok C LB.out FB0.out) (by have := wdL_len A; have := LNA.out; omega) (by have := wdL_len C; have := LNB.out; omega) colW)
      clear hQA hQB hK
      go_wp2_with fail
      refine SW.out.mono ?_
      rintro e w5 ⟨uw, rw5, rfl, hu, hb5, hnd, hmem⟩
      obtain ⟨us, rfl, nu, pu, lu, ku, nl, hu5⟩ := wides A C LA.out LB.out FA0.out FB0.out rw5 hnd hmem
      obtain ⟨aw, cw, rfl, _, _⟩ := rdW_of_own hu (fun k hk => by obtain ⟨x, hx, rfl⟩ := List.mem_map.1 hk; exact ku x hx)
      have KR5 := Lib.hid (own_base hu hsz)
      rw [List.length_map] at KR5
      have KRW : Hid (RowsW w.heap.size (.slice aw us.length cw) us w5) := Lib.hid ⟨by rw [List.length_map]; exact KR5.out⟩
      have OKW := Lib.hid ku
      have TOKW := Lib.hid lu
      have LENW : Hid (ts.length + us.length ≤ 80000) := Lib.hid (by have := LNA.out; have := LNB.out; have := LENP.out; omega)
      have SUM := Lib.hid (sum_lists A C ts us NT.out nu TOKP.out pu HTS.out hu5)
      have FW := Lib.hid (hF5.out.below hb5)
      have SWS := Lib.hid hS.out
      have BW := Lib.hid (hB.out.trans (hb5.mono hsz))
      clear hu hb5 hnd hmem nu pu lu ku nl hu5 KR5 hF5 hS hB hsz SW
      have FW : Hid (FamL w5 w.heap.size u9 VS1 (([] : List (List Int)) ++ ts ++ us.take 0)) := Lib.hid (by rw [List.take_zero, List.append_nil]; exact FW.out)
      simp only [List.nil_append] at FW SWS
      simp only [List.length_map]
      rw [List.take_zero, List.append_nil] at FW
      have SW := SWS
      clear SWS
      go_wp2_with fail
      go_loopw [9, 13, 42] (fun S _ c wr => ∃ j : Nat, j ≤ us.length ∧ c = .int .i64 j ∧ ∃ VS, Hid (FamL wr w.heap.size S VS (ts ++ us.take j)) ∧ Hid (Sep (ts ++ us.take j).length VS) ∧ Hid (RowsW w.heap.size (.slice aw us.length cw) us wr) ∧ Hid (Below w.heap.size w wr)) (fun _ _ c _ => us.length - (intOf c).toNat)
      case atStart => exact ⟨0, Nat.zero_le _, rfl, VS1, Lib.hid (by rw [List.take_zero, List.append_nil]; exact FW.out), Lib.hid (by rw [List.take_zero, List.append_nil]; exact SW.out), KRW, BW⟩
      case round =>
        clear FW SW KRW BW
        obtain ⟨j, hj, rfl, VS, hF, hS, hK, hB⟩ := hrel
        by_cases hlt : j < us.length
        · have hlt' : (j : Int) < (us.length : Int) := by omega
          have hsz := hB.out.size
          obtain ⟨x, hx, hmem, HT0⟩ := take_at us j hlt
          obtain ⟨b, off, rfl, hrg⟩ := key_at wideK 21 hK.out.row (fun y hy => (OKW.out y hy).size) j hlt x hx
          have HRG := Lib.hid hrg
          have HKO := Lib.hid (OKW.out x hmem)
          have TM := Lib.hid (termW_any x (wr.alloc (.cells (wideK x) 161)) (TOKW.out x hmem))
          have HT : Hid (ts ++ us.take (j + 1) = (ts ++ us.take j) ++ [x]) := Lib.hid (by rw [HT0, List.append_assoc])
          have hj5 : j < 100000 := by have := LENW.out; omega
          have hlen : (ts ++ us.take j).length ≤ 90000 := by rw [List.length_append, List.length_take]; have := LENW.out; (try simp only [List.length_nil]); omega
          generalize ts ++ us.take j = L at hF hS HT hlen
          have HN := Lib.hid (loadNewW wr (wideK x) HKO.out.size)
          obtain ⟨K, hK2⟩ : ∃ K, wideK x = K := ⟨_, rfl⟩
          rw [hK2] at TM HKO HRG HN
          have HSZ := Lib.hid HKO.out.size
          have HONE := Lib.hid HKO.out.one
          clear hrg hmem hK2 hx HT0
          go_wp2_with (first
            | (refine ldKW rfl _ rfl b (off + j * 21) rfl K HRG.out HSZ.out ?_)
            | (refine ldKW rfl _ rfl wr.heap.size 0 rfl K HN.out HSZ.out ?_)
            | (refine stKW wr rfl _ _ rfl rfl K rfl HSZ.out HONE.out ?_))
          refine TM.out.mono ?_
          rintro e w3 ⟨v, rfl, hv, hb3⟩
          obtain ⟨ua, uc, rfl, _⟩ := own_len hv
          have HV := Lib.hid hv
          have HB3 := Lib.hid hb3
          have hsz3 := hb3.size
          simp only [World.size_alloc] at hsz3
          have BK := Lib.hid ((Below.refl _ wr).alloc (Nat.le_refl _) (.cells K 161))
          have FA := Lib.hid (hF.out.below BK.out)
          have F3 := Lib.hid (FA.out.below hb3)
          have K3 := Lib.hid ((hK.out.below BK.out).below hb3)
          have E1 : Hid (∀ j u, [Value.slice ua x.length uc][j]? = some u → (w3.alloc (.cells #[Value.slice ua x.length uc] 65)).cell? ((⟨w3.heap.size, 0, none⟩ : Addr).add j) = some u) := Lib.hid (cell_one_new _ _ _)
          have E2 : Hid (∀ u ∈ [Value.slice ua x.length uc], u.oneCell' = true) := by
            refine Lib.hid fun u hu => ?_
            rw [List.mem_singleton.1 hu]
            rfl
          have E3 : Hid (L.length + 1 ≤ maxLen) := Lib.hid (by unfold maxLen; omega)
          have E4 : Hid ((L.length + 1) * 24 ≤ 140737488355328) := Lib.hid (by omega)
          have E5 : Hid (w.heap.size ≤ (w3.alloc (.cells #[Value.slice ua x.length uc] 65)).heap.size) := Lib.hid (by simp; omega)
          have F3A := Lib.hid (F3.out.out.alloc (.cells #[Value.slice ua x.length uc] 65))
          have K3A := Lib.hid (K3.out.below ((Below.refl _ w3).alloc (Nat.le_refl _) (.cells #[Value.slice ua x.length uc] 65)))
          clear hv hb3
          go_wp2_with (at_builtin; refine wpList_append_own _ rfl _ _ 22 rfl w.heap.size 65 i1 (.slice none 0 0) 1 24 Try.underlying22 hj1 hy0 hy1 hy2 rfl (by decide) _ _ _ rfl F3A.out ⟨w3.heap.size, 0, none⟩ 1 1 [.slice ua x.length uc] rfl rfl E1.out E2.out E3.out E4.out E5.out ?_)
          intro V4 w4 hV4 hg4 _
          have R := fam_put (w := wr.alloc (.cells K 161)) FA.out hS.out (by simp; omega) HV.out rfl HB3.out _ hV4 hg4
          have F4 := Lib.hid R.1
          have S4 := Lib.hid R.2.1
          have B4 := Lib.hid ((hB.out.alloc hsz (.cells K 161)).trans R.2.2)
          have K4 := Lib.hid (K3A.out.kept F3A.out hg4)
          clear R hV4 hg4
          go_wp2
          go_roundw
          case rel => exact ⟨j + 1, by omega, by go_num, ext VS L.length (.slice ua x.length uc), Lib.hid (by rw [HT.out]; exact F4.out), Lib.hid (by rw [HT.out]; exact S4.out), K4, B4⟩
          case measure => simp [intOf]; omega
        · have ej : j = us.length := by omega
          have hF5 := Lib.hid hF.out
          rw [ej, List.take_length] at hF5 hS
          have hsz := hB.out.size
          clear hF ej
          have SO := Lib.hid (SORT.out wr w.heap.size u9 VS (ts ++ us) hF5.out hS.out SUM.out.1 (by rw [List.length_append]; have := LENW.out; omega) hsz)
          clear hK
          go_wp2_with fail
          refine SO.out.mono ?_
          rintro e w7 ⟨rfl, VS7, zs, hF7, hS7, hA7, hM7, hb7⟩
          have E7 := Lib.hid (SUM.out.2 zs hM7)
          have A7 := Lib.hid hA7
          have F7 := Lib.hid hF7
          have S7 := Lib.hid hS7
          have B7 := Lib.hid (hB.out.trans hb7)
          clear hF7 hS7 hA7 hM7 hb7
          go_wp2
          go_ret
          exact ⟨_, _, zs, rfl, F7.out, S7.out, B7.out, A7.out, E7.out⟩

/-- Of ascending lists: their merge. -/
theorem sumOfTerms_any (va vb : Value) (m n : Nat) (X Y : Nat → List Int) (w : World) (hra : RdSS w va m X) (hrb : RdSS w vb n Y) (hm : m ≤ 20000) (hn : n ≤ 20000)
    (hX : ∀ i, i < m → (X i).length ≤ 20) (hY : ∀ i, i < n → (Y i).length ≤ 20) (hXw : ∀ i, i < m → ∀ z ∈ X i, (Lit.int .i64 z).wf = true) (hYw : ∀ i, i < n → ∀ z ∈ Y i, (Lit.int .i64 z).wf = true)
    (hXa : Asc (rowsL X m)) (hYa : Asc (rowsL Y n)) (SORT : SortAll) :
    Calls Try.prog 120 #[va, vb] w fun e w' => ∃ V VS, e = .returned V ∧ FamL w' w.heap.size V VS (mrg (rowsL X m) (rowsL Y n)) ∧ Sep (mrg (rowsL X m) (rowsL Y n)).length VS ∧ Below w.heap.size w w' := by
  refine (sumOfTerms_par va vb m n X Y w hra hrb hm hn hX hY hXw hYw SORT).mono ?_
  rintro e w' ⟨V, VS, zs, rfl, hF, hS, hb, ha, hx⟩
  obtain rfl : zs = mrg (rowsL X m) (rowsL Y n) := by
    obtain ⟨h1, h2⟩ := mrg_spec _ _ hXa hYa
    refine asc_ext _ _ ha h1 fun z => ?_
    rw [hx, h2, par_append, par_nodup _ hXa.nodup, par_nodup _ hYa.nodup]
  exact ⟨V, VS, rfl, hF, hS, hb⟩
end Go.Proofs.Ytnmilkehggjpfaa
end
