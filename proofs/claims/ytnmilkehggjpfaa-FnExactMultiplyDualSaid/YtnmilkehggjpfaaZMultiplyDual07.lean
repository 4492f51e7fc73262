/-
  Joined: EMonE, EBase, EIs, ERes.
-/
import Derived.Test.YtnmilkehggjpfaaZMultiplyDual05
import Derived.Test.YtnmilkehggjpfaaZBMil07
import Derived.Test.YtnmilkehggjpfaaZBMil27
section
namespace Go.Proofs.Ytnmilkehggjpfaa
open Go.RowKit Go.Maps
set_option linter.unusedVariables false
set_option maxRecDepth 100000

theorem mon_keys {zs : List (List Int)} (hz : ∀ z ∈ zs, Ok5 2000000 z) (rs : List (Array Value)) (hn : rs.Nodup) (hm : ∀ k, k ∈ rs ↔ par (zs.map monK) k) :
    ∃ ts : List (List Int), rs = ts.map monK ∧ ts.Nodup ∧ (∀ x ∈ ts, Ok5 2000000 x) ∧ ts.length ≤ zs.length ∧ ∀ x, x ∈ ts ↔ par zs x := by
  obtain ⟨ts, h1, h2, h3, h4⟩ := keys_par monK (Ok5 2000000) (fun x y _ _ e => monK_inj e) zs [] hz (fun x hx => by cases hx) rs hn (fun k => by rw [List.map_nil, List.append_nil]; exact hm k)
  have h5 : ∀ x, x ∈ ts ↔ par zs x := fun x => by rw [h4, List.append_nil]
  exact ⟨ts, h1, h2, h3, nodup_len ts zs h2 (fun x hx => par_mem _ _ ((h5 x).1 hx)), h5⟩

set_option maxHeartbeats 4000000 in
theorem dualOf_any (va : Value) (zs : List (List Int)) (w : World) (ha : RdM w va (zs.map monK)) (hz : ∀ z ∈ zs, Ok5 2000000 z) (hl : zs.length ≤ 100000) :
    Calls Try.prog 71 #[va] w (ResP zs w) := by
  have t2 := Try.underlying27
  obtain ⟨w1, hw1⟩ : ∃ w1, w1 = ((w.alloc (.cells #[.slice none 0 0] 27)).alloc (.cells #[.slice none 0 0] 27)) := ⟨_, rfl⟩
  have B1 : Hid (Below w.heap.size w w1) := Lib.hid (by rw [hw1]; exact ((Below.refl _ w).alloc (Nat.le_refl _) _).alloc (by simp) _)
  have S1 : Hid (w1.heap.size = w.heap.size + 2) := Lib.hid (by rw [hw1]; simp)
  have X1 : Hid (Box1 w1 w.heap.size 27 (.slice none 0 0)) := Lib.hid (by rw [hw1]; exact (Box1.new _ _ _).alloc _)
  have Y1 : Hid (Box1 w1 (w.heap.size + 1) 27 (.slice none 0 0)) := Lib.hid (by rw [hw1]; have := Box1.new (w.alloc (.cells #[.slice none 0 0] 27)) 27 (.slice none 0 0); rw [World.size_alloc] at this; exact this)
  have OKZ : Hid (∀ k ∈ zs.map monK, KOKM k) := Lib.hid fun k hk => by
    obtain ⟨z, h, rfl⟩ := List.mem_map.1 hk
    exact (hz z h).kok (by omega)
  have HZ := Lib.hid hz
  have HL := Lib.hid hl
  have SM := Lib.hid (sumOfM va (.slice none 0 0) (zs.map monK) [] w1 (ha.below B1.out) ⟨none, 0, rfl, Nat.zero_le _, .inl rfl⟩ OKZ.out (fun k hk => by cases hk) (by rw [List.length_map]; omega) (Nat.zero_le _) colM)
  rw [List.append_nil] at SM
  obtain ⟨aa, ca, rfl, hma, hca⟩ := ha
  clear hz hl hca hma
  simp only [List.length_map] at SM ⊢
  go_enter Try.func71, Try.ntmps71
  go_upto_region 2 with fail
  rw [← hw1]
  clear hw1
  go_wp2_with fail
  refine SM.out.mono ?_
  rintro e w2 ⟨u, rs, rfl, ho, b2, hn, hm⟩
  obtain ⟨ts, rfl, nt, ok, lt, mt⟩ := mon_keys HZ.out rs hn hm
  have I0 : Hid (DuI w u ts (.slice none 0 0) (fun _ => undef) [] w2) := Lib.hid ⟨by have := b2.size; have := S1.out; omega, famNil _ _, sepNil, own_base ho (by have := S1.out; omega), Y1.out.up b2, X1.out.up b2, B1.out.step1 b2⟩
  obtain ⟨au, cu, rfl, _, _⟩ := rdK_of_own ho (fun k hk => by obtain ⟨x, hx, rfl⟩ := List.mem_map.1 hk; exact ((ok x hx).kok (by omega)).size)
  have OKT := Lib.hid ok
  have NT := Lib.hid nt
  have MT := Lib.hid mt
  have LT : Hid (ts.length ≤ 100000) := Lib.hid (by have := HL.out; omega)
  clear ho b2 hn hm ok nt mt lt SM X1 Y1 B1
  rw [List.length_map] at I0 ⊢
  go_wp2_with fail
  go_loopw [5, 9] (fun _ c wr => ∃ (j : Nat) (S : Value) (VS : Nat → Value), j ≤ ts.length ∧ c = .int .i64 j ∧ Hid (DuI w (.slice au ts.length cu) ts S VS ((ts.take j).map trim) wr)) (fun _ c _ => ts.length - (intOf c).toNat)
  case atStart => exact ⟨0, _, _, by omega, rfl, I0⟩
  case round =>
    clear I0
    obtain ⟨j, S, VS, hj, rfl, hI⟩ := hrel
    by_cases hlt : j < ts.length
    · have hlt' : (j : Int) < (ts.length : Int) := by omega
      obtain ⟨x, hx, hmem, HT0⟩ := take_at5 ts j hlt
      obtain ⟨b, off, rfl, hrg⟩ := key_at5 monK 5 hI.out.keys (fun y hy => ((OKT.out y hy).kok (by omega)).size) j hlt x hx
      have HRG := Lib.hid hrg
      have OKX := Lib.hid (OKT.out x hmem)
      have NXT : Hid ((ts.take (j + 1)).map trim = (ts.take j).map trim ++ [trim x]) := Lib.hid (by rw [HT0, List.map_append]; rfl)
      have LJ : Hid (((ts.take j).map trim).length ≤ 100000) := Lib.hid (by rw [List.length_map, List.length_take]; have := LT.out; omega)
      generalize (ts.take j).map trim = L at *
      have EX := Lib.hid (exponents_any x (wr.alloc (.cells (monK x) 94)).drew OKX.out.1)
      have HSZ : Hid ((monK x).size = 5) := Lib.hid (by rw [monK_size, OKX.out.1])
      have HONE : Hid ((monK x).all (·.oneCell') = true) := Lib.hid (monK_one x)
      have HN := Lib.hid (loadNewM wr (monK x) HSZ.out)
      obtain ⟨z0, z1, z2, z3, z4, hK⟩ := (OKX.out.kok (by omega)).lit
      rw [hK] at HRG HSZ HONE EX HN
      have B2 : Hid (Below wr.heap.size wr (wr.alloc (.cells #[Value.int .i64 z0, Value.int .i64 z1, Value.int .i64 z2, Value.int .i64 z3, Value.int .i64 z4] 94))) := Lib.hid ((Below.refl _ _).alloc (Nat.le_refl _) _)
      have d0 : (wr.alloc (.cells #[Value.int .i64 z0, Value.int .i64 z1, Value.int .i64 z2, Value.int .i64 z3, Value.int .i64 z4] 94)).cell? ⟨w.heap.size + 1, 0, none⟩ = some S := (hI.out.bA.up B2.out).c
      obtain ⟨sa, sn, sc, eS⟩ : ∃ sa sn sc, S = .slice sa sn sc := by
        obtain ⟨sa, sc, e, _⟩ := Fam.head hI.out.fam
        exact ⟨_, _, _, e⟩
      have PU := Lib.hid (fun w5 v o w8 V8 b5 hv ho hg => DuI.push (w1 := wr.alloc (.cells #[Value.int .i64 z0, Value.int .i64 z1, Value.int .i64 z2, Value.int .i64 z3, Value.int .i64 z4] 94)) (w5 := w5) (v := v) (w8 := w8) (V8 := V8) (x := trim x) hI.out rfl b5 hv o ho hg)
      have OW : Hid (∀ (w5 : World) (v : Value), Below (wr.alloc (.cells #[Value.int .i64 z0, Value.int .i64 z1, Value.int .i64 z2, Value.int .i64 z3, Value.int .i64 z4] 94)).heap.size (wr.alloc (.cells #[Value.int .i64 z0, Value.int .i64 z1, Value.int .i64 z2, Value.int .i64 z3, Value.int .i64 z4] 94)) w5 → (w5.alloc (.cells #[v] 65)).ownsRow (w.heap.size + 2) 65 1 S L.length ((List.range L.length).map VS)) := Lib.hid fun w5 v b5 => (((hI.out.fam.below B2.out).below b5).below ((Below.refl _ _).alloc (Nat.le_refl _) _)).out
      have SZ : Hid (∀ (w5 : World) (v : Value), Below (wr.alloc (.cells #[Value.int .i64 z0, Value.int .i64 z1, Value.int .i64 z2, Value.int .i64 z3, Value.int .i64 z4] 94)).heap.size (wr.alloc (.cells #[Value.int .i64 z0, Value.int .i64 z1, Value.int .i64 z2, Value.int .i64 z3, Value.int .i64 z4] 94)) w5 → w.heap.size + 2 ≤ (w5.alloc (.cells #[v] 65)).heap.size) := Lib.hid fun w5 v b5 => by have := hI.out.ge; have := B2.out.size; have := b5.size; simp; omega
      have SR : Hid (∀ (w5 : World) (v : Value), (some (⟨w5.heap.size, 0, none⟩ : Addr) = none ∧ 1 = 0 ∧ 1 = 0) ∨ ∃ ad, some (⟨w5.heap.size, 0, none⟩ : Addr) = some ad ∧ ∀ j u, [v][j]? = some u → (w5.alloc (.cells #[v] 65)).cell? (ad.add j) = some u) := Lib.hid fun w5 v => .inr ⟨_, rfl, cell_one_new _ _ _⟩
      have BXA : Hid (∀ (w5 : World), Below (wr.alloc (.cells #[Value.int .i64 z0, Value.int .i64 z1, Value.int .i64 z2, Value.int .i64 z3, Value.int .i64 z4] 94)).heap.size (wr.alloc (.cells #[Value.int .i64 z0, Value.int .i64 z1, Value.int .i64 z2, Value.int .i64 z3, Value.int .i64 z4] 94)) w5 → Box1 w5 (w.heap.size + 1) 27 S) := Lib.hid fun w5 b5 => (hI.out.bA.up B2.out).up b5
      have lj := LJ.out
      have hj5 : j < 100000 := by have := LT.out; omega
      subst eS
      clear hrg hx hmem HT0 hI hK
      go_upto_region 5 with (first | (refine ldKM rfl _ rfl b (off + j * 5) rfl #[Value.int .i64 z0, Value.int .i64 z1, Value.int .i64 z2, Value.int .i64 z3, Value.int .i64 z4] HRG.out HSZ.out ?_) | (refine stKM wr rfl _ _ rfl rfl #[Value.int .i64 z0, Value.int .i64 z1, Value.int .i64 z2, Value.int .i64 z3, Value.int .i64 z4] rfl HSZ.out HONE.out ?_))
      go_region_law (first
        | (refine step_rows_at (by rfl) _ _ (by rfl) (w.heap.size + 2) L.length _ _ (by rfl) (OW.out w5 _ B5) (some ⟨w5.heap.size, 0, none⟩) 1 1 [.slice ua (trim x).length uc] (by rfl) (SR.out w5 _) (by rfl) (by simp [Value.oneCell']) (by omega) (SZ.out w5 _ B5) ?_; intro V8 w8 ho8 hg8 hl8; obtain ⟨a8, c8, e8⟩ := own_shape5 ho8; subst e8; have PP := Lib.hid (PU.out w5 _ _ w8 _ B5 o5 ho8 hg8); have x8 := PP.out.1.c; have f8 := PP.out.1.fr 0)
        | (go_simp; go_at_call 104; refine EX.out.mono ?_; rintro e w5 ⟨u5, rfl, o5, b5⟩; obtain ⟨ua, uc, rfl⟩ := own_shape5 o5; have B5 : Below (wr.alloc (.cells #[Value.int .i64 z0, Value.int .i64 z1, Value.int .i64 z2, Value.int .i64 z3, Value.int .i64 z4] 94)).heap.size (wr.alloc (.cells #[Value.int .i64 z0, Value.int .i64 z1, Value.int .i64 z2, Value.int .i64 z3, Value.int .i64 z4] 94)) w5 := belD1 b5; have X5 := Lib.hid (BXA.out w5 B5); have x5 := X5.out.c; have X6 := Lib.hid (X5.out.alloc (.cells #[.slice ua (trim x).length uc] 65)); have x6 := X6.out.c))
      all_goals
        have D9 := Lib.hid PP.out.2
        rw [← NXT.out] at D9
        clear PP X5 X6 B5 b5 o5 ho8 hg8 hl8 PU OW SZ SR BXA EX HN HRG d0 x5 x6
        go_wp2_with fail
        go_roundw
        case rel => exact ⟨j + 1, _, _, by omega, by go_num, D9⟩
        case measure => simp [intOf]; omega
    · obtain rfl : j = ts.length := by omega
      rw [List.take_length] at hI
      obtain ⟨sa, sc, rfl, _⟩ := Fam.head hI.out.fam
      have ND : (ts.map trim).Nodup := List.pairwise_map.2 (NT.out.imp_of_mem fun {a b} ha hb hab e => hab (trim_inj (OKT.out a ha).1 (OKT.out b hb).1 e))
      have SO := Lib.hid (sort_any wr (w.heap.size + 2) _ VS (ts.map trim) hI.out.fam hI.out.sep ND (by rw [List.length_map]; exact LT.out) hI.out.ge)
      have dA := hI.out.bA.c
      have MM : Hid (∀ z, z ∈ ts.map trim ↔ ∃ k, par zs k ∧ trim k = z) := Lib.hid fun z => by
        rw [List.mem_map]
        exact ⟨fun ⟨k, hk, e⟩ => ⟨k, (MT.out k).1 hk, e⟩, fun ⟨k, hk, e⟩ => ⟨k, (MT.out k).2 hk, e⟩⟩
      clear ND
      generalize ts.map trim = L at *
      go_wp2_with fail
      refine SO.out.mono ?_
      rintro e w7 ⟨rfl, VS7, M, f7, s7, a7, m7, b7⟩
      have A7 : Box1 w7 (w.heap.size + 1) 27 (.slice sa L.length sc) := hI.out.bA.below b7 (by omega)
      have R7 : Box1 w7 w.heap.size 27 (.slice none 0 0) := hI.out.bR.below b7 (by omega)
      have B7 : Below w.heap.size w w7 := hI.out.low.trans (b7.mono (by omega))
      have F9 : FamL (w7.setCell ⟨w.heap.size, 0, none⟩ (.slice sa L.length sc)) w.heap.size (.slice sa L.length sc) VS7 M := (Fam.same f7 fun g hg hlt => heap_setCell_other _ _ _ _ (by simp; omega)).base (by omega)
      have FIN : Hid (Box1 (w7.setCell ⟨w.heap.size, 0, none⟩ (.slice sa L.length sc)) w.heap.size 27 (.slice sa L.length sc) ∧ FamL (w7.setCell ⟨w.heap.size, 0, none⟩ (.slice sa L.length sc)) w.heap.size (.slice sa L.length sc) VS7 M ∧ Below w.heap.size w (w7.setCell ⟨w.heap.size, 0, none⟩ (.slice sa L.length sc))) := Lib.hid ⟨R7.set _, F9, B7.setCell (p := ⟨w.heap.size, 0, none⟩) (Nat.le_refl _) _⟩
      have dA := A7.c
      have dR := R7.c
      have fR := R7.fr 0
      have HS7 := Lib.hid s7
      have HA7 := Lib.hid a7
      have HM7 := Lib.hid m7
      clear f7 s7 a7 m7 b7 A7 R7 B7 F9 SO hI
      go_wp2_with fail
      refine bodyPost_ret (results_cell_row rfl _ _ w.heap.size 27 _ (0, 0) _ rfl FIN.out.1 t2 rfl (by kernel_rfl)) rfl ?_
      exact ⟨_, VS7, M, rfl, FIN.out.2.1, HS7.out, FIN.out.2.2, HA7.out, fun z => (HM7.out z).trans (MM.out z)⟩
end Go.Proofs.Ytnmilkehggjpfaa
end
section
namespace Go.Proofs.Ytnmilkehggjpfaa
open Go.RowKit
set_option linter.unusedVariables false
set_option maxRecDepth 100000

theorem toDual_any (V : Value) (m : Nat) (X : Nat → List Int) (w : World) (hm : m ≤ 1048576) (hX : ∀ i, i < m → (X i).length ≤ 1048576) (h : RdSS w V m X) :
    Calls Try.prog 13 #[.agg #[V]] w fun e w' => ∃ U US, e = .returned (.agg #[U]) ∧ Fam w' w.heap.size U m US X ∧ Below w.heap.size w w' ∧ Sep m US := by
  have H := Lib.hid h
  have HX := Lib.hid hX
  clear h hX
  have t1 := Try.underlying24
  have t2 := Try.underlying27
  go_enter Try.func13, Try.ntmps13
  go_wp2_with fail
  have W1 : ∃ w1, w1 = (((w.alloc (.cells #[V] 24)).alloc (.cells #[.slice none 0 0] 27)).alloc (.cells #[.slice none 0 0] 27)) := ⟨_, rfl⟩
  obtain ⟨w1, hw1⟩ := W1
  have B0 : Hid (Below w.heap.size w w1) := Lib.hid (by rw [hw1]; exact (((Below.refl w.heap.size w).alloc (Nat.le_refl _) _).alloc (by simp) _).alloc (by simp; omega) _)
  have b1 : Hid (Box1 w1 (w.heap.size + 1) 27 (.slice none 0 0)) := Lib.hid (by rw [hw1]; have := (Box1.new (w.alloc (.cells #[V] 24)) 27 (.slice none 0 0)).alloc (.cells #[.slice none 0 0] 27); simpa using this)
  have b2 : Hid (Box1 w1 (w.heap.size + 1 + 1) 27 (.slice none 0 0)) := Lib.hid (by rw [hw1]; have := Box1.new ((w.alloc (.cells #[V] 24)).alloc (.cells #[.slice none 0 0] 27)) 27 (.slice none 0 0); simpa using this)
  have hs : Hid (w1.heap.size = w.heap.size + 3) := Lib.hid (by rw [hw1]; simp)
  have R := Lib.hid (H.out.below B0.out)
  rw [← hw1]
  clear hw1
  refine (toSS_any V m X w1 hm HX.out R.out).mono ?_
  rintro e w2 ⟨U, US, rfl, ho, hb, hsp⟩
  obtain ⟨ua, ucap, rfl, _⟩ := ho.head
  have D1 := Lib.hid (b1.out.up hb)
  have D2 := Lib.hid (b2.out.up hb)
  have c10 := D1.out.c
  have c20 := D2.out.c
  have f10 := D1.out.fr 0
  have f20 := D2.out.fr 0
  have HO := Lib.hid ho
  have HS := Lib.hid hsp
  have HB := Lib.hid (B0.out.trans (hb.mono B0.out.size))
  clear ho hb hsp
  go_wp2
  have E1 := (D1.out.other ⟨w.heap.size + 1 + 1, 0, none⟩ (.slice ua m ucap) (by simp)).set (.slice ua m ucap)
  refine bodyPost_ret (results_cell_row rfl _ _ (w.heap.size + 1) 27 _ (0, 0) _ rfl E1 t2 rfl (by kernel_rfl)) rfl ?_
  have hb3 := (HB.out.setCell (p := ⟨w.heap.size + 1 + 1, 0, none⟩) (by simp; omega) (.slice ua m ucap)).setCell (p := ⟨w.heap.size + 1, 0, none⟩) (by simp) (.slice ua m ucap)
  refine ⟨_, US, rfl, ?_, hb3, HS.out⟩
  refine (Fam.same HO.out fun g hg hlt => ?_).base (by have := hs.out; omega)
  have := hs.out
  rw [heap_setCell_other _ _ _ _ (by simp; omega), heap_setCell_other _ _ _ _ (by simp; omega)]

theorem szDual_yes (V : Value) (m : Nat) (X : Nat → List Int) (left : Nat) (w : World) (h : RdSS w V m X) (hl : left ≤ 1048576) (hm : m + tot X m ≤ left) :
    Calls Try.prog 11 #[.agg #[V], .int .i64 (left : Int)] w fun e w' => e = .returned (.int .i64 ((left : Int) - ((m + tot X m : Nat) : Int))) ∧ Below w.heap.size w w' := by
  have B0 : Hid (Below w.heap.size w (w.alloc (.cells #[V] 24))) := Lib.hid ((Below.refl w.heap.size w).alloc (Nat.le_refl _) _)
  have SZ := Lib.hid (szSS_any V m X left _ (h.below B0.out) hl hm)
  have t1 := Try.underlying24
  have hge : ¬ (left : Int) - ((m + tot X m : Nat) : Int) < 0 := by omega
  generalize (left : Int) - ((m + tot X m : Nat) : Int) = lf at SZ hge
  clear h
  go_enter Try.func11, Try.ntmps11
  go_wp2_with fail
  refine SZ.out.mono ?_
  rintro e w' ⟨rfl, rfl⟩
  go_wp2_with fail
  go_ret
  exact ⟨rfl, B0.out⟩
theorem szDual_over (V : Value) (m : Nat) (X : Nat → List Int) (left : Nat) (w : World) (h : RdSS w V m X) (hl : left ≤ 1048576) (hm : left < m + tot X m) :
    Calls Try.prog 11 #[.agg #[V], .int .i64 (left : Int)] w fun e w' => e = .returned (.int .i64 (-1)) ∧ Below w.heap.size w w' := by
  have B0 : Hid (Below w.heap.size w (w.alloc (.cells #[V] 24))) := Lib.hid ((Below.refl w.heap.size w).alloc (Nat.le_refl _) _)
  have SZ := Lib.hid (szSS_over V m X left _ (h.below B0.out) hl hm)
  have t1 := Try.underlying24
  clear h
  go_enter Try.func11, Try.ntmps11
  go_wp2_with fail
  refine SZ.out.mono ?_
  rintro e w' ⟨rfl, rfl⟩
  go_wp2_with fail
  go_ret
  exact ⟨rfl, B0.out⟩

theorem eqDual_same (U1 U2 : Value) (m : Nat) (B1 B2 : Nat) (VA VB : Nat → Value) (X : Nat → List Int) (w : World) (h1 : Fam w B1 U1 m VA X) (h2 : Fam w B2 U2 m VB X) :
    Calls Try.prog 15 #[.agg #[U1], .agg #[U2]] w fun e w' => e = .returned (.bool true) ∧ Below w.heap.size w w' := by
  have t2 := Try.underlying27
  have B0 : Hid (Below w.heap.size w ((w.alloc (.cells #[U1] 27)).alloc (.cells #[U2] 27))) := Lib.hid (((Below.refl w.heap.size w).alloc (Nat.le_refl _) _).alloc (by simp) _)
  have E := Lib.hid (eqInt64SS_same U1 U2 m B1 B2 VA VB X _ (h1.below B0.out) (h2.below B0.out))
  clear h1 h2
  go_enter Try.func15, Try.ntmps15
  go_wp2_with fail
  refine E.out.mono ?_
  rintro e w' ⟨rfl, q, rfl⟩
  go_wp2_with fail
  go_ret
  exact ⟨rfl, below_drewN B0.out _⟩
end Go.Proofs.Ytnmilkehggjpfaa
end
section
namespace Go.Proofs.Ytnmilkehggjpfaa
open Go.RowKit
set_option linter.unusedVariables false
set_option maxRecDepth 100000

theorem l06Is_of (V : Value) (m : Nat) (r : Bool) (X : Nat → List Int) (w : World) (h : RdSS w V m X) (A : ∀ wx, RdSS wx V m X → Calls Try.prog 65 #[.agg #[V]] wx (SaysB r wx)) :
    Calls Try.prog 51 #[.agg #[V]] w (SaysB r w) := by
  obtain ⟨a, cap, rfl⟩ := h.head
  have t2 := Try.underlying27
  have t3 := Try.underlying45
  have B0 : Hid (Below w.heap.size w (w.alloc (.cells #[.slice a m cap] 27))) := Lib.hid ((Below.refl w.heap.size w).alloc (Nat.le_refl _) _)
  have A := Lib.hid (A _ (h.below B0.out))
  clear h
  go_enter Try.func51, Try.ntmps51
  go_wp2_with fail
  refine A.out.mono ?_
  rintro e w' ⟨rfl, b1⟩
  have B1 := Lib.hid (B0.out.trans (b1.mono B0.out.size))
  clear b1
  go_wp2_with fail
  go_ret
  exact ⟨rfl, B1.out⟩

theorem specIsD_of (V : Value) (m : Nat) (r : Bool) (X : Nat → List Int) (w : World) (h : RdSS w V m X) (A : ∀ wx, RdSS wx V m X → Calls Try.prog 51 #[.agg #[V]] wx (SaysB r wx)) :
    Calls Try.prog 12 #[.agg #[V]] w (SaysB r w) := by
  obtain ⟨a, cap, rfl⟩ := h.head
  have t2 := Try.underlying27
  have t3 := Try.underlying45
  have B0 : Hid (Below w.heap.size w (w.alloc (.cells #[.slice a m cap] 27))) := Lib.hid ((Below.refl w.heap.size w).alloc (Nat.le_refl _) _)
  have A := Lib.hid (A _ (h.below B0.out))
  clear h
  go_enter Try.func12, Try.ntmps12
  go_wp2_with fail
  refine A.out.mono ?_
  rintro e w' ⟨rfl, b1⟩
  have B1 := Lib.hid (B0.out.trans (b1.mono B0.out.size))
  clear b1
  go_wp2_with fail
  go_ret
  exact ⟨rfl, B1.out⟩

theorem implIsD_of (V : Value) (m : Nat) (r : Bool) (X : Nat → List Int) (w : World) (h : RdSS w V m X) (A : ∀ wx, RdSS wx V m X → Calls Try.prog 53 #[.agg #[V]] wx (SaysB r wx)) :
    Calls Try.prog 14 #[.agg #[V]] w (SaysB r w) := by
  obtain ⟨a, cap, rfl⟩ := h.head
  have t2 := Try.underlying27
  have t3 := Try.underlying45
  have B0 : Hid (Below w.heap.size w (w.alloc (.cells #[.slice a m cap] 27))) := Lib.hid ((Below.refl w.heap.size w).alloc (Nat.le_refl _) _)
  have A := Lib.hid (A _ (h.below B0.out))
  clear h
  go_enter Try.func14, Try.ntmps14
  go_wp2_with fail
  refine A.out.mono ?_
  rintro e w' ⟨rfl, b1⟩
  have B1 := Lib.hid (B0.out.trans (b1.mono B0.out.size))
  clear b1
  go_wp2_with fail
  go_ret
  exact ⟨rfl, B1.out⟩

/-- Both answer the same: whether it is a dual element. -/
theorem isD_yes (X : Nat → List Int) (m : Nat) (hok : okMl X m) :
    (∀ V w, RdSS w V m X → Calls Try.prog 51 #[.agg #[V]] w (SaysB true w)) ∧
    (∀ V w, RdSS w V m X → Calls Try.prog 14 #[.agg #[V]] w (SaysB true w)) :=
  ⟨fun V w h => l06Is_of V m true X w h fun wx => (isM_yes X m hok).1 V wx, fun V w h => implIsD_of V m true X w h fun wx => (isM_yes X m hok).2 V wx⟩
theorem isD_no (X : Nat → List Int) (m : Nat) (hok : ¬ okMl X m) :
    (∀ V w, RdSS w V m X → Calls Try.prog 51 #[.agg #[V]] w (SaysB false w)) ∧
    (∀ V w, RdSS w V m X → Calls Try.prog 14 #[.agg #[V]] w (SaysB false w)) :=
  ⟨fun V w h => l06Is_of V m false X w h fun wx => (isM_no X m hok).1 V wx, fun V w h => implIsD_of V m false X w h fun wx => (isM_no X m hok).2 V wx⟩
theorem isD_both (X : Nat → List Int) (m : Nat) : ∃ r : Bool,
    (∀ V w, RdSS w V m X → Calls Try.prog 51 #[.agg #[V]] w (SaysB r w)) ∧
    (∀ V w, RdSS w V m X → Calls Try.prog 14 #[.agg #[V]] w (SaysB r w)) := by
  by_cases hok : okMl X m
  · exact ⟨true, isD_yes X m hok⟩
  · exact ⟨false, isD_no X m hok⟩
end Go.Proofs.Ytnmilkehggjpfaa
end
section
namespace Go.Proofs.Ytnmilkehggjpfaa
open Go.RowKit
set_option linter.unusedVariables false
set_option maxRecDepth 100000

theorem markDual_from (k0 : Int) (hk0 : 0 ≤ k0) (U : Value) (m : Nat) (B : Nat) (VS : Nat → Value) (Y : Nat → List Int) (w : World) (h : Fam w B U m VS Y) (hs : Sep m VS) (hB : B ≤ w.heap.size)
    (hk : off k0 (fun i => (Y i).length) m ≤ 1152921504606846976) :
    Calls Try.prog 18 #[.agg #[U], .int .i64 k0] w fun e w' => e = .returned (.int .i64 (off k0 (fun i => (Y i).length) m)) ∧ Fam w' B U m VS (mkd k0 Y m) ∧ Below B w w' ∧ MRestK m VS w w' := by
  have t2 := Try.underlying27
  have b0 : Below w.heap.size w (w.alloc (.cells #[U] 27)) := (Below.refl _ w).alloc (Nat.le_refl _) _
  have M := Lib.hid (markSS_from k0 hk0 U m B VS Y _ (h.below b0) hs hk)
  have B0 : Hid (Below B w (w.alloc (.cells #[U] 27))) := Lib.hid (b0.mono hB)
  generalize off k0 (fun i => (Y i).length) m = kk at M ⊢
  clear h hs b0 hk
  go_enter Try.func18, Try.ntmps18
  go_wp2_with fail
  refine M.out.mono ?_
  rintro e w' ⟨rfl, hF, hb, hr⟩
  have HF := Lib.hid hF
  have HB := Lib.hid (B0.out.trans hb)
  have HR := Lib.hid hr.box
  clear hF hb hr
  go_wp2_with fail
  go_ret
  exact ⟨rfl, HF.out, HB.out, HR.out⟩

theorem heldDual_own (U : Value) (m : Nat) (B : Nat) (VS : Nat → Value) (Y : Nat → List Int) (w : World) (h : Fam w B U m VS (mkd 1 Y m))
    (hk : off 1 (fun i => (Y i).length) m ≤ 1152921504606846976) :
    Calls Try.prog 19 #[.agg #[U], .int .i64 1] w fun e w' => e = .returned (.int .i64 (off 1 (fun i => (Y i).length) m)) ∧ Below w.heap.size w w' := by
  have t2 := Try.underlying27
  have b0 : Below w.heap.size w (w.alloc (.cells #[U] 27)) := (Below.refl _ w).alloc (Nat.le_refl _) _
  have M := Lib.hid (heldInt64SS_own U m B VS Y _ (h.below b0) hk)
  have B0 := Lib.hid b0
  have hge : ¬ off 1 (fun i => (Y i).length) m < 0 := by rw [off_any]; omega
  generalize off 1 (fun i => (Y i).length) m = kk at M hge ⊢
  clear h b0 hk
  go_enter Try.func19, Try.ntmps19
  go_wp2_with fail
  refine M.out.mono ?_
  rintro e w' ⟨rfl, rfl⟩
  go_wp2_with fail
  go_ret
  exact ⟨rfl, B0.out⟩

end Go.Proofs.Ytnmilkehggjpfaa
end
