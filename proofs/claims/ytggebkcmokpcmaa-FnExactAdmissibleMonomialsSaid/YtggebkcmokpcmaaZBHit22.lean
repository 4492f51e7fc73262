/-
  Joined: YUnp, YTimes.
-/
import Derived.Test.YtggebkcmokpcmaaZBHit17
import Derived.Test.YtggebkcmokpcmaaZBHit07
import Derived.Test.YtggebkcmokpcmaaZBHit14
import Derived.Test.YtggebkcmokpcmaaZBHit21
import Derived.Deep.RegionLaw
section
namespace Go.Proofs.Ytggebkcmokpcmaa
open Go.RowKit Go.Maps
set_option linter.unusedVariables false
set_option maxRecDepth 100000

/-- What the loop of unpacked keeps: the result's box, the polynomial's box and its terms. -/
structure UnJ (w : World) (k : Int) (S : Value) (VS : Nat → Value) (L : List (List Int)) (wr : World) : Prop where
  ge : w.heap.size + 2 ≤ wr.heap.size
  fam : FamL wr (w.heap.size + 2) S VS L
  sep : Sep L.length VS
  bA : Box wr (w.heap.size + 1) 31 (.int .i64 k) S
  bR : Box wr w.heap.size 31 (.int .i64 0) (.slice none 0 0)
  low : Below w.heap.size w wr

theorem UnJ.push {w wr w1 w5 w8 : World} {k : Int} {S v V8 : Value} {L : List (List Int)} {VS : Nat → Value} {x : List Int} (h : UnJ w k S VS L wr) (bb : Below wr.heap.size wr w1) (b5 : Below w1.heap.size w1 w5)
    (hv : w5.ownsRow w1.heap.size 2 1 v x.length (x.map (Value.int .i64))) (o : Obj) (ho : w8.ownsRow (w.heap.size + 2) 42 1 V8 (L.length + 1) ((List.range L.length).map VS ++ [v])) (hg : (w5.alloc o).grownBy w8 S.ownBlock) :
    Box w8 (w.heap.size + 1) 31 (.int .i64 k) S ∧ UnJ w k V8 (ext VS L.length v) (L ++ [x]) (w8.setCell ⟨w.heap.size + 1, 1, none⟩ V8) := by
  have hs1 := bb.size
  have hge := h.ge
  have F1 : FamL w1 (w.heap.size + 2) S VS L := h.fam.below bb
  obtain ⟨f8, s8, b8⟩ := fam_put F1 h.sep (by omega) hv rfl b5 o ho hg
  have bA8 : Box w8 (w.heap.size + 1) 31 (.int .i64 k) S := (h.bA.up bb).below b8 (by omega)
  have bR8 : Box w8 w.heap.size 31 (.int .i64 0) (.slice none 0 0) := (h.bR.up bb).below b8 (by omega)
  have hne : ∀ g, w.heap.size + 2 ≤ g → (w8.setCell ⟨w.heap.size + 1, 1, none⟩ V8).heap[g]? = w8.heap[g]? := fun g hg => heap_setCell_other _ _ _ _ (by simp; omega)
  have hs8 := b8.size
  refine ⟨bA8, ⟨?_, ⟨?_, ?_⟩, s8, bA8.set1 V8, bR8.other _ _ (by simp), ?_⟩⟩
  · rw [World.size_setCell]; omega
  · exact own_sameblock f8.out fun g hg => hne g (f8.out.lt g hg).1
  · exact fun i hi => own_sameblock (f8.inn i hi) fun g hg => hne g ((f8.inn i hi).lt g hg).1
  · exact (((h.low.step1 bb).trans (b8.mono (by omega)))).setCell (p := ⟨w.heap.size + 1, 1, none⟩) (by simp) V8

theorem unpacked_many (v : Value) (k : Int) (zs : List (List Int)) (w : World) (h : RdY w v (zs.map pwK)) (hl : 2000 < zs.length) :
    Calls Try.prog 55 #[v, .int .i64 k] w (ResY 0 [] 3 w) := by
  have t2 := Try.underlying31
  obtain ⟨a, cap, rfl, hm, hc⟩ := h
  rw [List.length_map]
  have hl' : (2000 : Int) < (zs.length : Int) := by omega
  have B1 : Hid (Below w.heap.size w (w.alloc (.cells #[.int .i64 0, .slice none 0 0] 31))) := Lib.hid ((Below.refl _ w).alloc (Nat.le_refl _) _)
  have X1 : Hid (Box (w.alloc (.cells #[.int .i64 0, .slice none 0 0] 31)) w.heap.size 31 (.int .i64 0) (.slice none 0 0)) := Lib.hid (Box.new _ _ _ _)
  clear hc hm
  go_enter Try.func55, Try.ntmps55
  go_wp2_with fail
  refine bodyPost_ret (results_box2_tmp rfl _ _ w.heap.size _ _ _ rfl X1.out t2 (by kernel_rfl)) rfl ?_
  exact ⟨_, _, rfl, famNil _ _, sepNil, B1.out⟩

theorem own_shape4 {w : World} {B n : Nat} {e : TypeId} {v : Value} {xs : List Value} (h : w.ownsRow B e 1 v n xs) : ∃ a cap, v = .slice a n cap := by
  rcases h.2 with ⟨rfl, rfl⟩ | ⟨g, cap, cur, rfl, _⟩
  · exact ⟨none, 0, rfl⟩
  · exact ⟨_, cap, rfl⟩

set_option maxHeartbeats 2000000 in
theorem unpacked_few (v : Value) (k : Nat) (zs : List (List Int)) (w : World) (h : RdY w v (zs.map pwK)) (hl : zs.length ≤ 2000) (hk : 1 ≤ k ∧ k ≤ 4) (hz : ∀ z ∈ zs, z.length = 4) :
    Calls Try.prog 55 #[v, .int .i64 (k : Int)] w (ResY k (zs.map (List.take k)) 0 w) := by
  have t2 := Try.underlying31
  obtain ⟨a, cap, rfl, hm, hc⟩ := h
  rw [List.length_map] at *
  have hl' : ¬ (2000 : Int) < (zs.length : Int) := by omega
  have HC := Lib.hid hc
  clear hc hm
  go_enter Try.func55, Try.ntmps55
  go_wp2_with fail
  obtain ⟨w1, hw1⟩ : ∃ w1, w1 = ((w.alloc (.cells #[.int .i64 0, .slice none 0 0] 31)).alloc (.cells #[.int .i64 (k : Int), .slice none 0 0] 31)) := ⟨_, rfl⟩
  have I0 : Hid (UnJ w (k : Int) (.slice none 0 0) (fun _ => undef) ((zs.take 0).map (List.take k)) w1) := Lib.hid (by
    rw [hw1]
    refine ⟨by simp, famNil _ _, sepNil, ?_, (Box.new _ _ _ _).alloc _, ((Below.refl _ w).alloc (Nat.le_refl _) _).alloc (by simp) _⟩
    have := Box.new (w.alloc (.cells #[.int .i64 0, .slice none 0 0] 31)) 31 (.int .i64 (k : Int)) (.slice none 0 0)
    rw [World.size_alloc] at this; exact this)
  rw [← hw1]
  clear hw1
  have HZ := Lib.hid hz
  clear hz
  go_loopw [8, 17] (fun _ c wr => ∃ (j : Nat) (S : Value) (VS : Nat → Value), j ≤ zs.length ∧ c = .int .i64 j ∧ Hid (UnJ w (k : Int) S VS ((zs.take j).map (List.take k)) wr)) (fun _ c _ => zs.length - (intOf c).toNat)
  case atStart => exact ⟨0, _, _, by omega, rfl, I0⟩
  case round =>
    clear I0
    obtain ⟨j, S, VS, hj, rfl, hI⟩ := hrel
    by_cases hlt : j < zs.length
    · have hlt' : (j : Int) < (zs.length : Int) := by omega
      obtain ⟨b, off, rfl, hbl, hrg⟩ := HC.out.resolve_left (by omega)
      obtain ⟨x, hx⟩ : ∃ x, x = zs[j] := ⟨_, rfl⟩
      have hrk := hrg j hlt
      rw [List.getElem?_map, List.getElem?_eq_getElem hlt, ← hx] at hrk
      have hrk2 : w.rangeAt b (off + j * 4) (pwK x).toList := hrk
      have HRW : Hid (wr.rangeAt b (off + j * 4) (pwK x).toList) := Lib.hid fun q u hq => (hI.out.low.cell (p := ⟨b, off + j * 4 + q, none⟩) hbl).trans (hrk2 q u hq)
      have L4 : Hid (x.length = 4) := Lib.hid (by rw [hx]; exact HZ.out _ (List.getElem_mem hlt))
      have NXT : Hid ((zs.take (j + 1)).map (List.take k) = (zs.take j).map (List.take k) ++ [x.take k]) := Lib.hid (by rw [hx, List.take_add_one, List.getElem?_eq_getElem hlt, List.map_append]; rfl)
      have LJ : Hid (((zs.take j).map (List.take k)).length ≤ 100000) := Lib.hid (by rw [List.length_map, List.length_take]; omega)
      generalize (zs.take j).map (List.take k) = L at *
      have TK : (x.take k).length = k := by rw [List.length_take, L4.out]; omega
      have HSZ : Hid ((pwK x).size = 4) := Lib.hid (by rw [pwK_size, L4.out])
      have HONE : Hid ((pwK x).all (·.oneCell') = true) := Lib.hid (pwK_one x)
      obtain ⟨w1, hw1⟩ : ∃ w1, w1 = wr.alloc (.cells (pwK x) 71) := ⟨_, rfl⟩
      have B2 : Hid (Below wr.heap.size wr w1) := Lib.hid (by rw [hw1]; exact (Below.refl _ _).alloc (Nat.le_refl _) _)
      have M1 : PwAt w1 wr.heap.size x := by rw [hw1]; exact PwAt.new _ _
      have SW1 : Hid (w1.heap.size = wr.heap.size + 1) := Lib.hid (by rw [hw1]; simp)
      have CL : Hid (∀ wx, Below w1.heap.size w1 wx → Calls Try.prog 79 #[.slice (some ⟨wr.heap.size, 0, none⟩) k 4] wx fun e w' => ∃ u, e = .returned u ∧ w'.ownsRow wx.heap.size 2 1 u k ((x.take k).map (Value.int .i64)) ∧ Below wx.heap.size wx w') := Lib.hid (fun wx hb => by
        have := cloneRd wr.heap.size 0 (x.take k) 4 wx (by omega) (fun q hq => by
          rw [Nat.zero_add]
          have h4 := M1.cell q (by rw [L4.out]; omega)
          have e : (x.take k)[q]?.getD 0 = x[q]?.getD 0 := by rw [List.getElem?_take, if_pos (by omega)]
          rw [e]
          exact (hb.cell (p := ⟨wr.heap.size, q, none⟩) (World.block_lt_of_cell? _ _ h4)).trans h4)
        rw [TK] at this
        exact this)
      have d0 : w1.cell? ⟨w.heap.size + 1, 1, none⟩ = some S := (hI.out.bA.up B2.out).c1
      obtain ⟨sa, sn, sc, eS⟩ : ∃ sa sn sc, S = .slice sa sn sc := by
        obtain ⟨sa, sc, e, _⟩ := Fam.head hI.out.fam
        exact ⟨_, _, _, e⟩
      have PU := Lib.hid (fun w5 v o w8 V8 b5 hv ho hg => UnJ.push (w5 := w5) (v := v) (w8 := w8) (V8 := V8) (x := x.take k) hI.out B2.out b5 (by rw [TK]; exact hv) o ho hg)
      have OW : Hid (∀ (w5 : World) (v : Value), Below w1.heap.size w1 w5 → (w5.alloc (.cells #[v] 42)).ownsRow (w.heap.size + 2) 42 1 S L.length ((List.range L.length).map VS)) := Lib.hid fun w5 v b5 => (((hI.out.fam.below B2.out).below b5).below ((Below.refl _ _).alloc (Nat.le_refl _) _)).out
      have SZ : Hid (∀ (w5 : World) (v : Value), Below w1.heap.size w1 w5 → w.heap.size + 2 ≤ (w5.alloc (.cells #[v] 42)).heap.size) := Lib.hid fun w5 v b5 => by have := hI.out.ge; have := B2.out.size; have := b5.size; simp; omega
      have SR : Hid (∀ (w5 : World) (v : Value), (some (⟨w5.heap.size, 0, none⟩ : Addr) = none ∧ 1 = 0 ∧ 1 = 0) ∨ ∃ ad, some (⟨w5.heap.size, 0, none⟩ : Addr) = some ad ∧ ∀ j u, [v][j]? = some u → (w5.alloc (.cells #[v] 42)).cell? (ad.add j) = some u) := Lib.hid fun w5 v => .inr ⟨_, rfl, cell_one_new _ _ _⟩
      have BXA : Hid (∀ (w5 : World), Below w1.heap.size w1 w5 → Box w5 (w.heap.size + 1) 31 (.int .i64 (k : Int)) S) := Lib.hid fun w5 b5 => (hI.out.bA.up B2.out).up b5
      have lj := LJ.out
      have hj5 : j < 100000 := by omega
      have hk4 : (k : Int) ≤ 4 := by omega
      have hk0 : (0 : Int) ≤ (k : Int) := by omega
      subst eS
      clear hrg hrk hrk2 hx hI M1 TK
      go_upto_region 7 with (first | (refine ldKY rfl _ rfl b (off + j * 4) rfl (pwK x) HRW.out HSZ.out ?_) | (refine stKY wr rfl _ _ rfl rfl (pwK x) rfl HSZ.out HONE.out ?_))
      rw [← hw1]
      clear hw1
      go_region_law (first
        | (refine step_rows_at (by rfl) _ _ (by rfl) (w.heap.size + 2) L.length _ _ (by rfl) (OW.out w5 _ B5) (some ⟨w5.heap.size, 0, none⟩) 1 1 [.slice ua k uc] (by rfl) (SR.out w5 _) (by rfl) (by simp [Value.oneCell']) (by omega) (SZ.out w5 _ B5) ?_; intro V8 w8 ho8 hg8 hl8; obtain ⟨a8, c8, e8⟩ := own_shape4 ho8; subst e8; have PP := Lib.hid (PU.out w5 _ _ w8 _ B5 o5 ho8 hg8); have x8 := PP.out.1.c1; have f8 := PP.out.1.fr 1)
        | (go_simp; go_at_call 79; refine (CL.out _ (Below.refl _ _).drew).mono ?_; rintro e w5 ⟨u5, rfl, o5, b5⟩; obtain ⟨ua, uc, rfl⟩ := own_shape4 o5; have B5 : Below w1.heap.size w1 w5 := belD1 b5; have X5 := Lib.hid (BXA.out w5 B5); have x5 := X5.out.c1; have X6 := Lib.hid (X5.out.alloc (.cells #[.slice ua k uc] 42)); have x6 := X6.out.c1))
      all_goals
        have D9 := Lib.hid PP.out.2
        rw [← NXT.out] at D9
        clear PP X5 X6 B5 b5 o5 ho8 hg8 hl8 PU OW SZ SR BXA CL d0 x5 x6
        go_wp2_with fail
        go_roundw
        case rel => exact ⟨j + 1, _, _, by omega, by go_num, D9⟩
        case measure => simp [intOf]; omega
    · obtain rfl : j = zs.length := by omega
      rw [List.take_length] at hI
      generalize List.map (List.take k) zs = L at *
      obtain ⟨sa, sc, rfl, _⟩ := Fam.head hI.out.fam
      have dA0 := hI.out.bA.c0
      have dA1 := hI.out.bA.c1
      have R0 := Lib.hid hI.out.bR
      have dR := hI.out.bR.c0
      have dR1 := hI.out.bR.c1
      have fR := hI.out.bR.fr 0
      have fR1 := hI.out.bR.fr 1
      obtain ⟨w9, hw9⟩ : ∃ w9, w9 = ((wr.setCell ⟨w.heap.size, 0, none⟩ (.int .i64 (k : Int))).setCell ⟨w.heap.size, 1, none⟩ (.slice sa L.length sc)) := ⟨_, rfl⟩
      have FIN : Hid (Box w9 w.heap.size 31 (.int .i64 (k : Int)) (.slice sa L.length sc) ∧ FamL w9 w.heap.size (.slice sa L.length sc) VS L ∧ Below w.heap.size w w9) := Lib.hid (by
        rw [hw9]
        refine ⟨(hI.out.bR.set0 _).set1 _, (Fam.same hI.out.fam fun g hg hlt => ?_).base (by omega), (hI.out.low.setCell (p := ⟨w.heap.size, 0, none⟩) (Nat.le_refl _) _).setCell (p := ⟨w.heap.size, 1, none⟩) (Nat.le_refl _) _⟩
        rw [heap_setCell_other _ _ _ _ (by simp; omega), heap_setCell_other _ _ _ _ (by simp; omega)])
      have SEP := Lib.hid hI.out.sep
      clear hI
      go_wp2_with fail
      rw [← hw9]
      clear hw9
      refine bodyPost_ret (results_box2_tmp rfl _ _ w.heap.size _ _ _ rfl FIN.out.1 t2 (by kernel_rfl)) rfl ?_
      exact ⟨_, _, rfl, FIN.out.2.1, SEP.out, FIN.out.2.2⟩
end Go.Proofs.Ytggebkcmokpcmaa
end
section
namespace Go.Proofs.Ytggebkcmokpcmaa
open Go.RowKit Go.Maps
set_option linter.unusedVariables false
set_option maxRecDepth 100000

/-- A sum in block g, of monomials of the degree D. -/
structure SumT (w : World) (g D : Nat) (T : List (List Int)) : Prop where
  ok : ∀ t ∈ T, Mono4 D t
  at_ : SumAt w g (if T = [] then 0 else (D : Int)) (T.map ix4)
section
variable {w w' : World} {g D : Nat} {T : List (List Int)}
theorem SumT.up (h : SumT w g D T) (k : Below w.heap.size w w') : SumT w' g D T := ⟨h.ok, h.at_.up k⟩
theorem SumT.drewN (h : SumT w g D T) (q : Nat) : SumT (w.drewN q) g D T := ⟨h.ok, h.at_⟩
theorem SumT.alloc (h : SumT w g D T) (o : Obj) : SumT (w.alloc o) g D T := ⟨h.ok, h.at_.alloc o⟩
theorem SumT.new (w : World) (D : Nat) : SumT (w.alloc (.cells Try.zeroCells99 99)) w.heap.size D [] := ⟨(fun t ht => by cases ht), by rw [if_pos rfl]; exact SumAt.new w⟩
theorem SumT.lt (h : SumT w g D T) : g < w.heap.size := h.at_.lt
end

/-- What adding a monomial leaves. -/
def AddT (g D : Nat) (T : List (List Int)) (w : World) (e : Ending) (w' : World) : Prop := e = .returned (.tuple #[]) ∧ SumT w' g D T ∧ w.grownBy w' (some g)
theorem addT_any (g D : Nat) (T : List (List Int)) (m : List Int) (w : World) (h : SumT w g D T) (hm : Mono4 D m) (hD : D ≤ 40) :
    Calls Try.prog 109 #[.pointer (some ⟨g, 0, none⟩), .agg (pwK m)] w (AddT g D (T ++ [m]) w) := by
  obtain ⟨a, b, c, f, rfl, hs⟩ := id hm
  refine (add_any g a b c f _ _ w h.at_ (by omega)).mono ?_
  rintro e w' ⟨h1, h2, h3⟩
  refine ⟨h1, ⟨fun t ht => ?_, ?_⟩, h3⟩
  · rcases List.mem_append.1 ht with ht | ht
    · exact h.ok t ht
    · rw [List.mem_singleton.1 ht]; exact hm
  · rw [if_neg (by simp), List.map_append, ← hs]
    exact h2
theorem monsT_any (g D : Nat) (T : List (List Int)) (w : World) (h : SumT w g D T) (hD : D ≤ 40) :
    Calls Try.prog 100 #[.pointer (some ⟨g, 0, none⟩)] w (MonsRes (oddY T) w) := by
  by_cases h0 : T = []
  · subst h0
    have h1 := h.at_
    rw [if_pos rfl] at h1
    have := monomialsY_any g 0 _ w h1 (by omega)
    rw [show ([] : List (List Int)).map ix4 = [] from rfl, monL_nil] at this
    exact this
  · have h1 := h.at_
    rw [if_neg h0] at h1
    have := monomialsY_any g D _ w h1 hD
    rw [monL_odd T D hD h.ok] at this
    exact this

theorem addY_lit (a b c f a' b' c' f' : Int) : addY [a, b, c, f] [a', b', c', f'] = [a + a', b + b', c + c', f + f'] := by
  simp [addY, addToY, List.range_succ]
theorem Mono4.add {p q : Nat} {x y : List Int} (hx : Mono4 p x) (hy : Mono4 q y) : Mono4 (p + q) (addY x y) := by
  obtain ⟨a, b, c, f, rfl, e⟩ := hx
  obtain ⟨a', b', c', f', rfl, e'⟩ := hy
  exact ⟨a + a', b + b', c + c', f + f', by rw [addY_lit]; simp, by omega⟩
theorem Mono4.small {p : Nat} {x : List Int} (h : Mono4 p x) (hp : p ≤ 1000000) (j : Nat) : 0 ≤ x[j]?.getD 0 ∧ x[j]?.getD 0 ≤ 1000000 := by
  obtain ⟨a, b, c, f, rfl, e⟩ := h
  match j with
  | 0 => simp; omega
  | 1 => simp; omega
  | 2 => simp; omega
  | 3 => simp; omega
  | j + 4 => simp
/-- All products. -/
def prodY (xs ys : List (List Int)) : List (List Int) := xs.flatMap fun x => ys.map (addY x)
theorem prodY_snoc (xs ys : List (List Int)) (x : List Int) : prodY (xs ++ [x]) ys = prodY xs ys ++ ys.map (addY x) := by simp [prodY]

/-- What the loops of times keep. -/
structure TmJ (w0 : World) (D : Nat) (T : List (List Int)) (w : World) : Prop where
  bel : Below w0.heap.size w0 w
  sum : SumT w w0.heap.size D T
structure TmI (w0 : World) (D : Nat) (T : List (List Int)) (h : Nat) (x : List Int) (w : World) : Prop where
  j : TmJ w0 D T w
  mon : PwAt w h x
  ne : h ≠ w0.heap.size
theorem TmI.step {w0 w w3 w4 : World} {D : Nat} {T : List (List Int)} {h : Nat} {x m : List Int} (k : TmI w0 D T h x w) (b3 : Below w.heap.size w w3) (hs : SumT w4 w0.heap.size D (T ++ [m])) (hg : w3.grownBy w4 (some w0.heap.size)) : TmI w0 D (T ++ [m]) h x w4 :=
  ⟨⟨(k.j.bel.step1 b3).grown hg (k.j.bel.step1 b3).size (fun q hq => by cases hq; exact Nat.le_refl _), hs⟩, (hg.block h (k.mon.up b3).lt (by simpa using k.ne)).trans (k.mon.up b3), k.ne⟩

end Go.Proofs.Ytggebkcmokpcmaa
end
