/-
  Joined: SForm, RRel.
-/
import Derived.Test.YtgalfhdeldjmpaaZmissibleForm19
import Derived.Test.YtgalfhdeldjmpaaZmissibleForm14
import Derived.Test.YtgalfhdeldjmpaaZmissibleForm16
import Derived.Test.YtgalfhdeldjmpaaZmissibleForm18
import Derived.WalkArith
section
namespace Go.Proofs.Ytgalfhdeldjmpaa
open Go.RowKit
set_option linter.unusedVariables false
set_option maxRecDepth 100000

/-! ### Plain -/
/-- A word whose reduction is asked. -/
def LW (xs : List Int) : Prop := (∀ x ∈ xs, 1 ≤ x) ∧ xs.sum ≤ 40
/-- The admissible form of a word, with repetitions. -/
def formF : List Int → List (List Int)
  | [] => [[]]
  | x :: r => (formF r).flatMap (admF 1700 x)
theorem LW_sum : ∀ {xs : List Int}, (∀ x ∈ xs, 1 ≤ x) → 0 ≤ xs.sum
  | [], _ => by simp
  | x :: r, h => by
    have h1 := h x List.mem_cons_self
    have h2 := LW_sum (xs := r) fun y hy => h y (List.mem_cons_of_mem _ hy)
    rw [List.sum_cons]; omega
theorem LW.tail {x : Int} {r : List Int} (h : LW (x :: r)) : LW r ∧ 1 ≤ x ∧ x + r.sum ≤ 40 ∧ 0 ≤ r.sum := by
  have h1 := h.1 x List.mem_cons_self
  have h2 : ∀ y ∈ r, 1 ≤ y := fun y hy => h.1 y (List.mem_cons_of_mem _ hy)
  have h3 := h.2
  rw [List.sum_cons] at h3
  have := LW_sum h2
  exact ⟨⟨h2, by omega⟩, h1, h3, this⟩
theorem mu_lt {x : Int} {z : List Int} (h0 : 0 ≤ x) (h1 : 0 ≤ z.sum) (h : x + z.sum ≤ 40) : mu x z < 1700 := by unfold mu; omega
theorem formF_ok : ∀ (xs : List Int), LW xs → ∀ z ∈ formF xs, isAdm z ∧ z.sum = xs.sum
  | [], _, z, hz => by rw [List.mem_singleton.1 hz]; exact ⟨trivial, rfl⟩
  | x :: r, h, z, hz => by
    obtain ⟨h1, h2, h3, h4⟩ := h.tail
    obtain ⟨y, hy, hz⟩ := List.mem_flatMap.1 hz
    obtain ⟨a1, a2⟩ := formF_ok r h1 y hy
    obtain ⟨c1, c2⟩ := admF_ok 1700 x y (by omega) a1 (by rw [a2]; exact h3) (mu_lt (by omega) (by rw [a2]; exact h4) (by rw [a2]; exact h3)) z hz
    exact ⟨c1, by rw [c2, a2, List.sum_cons]⟩
theorem LW.drop {xs : List Int} (h : LW xs) : ∀ k, LW (xs.drop k)
  | 0 => h
  | k + 1 => by
    rw [show xs.drop (k + 1) = (xs.drop k).tail by rw [List.tail_drop]]
    have := LW.drop h k
    cases e : xs.drop k with
    | nil => exact ⟨by simp, by simp⟩
    | cons x r => rw [e] at this; exact this.tail.1
theorem drop_consL (xs : List Int) (k : Nat) (hk : k < xs.length) : xs.drop k = xs[k]?.getD 0 :: xs.drop (k + 1) := by
  rw [List.drop_eq_getElem_cons hk, List.getElem?_eq_getElem hk]; rfl

/-! ### The walk of l03Form -/
/-- What a function that makes ascending lists of admissible words leaves. -/
def FormPost (T : List (List Int)) (w : World) (e : Ending) (w' : World) : Prop :=
  ∃ U US zs, e = .returned U ∧ LSt 0 0 T w U US zs w'

theorem form_start (w : World) : LSt 0 0 (formF []) w (.slice (some ⟨w.heap.size + 1, 0, none⟩) 1 1) (fun _ => .slice (some ⟨w.heap.size, 0, none⟩) 0 0) [[]] ((w.alloc (.cells #[] 2)).alloc (.cells #[.slice (some ⟨w.heap.size, 0, none⟩) 0 0] 41)) := by
  have b1 : Below w.heap.size w (w.alloc (.cells #[] 2)) := (Below.refl _ w).alloc (Nat.le_refl _) _
  refine ⟨⟨?_, fun i hi => ?_⟩, fun i j hi hj hne => absurd (by simp at hi hj; omega) hne, List.pairwise_singleton _ _, fun x => ?_, b1.alloc (by simp) _⟩
  · have := World.ownsRow_lit (base := w.heap.size) (e := 41) (size := 1) (w.alloc (.cells #[] 2)) #[.slice (some ⟨w.heap.size, 0, none⟩) 0 0] 1 (by simp) (by unfold maxLen; omega) rfl
    simpa using this
  · have h0 : i = 0 := by simp at hi; omega
    subst h0
    exact (World.ownsRow_made (base := w.heap.size) (e := 2) (size := 1) w #[] 0 (Nat.le_refl _) (Nat.zero_le _) (by simp)).alloc _
  · show x ∈ [[]] ↔ par [[]] x
    rw [par_nodup [([] : List Int)] (by simp)]

theorem l03Form_any (v : Value) (xs : List Int) (w : World) (h : RdI w v xs.length (fun j => xs[j]?.getD 0)) (hw : LW xs) :
    Calls Try.prog 21 #[v] w (FormPost (formF xs) w) := by
  obtain ⟨a, cap, rfl, hm, hc⟩ := h
  unfold maxLen at hm
  have HC := Lib.hid hc
  have HW := Lib.hid fun k => hw.drop k
  have S0 := Lib.hid (form_start w)
  have HX := Lib.hid fun k (hk : k < xs.length) => drop_consL xs k hk
  have E0 : Hid (xs.drop 0 = xs) := Lib.hid rfl
  have EN : Hid (xs.drop xs.length = []) := Lib.hid (List.drop_length)
  have hn : IntKind.i64.wrap ((xs.length : Int) - 1) = (xs.length : Int) - 1 := by rw [IntKind.wrap_i64]; omega
  clear hc hw
  go_enter Try.func21, Try.ntmps21
  go_wp2_with fail
  go_loopw [3, 4] (fun S c wr => ∃ (k : Nat) (US : Nat → Value) (zs : List (List Int)), k ≤ xs.length ∧ c = .int .i64 ((k : Int) - 1) ∧ Hid (LSt 0 0 (formF (xs.drop k)) w S US zs wr)) (fun _ c _ => (intOf c + 1).toNat)
  case atStart => exact ⟨xs.length, _, _, Nat.le_refl _, rfl, Lib.hid (by rw [EN.out]; exact S0.out)⟩
  case round =>
    clear S0
    obtain ⟨k, US, zs, hk, rfl, hS⟩ := hrel
    by_cases hk0 : 0 < k
    · obtain ⟨i, rfl⟩ : ∃ i, k = i + 1 := ⟨k - 1, by omega⟩
      obtain ⟨b, off, rfl, hcell⟩ := HC.out.resolve_left (by omega)
      have hci := hcell i (by omega)
      have D := HX.out i (by omega)
      have LD := HW.out i
      rw [D] at LD
      obtain ⟨x, hx⟩ : ∃ x, xs[i]?.getD 0 = x := ⟨_, rfl⟩
      simp only [hx] at hci
      rw [hx] at D LD
      obtain ⟨L1, L2, L3, L4⟩ := LD.tail
      have c1 : wr.cell? ⟨b, off + i, none⟩ = some (.int .i64 x) := (hS.out.bel.cell (p := ⟨b, off + i, none⟩) (World.block_lt_of_cell? w _ hci)).trans hci
      have FO := formF_ok _ L1
      have hz : ∀ z ∈ zs, isAdm z ∧ z.sum = (xs.drop (i + 1)).sum := fun z hz => FO z (par_mem _ _ ((hS.out.mem z).1 hz))
      have C := Lib.hid (left_any 1700 x _ zs.length (rowsOf zs) wr (by omega) (Fam.rdr hS.out.fam) (adm_count zs hS.out.asc.nodup fun z h => ⟨(hz z h).1, by rw [(hz z h).2]; omega⟩) (fun j hj => by
        unfold rowsOf
        rw [List.getElem?_eq_getElem hj]
        have h1 := hz _ (List.getElem_mem hj)
        exact ⟨h1.1, by simp only [Option.getD_some]; rw [h1.2]; exact L3, mu_lt (by omega) (by simp only [Option.getD_some]; rw [h1.2]; exact L4) (by simp only [Option.getD_some]; rw [h1.2]; exact L3)⟩))
      rw [rowsL_of] at C
      have DH := Lib.hid D
      have hi1 : ((i + 1 : Nat) : Int) - 1 = (i : Int) := by omega
      have hil : (i : Int) < (xs.length : Int) := by omega
      rw [hi1]
      clear hcell hci D LD L1 L2 L3 L4 FO hz hx hi1
      go_wp2_with fail
      refine C.out.mono ?_
      rintro e w2 ⟨U, US2, zs2, rfl, f2, s2, a2, m2, b2⟩
      have hb : w.heap.size ≤ wr.heap.size := hS.out.bel.size
      have S2 : Hid (LSt 0 0 (formF (xs.drop i)) w U US2 zs2 w2) := Lib.hid ⟨Fam.base f2 hb, s2, a2, fun y => by
        rw [m2, DH.out]
        exact par_flatMap _ _ _ _ fun z => by rw [par_nodup zs hS.out.asc.nodup, hS.out.mem], hS.out.bel.trans (b2.mono hb)⟩
      clear f2 s2 a2 m2 b2 C
      go_wp2_with fail
      go_roundw
      case rel => exact ⟨i, US2, zs2, by omega, by go_num, S2⟩
      case measure => simp [intOf]
    · obtain rfl : k = 0 := by omega
      rw [E0.out] at hS
      go_wp2_with fail
      go_ret
      exact ⟨_, US, zs, rfl, hS.out⟩

theorem LSt.ok0 {T : List (List Int)} {w wr : World} {S : Value} {US : Nat → Value} {zs : List (List Int)} (h : LSt 0 0 T w S US zs wr) (hT : ∀ x ∈ T, isAdm x ∧ x.sum ≤ 40) : zs.length ≤ 6000000000 ∧ ∀ j, j < zs.length → (rowsOf zs j).length ≤ 6 := h.ok hT
/-! ### The walk of l03Reduce -/
theorem allForm_ok (L : List (List Int)) (h : ∀ x ∈ L, LW x) : ∀ z ∈ L.flatMap formF, isAdm z ∧ z.sum ≤ 40 := fun z hz => by
  obtain ⟨x, hx, hz⟩ := List.mem_flatMap.1 hz
  have h1 := formF_ok x (h x hx) z hz
  have h2 := (h x hx).2
  exact ⟨h1.1, by omega⟩
theorem l03Reduce_any (V : Value) (m : Nat) (X : Nat → List Int) (w : World) (h : RdSS w V m X) (hX : ∀ i, i < m → LW (X i)) :
    Calls Try.prog 29 #[V] w (FormPost ((rowsL X m).flatMap formF) w) := by
  obtain ⟨⟨a, cap, rfl⟩, hsm, VS, hc, hr⟩ := h
  unfold maxLen at hsm
  have HC := Lib.hid hc
  have HR := Lib.hid hr
  have HX := Lib.hid hX
  have HTT : Hid (∀ k, k ≤ m → ∀ x ∈ (rowsL X k).flatMap formF, isAdm x ∧ x.sum ≤ 40) := Lib.hid fun k hk => allForm_ok _ (fun y hy => by obtain ⟨j, hj, rfl⟩ := mem_rowsL hy; exact hX j (by omega))
  have S0 : Hid (LSt 0 0 ((rowsL X 0).flatMap formF) w (.slice (some ⟨w.heap.size, 0, none⟩) 0 0) (fun _ => undef) [] (w.alloc (.cells #[] 41))) := Lib.hid
    ⟨⟨World.ownsRow_made w #[] 0 (Nat.le_refl _) (Nat.zero_le _) (by simp), fun i hi => absurd hi (Nat.not_lt_zero _)⟩, fun i j hi => absurd hi (Nat.not_lt_zero _), List.Pairwise.nil, fun x => by simp [rowsL, par], (Below.refl _ w).alloc (Nat.le_refl _) _⟩
  clear hc hr hX
  go_enter Try.func29, Try.ntmps29
  go_wp2_with fail
  go_loopw [3, 4] (fun S c wr => ∃ (k : Nat) (US : Nat → Value) (zs : List (List Int)), k ≤ m ∧ c = .int .i64 k ∧ Hid (LSt 0 0 ((rowsL X k).flatMap formF) w S US zs wr)) (fun _ c _ => m - (intOf c).toNat)
  case atStart => exact ⟨0, _, [], Nat.zero_le _, rfl, S0⟩
  case round =>
    clear S0
    obtain ⟨k, US, zs, hk, rfl, hS⟩ := hrel
    rename Value => u3
    by_cases hlt : k < m
    · have hlt' : (k : Int) < (m : Int) := by omega
      obtain ⟨b, off, ⟨cap', e⟩, hcell⟩ := HC.out.resolve_left (by omega)
      cases e
      obtain ⟨vk, hvk⟩ : ∃ v, VS k = v := ⟨_, rfl⟩
      have c1 : wr.cell? ⟨b, off + k, none⟩ = some vk := by rw [← hvk]; exact (hS.out.bel.cell (p := ⟨b, off + k, none⟩) (World.block_lt_of_cell? w _ (hcell k hlt))).trans (hcell k hlt)
      have RK := (HR.out k hlt).below hS.out.bel
      rw [hvk] at RK
      have C := Lib.hid (l03Form_any vk (X k) wr RK (HX.out k hlt))
      have FK := Lib.hid (formF_ok _ (HX.out k hlt))
      have H40 := Lib.hid (HX.out k hlt).2
      have NX : Hid ((rowsL X (k + 1)).flatMap formF = (rowsL X k).flatMap formF ++ formF (X k)) := Lib.hid (by rw [rowsL_succ, List.flatMap_append, List.flatMap_cons, List.flatMap_nil, List.append_nil])
      obtain ⟨hzl, hzr⟩ := hS.out.ok0 (HTT.out k (by omega))
      clear hcell RK hvk
      go_wp2_with fail
      refine C.out.mono ?_
      rintro e w2 ⟨U2, US2, zs2, rfl, s2⟩
      have S2 := Lib.hid s2
      have S3 := Lib.hid (hS.out.up s2.bel)
      have Z2 : Hid (∀ z ∈ zs2, isAdm z ∧ z.sum ≤ 40) := Lib.hid fun z hz => by have h1 := FK.out z (par_mem _ _ ((s2.mem z).1 hz)); have := H40.out; exact ⟨h1.1, by omega⟩
      obtain ⟨hzl2, hzr2⟩ := s2.ok0 (fun z hz => by have h1 := FK.out z hz; have := H40.out; exact ⟨h1.1, by omega⟩)
      have SM := Lib.hid (l01Sum_any _ U2 zs.length zs2.length (rowsOf zs) (rowsOf zs2) US US2 w.heap.size wr.heap.size w2 S3.out.fam s2.fam (by omega) (by omega) (fun i hi => by have := hzr i hi; omega) (fun i hi => by have := hzr2 i hi; omega))
      rw [rowsL_of, rowsL_of] at SM
      clear s2 C
      go_wp2_with fail
      refine SM.out.mono ?_
      rintro e w4 ⟨V4, VS4, rfl, f4, s4, b4⟩
      have S4 := Lib.hid (S3.out.add S2.out.asc S2.out.mem (Fam.base f4 S3.out.bel.size) s4 (S3.out.bel.trans (b4.mono S3.out.bel.size)))
      clear f4 s4 SM
      go_wp2_with fail
      go_roundw
      case rel => exact ⟨k + 1, VS4, _, by omega, by go_num, Lib.hid (by rw [NX.out]; exact S4.out)⟩
      case measure => simp [intOf]; omega
    · obtain rfl : k = m := by omega
      go_wp2_with fail
      go_ret
      exact ⟨_, US, zs, rfl, hS.out⟩
end Go.Proofs.Ytgalfhdeldjmpaa
end
section
namespace Go.Proofs.Ytgalfhdeldjmpaa
open Go.RowKit Go.Maps
set_option linter.unusedVariables false
set_option maxRecDepth 100000

theorem wf64 (z : Int) (h0 : 0 ≤ z) (h1 : z ≤ 1000000) : (Lit.int .i64 z).wf = true := WalkArith.wf_i64 (by omega)
theorem keyAB_inj {a b a' b' : Int} {l : Lit} (h : keyOf Try.prog 82 (keyAB a b) = some l) (h' : keyOf Try.prog 82 (keyAB a' b') = some l) : a = a' ∧ b = b' := by
  have := keyedAB.inj h h'
  simpa [keyAB] using this
/-- The reducer behind a put into the map of relations. -/
theorem RInv.putK {R K gk gp n : Nat} {X : Nat → Prop} {w w' : World} {D : DataW Value} {l : Lit} {v : Value} (h : RInv R K gk gp X w) (hg : w.grownBy w' (some gk)) (ho : w'.ownsMap Try.prog 82 RawV gk n (D.put l (.held v)))
    (hD : Ent D (PhiK X w)) (hv : PhiK X w l v) : RInv R K gk gp X w' := by
  have m1 := h.m1
  have m2 := h.m2
  have kk : Kp2 gk gp w w' := Kp2.of_grown hg (.inl rfl)
  obtain ⟨D2, n2, o2, e2⟩ := h.prods
  have up : ∀ l u, PhiK X w l u → PhiK X w' l u := fun l u ⟨⟨a, b, h1, h2, h3⟩, h4⟩ => ⟨⟨a, b, h1, h2, RdI.kp h3 m1 m2 kk⟩, h4.ext hg.size fun g hg => .inl hg⟩
  refine ⟨heap_kp h.obj m1 m2 kk, heap_kp h.box m1 m2 kk, ⟨_, n, ho, (hD.mono up).put l v (up l v hv)⟩, ⟨D2, n2, o2.kept hg (by simpa using h.ne.symm), e2.mono fun l u ⟨⟨n, x, h1, h2, L, h3, h5, h6⟩, h4⟩ => ⟨⟨n, x, h1, h2, L, h3, h5, ?_⟩, h4.ext hg.size fun g hg => .inl hg⟩⟩, h.ne, h.nx⟩
  exact h6.kp (res_ok h1 h5) m1 m2 kk

/-- What a relation's call leaves. -/
def RelPost (R K gk gp : Nat) (X : Nat → Prop) (a b : Int) (w : World) (e : Ending) (w' : World) : Prop := ∃ v, e = .returned v ∧ JsIs w' v b a ∧ RInv R K gk gp X w' ∧ Kp2 gk gp w w'

set_option maxHeartbeats 1000000 in
theorem rel_any (R K gk gp : Nat) (X : Nat → Prop) (a b : Int) (w : World) (hX : ∀ g, X g → g < w.heap.size) (h : RInv R K gk gp X w) (hab : okAB a b) :
    Calls Try.prog 62 #[.int .i64 a, .int .i64 b, .pointer (some ⟨K, 0, none⟩)] w (RelPost R K gk gp X a b w) := by
  obtain ⟨a1, a2, a3, a4⟩ := id hab
  obtain ⟨l, hl⟩ := keyAB_mk a b (wf64 a (by omega) (by omega)) (wf64 b (by omega) (by omega))
  obtain ⟨D, n, ho, hn, hD⟩ := h.known'
  have B1 : Hid (Below w.heap.size w (w.alloc (.cells #[.int .i64 a, .int .i64 b] 82))) := Lib.hid ((Below.refl _ w).alloc (Nat.le_refl _) _)
  have HK := Lib.hid hl
  have HO1 := Lib.hid (ho.alloc (.cells #[.int .i64 a, .int .i64 b] 82))
  have HI := Lib.hid h
  have ck : (w.alloc (.cells #[.int .i64 a, .int .i64 b] 82)).cell? ⟨K, 0, none⟩ = some (.map (some gk)) := (B1.out.cell (p := ⟨K, 0, none⟩) (Array.getElem?_eq_some_iff.1 h.box).1).trans (cell_of_row w K 0 _ _ (0, 0) h.box)
  have HD := Lib.hid hD
  cases hh : has D l with
  | true =>
    obtain ⟨u, hu, ⟨a', b', hab', hk', hj⟩, _⟩ := hD.look l hh (.held (.slice none 0 0))
    obtain ⟨rfl, rfl⟩ := keyAB_inj hl hk'
    have HU := Lib.hid hu
    have HJ := Lib.hid hj
    clear hl ho hD hu hj hk' hab' h
    go_enter Try.func62, Try.ntmps62
    go_wp2_with (first | (at_lookup; refine wpList_lookup_own_ok _ rfl _ _ 81 rfl 82 41 keyedAB Try.underlying81 RawV (Try.zeroValue41 _) (.held (.slice none 0 0)) [] rfl gk n D rfl HO1.out _ l rfl HK.out ?_; intro v ps hv))
    go_ret
    obtain rfl : v = u := by
      have e : DataW.held v = D.atKey l (.held (.slice none 0 0)) := congrArg Prod.fst (Option.some.inj hv)
      rw [HU.out] at e
      exact DataW.held.inj e
    exact ⟨v, rfl, RdI.below HJ.out B1.out, HI.out.below B1.out, Kp2.of_below B1.out⟩
  | false =>
    clear hl ho hD h
    obtain ⟨na, rfl⟩ := Int.eq_ofNat_of_zero_le (by omega : 0 ≤ a)
    obtain ⟨nb, rfl⟩ := Int.eq_ofNat_of_zero_le (by omega : 0 ≤ b)
    have O0 : Hid ((w.alloc (.cells #[.int .i64 (na : Int), .int .i64 (nb : Int)] 82)).ownsRow (w.alloc (.cells #[.int .i64 (na : Int), .int .i64 (nb : Int)] 82)).heap.size 2 1 (.slice none 0 0) (jsTo (nb : Int) (na : Int) 0).length ((jsTo (nb : Int) (na : Int) 0).map (Value.int .i64))) := Lib.hid (by simpa [jsTo] using World.ownsRow_nil _ _ _ _)
    have JA : Hid (jsTo (nb : Int) (na : Int) (na / 2 + 1) = js (nb : Int) (na : Int)) := Lib.hid (by have := jsTo_all (nb : Int) (na : Int); rw [Int.toNat_natCast] at this; exact this)
    go_enter Try.func62, Try.ntmps62
    go_wp2_with (first | (at_lookup; refine wpList_lookup_own_ok _ rfl _ _ 81 rfl 82 41 keyedAB Try.underlying81 RawV (Try.zeroValue41 _) (.held (.slice none 0 0)) [] rfl gk n D rfl HO1.out _ l rfl HK.out ?_; intro v ps hv))
    clear hv
    have BN := Lib.hid (heap_alloc_new w (.cells #[.int .i64 (na : Int), .int .i64 (nb : Int)] 82))
    generalize hw1 : w.alloc (.cells #[.int .i64 (na : Int), .int .i64 (nb : Int)] 82) = w1 at *
    have hs1 : w1.heap.size = w.heap.size + 1 := by rw [← hw1]; simp
    clear hw1
    go_loopw [9, 10] (fun S c wr => ∃ j : Nat, j ≤ na / 2 + 1 ∧ c = .int .i64 j ∧ Hid (wr.ownsRow w1.heap.size 2 1 S (jsTo (nb : Int) (na : Int) j).length ((jsTo (nb : Int) (na : Int) j).map (Value.int .i64))) ∧ Hid (Below w1.heap.size w1 wr)) (fun _ c _ => na / 2 + 1 - (intOf c).toNat)
    case atStart => exact ⟨0, by omega, rfl, O0, Lib.hid (Below.refl _ _)⟩
    case round =>
      clear O0
      obtain ⟨j, hj, rfl, hO, hB⟩ := hrel
      by_cases hj2 : 2 * j ≤ na
      · obtain ⟨p, hp⟩ : ∃ p : Nat, (nb : Int) - (j : Int) - 1 = (p : Int) := ⟨nb - j - 1, by omega⟩
        obtain ⟨q, hq⟩ : ∃ q : Nat, (na : Int) - 2 * (j : Int) = (q : Int) := ⟨na - 2 * j, by omega⟩
        have P : Hid (Calls Try.prog 63 #[.int .i64 ((nb : Int) - (j : Int) - 1), .int .i64 ((na : Int) - 2 * (j : Int))] wr fun e w' => e = .returned (.tuple #[.int .i64 (bpar p q), .int .i64 0]) ∧ wr = w') := Lib.hid (by rw [hp, hq]; exact implBinomial_in p q wr (by omega) (by omega))
        have ep : bpar p q = bpar ((nb : Int).toNat - j - 1) ((na : Int).toNat - 2 * j) := by
          rw [show p = (nb : Int).toNat - j - 1 by omega, show q = (na : Int).toNat - 2 * j by omega]
        have hle : (j : Int) ≤ (na : Int) / 2 := by omega
        by_cases hb1 : bpar p q = 1
        · have JY := Lib.hid (jsTo_yes (nb : Int) (na : Int) j (by rw [← ep]; exact hb1))
          rw [hb1] at P
          have B2 := Lib.hid (hB.out.alloc hB.out.size (.cells #[.int .i64 (j : Int)] 2))
          have O2 := Lib.hid (hO.out.alloc (.cells #[.int .i64 (j : Int)] 2))
          have LJ : (jsTo (nb : Int) (na : Int) j).length ≤ 1000 := by
            unfold jsTo
            rw [List.length_map]
            have := List.length_filter_le (fun j => decide (bpar ((nb : Int).toNat - j - 1) ((na : Int).toNat - 2 * j) = 1)) (List.range j)
            rw [List.length_range] at this
            omega
          have CN : Hid (∀ jj u, [Value.int .i64 (j : Int)][jj]? = some u → (wr.alloc (.cells #[.int .i64 (j : Int)] 2)).cell? ((⟨wr.heap.size, 0, none⟩ : Addr).add jj) = some u) := Lib.hid fun jj u hu => by
            have h0 : jj = 0 := by have := (List.getElem?_eq_some_iff.1 hu).1; simp at this; omega
            subst h0
            simp at hu
            subst hu
            exact cell_of_row _ wr.heap.size 0 _ _ (0, 0) (heap_alloc_new wr _)
          clear hp hq ep hb1
          go_wp2_with fail
          refine P.out.mono ?_
          rintro e w2 ⟨rfl, rfl⟩
          go_wp2_with (at_builtin; refine wpList_ints _ rfl _ _ rfl w1.heap.size (jsTo (nb : Int) (na : Int) j).length _ _ rfl O2.out (some ⟨wr.heap.size, 0, none⟩) 1 1 [Value.int .i64 (j : Int)] rfl (.inr ⟨_, rfl, CN.out⟩) rfl (by simp [Value.oneCell']) (by omega) B2.out.size ?_; intro v3 w3 ho3 hg3; have O3 := Lib.hid ho3; have B3 := Lib.hid (B2.out.grown hg3 B2.out.size (fun q hq => (O2.out.lt q hq).1)); clear ho3 hg3)
          go_roundw
          case rel => exact ⟨j + 1, by omega, by go_num, Lib.hid (by rw [JY.out, List.length_append, List.length_singleton, List.map_append]; exact O3.out), B3⟩
          case measure => simp [intOf]; omega
        · have hb0 : bpar p q = 0 := by unfold bpar at hb1 ⊢; split <;> simp_all
          have JN := Lib.hid (jsTo_no (nb : Int) (na : Int) j (by rw [← ep]; exact hb1))
          rw [hb0] at P
          clear hp hq ep hb1 hb0
          go_wp2_with fail
          refine P.out.mono ?_
          rintro e w2 ⟨rfl, rfl⟩
          go_wp2_with fail
          go_roundw
          case rel => exact ⟨j + 1, by omega, by go_num, Lib.hid (by rw [JN.out]; exact hO.out), hB⟩
          case measure => simp [intOf]; omega
      · obtain rfl : j = na / 2 + 1 := by omega
        rw [JA.out] at hO
        have hle : ¬ ((na / 2 + 1 : Nat) : Int) ≤ (na : Int) / 2 := by omega
        have ckr : wr.cell? ⟨K, 0, none⟩ = some (.map (some gk)) := (hB.out.cell (p := ⟨K, 0, none⟩) (World.block_lt_of_cell? w1 _ ck)).trans ck
        have cbr : wr.heap[w.heap.size]? = some (.cells #[.int .i64 (na : Int), .int .i64 (nb : Int)] 82 (0, 0)) := (hB.out.block _ (by omega)).trans BN.out
        have cb0 := cell_of_row wr w.heap.size 0 _ _ (0, 0) cbr
        have cb1 := cell_of_row wr w.heap.size 1 _ _ (0, 0) cbr
        have BW := Lib.hid (B1.out.trans (hB.out.mono B1.out.size))
        have HIR := Lib.hid (HI.out.below BW.out)
        have HOR : Hid (wr.ownsMap Try.prog 82 RawV gk n D) := Lib.hid (by
          obtain ⟨es, clock, hb, rest⟩ := HO1.out
          exact ⟨es, clock, (hB.out.block _ (Array.getElem?_eq_some_iff.1 hb).1).trans hb, rest⟩)
        have HDR : Hid (Ent D (PhiK X wr)) := Lib.hid (HD.out.mono fun l v k => k.keep (fun b hb _ => BW.out.block b hb) BW.out.size fun g hg => .inl hg)
        have HST : Hid (StV X wr u9) := Lib.hid fun g hg => ⟨(hO.out.lt g hg).2, fun hx => by have h1 := hX g hx; have h2 := (hO.out.lt g hg).1; omega⟩
        have HJ : Hid (JsIs wr u9 (nb : Int) (na : Int)) := Lib.hid (rd_of_own hO.out rfl)
        have hnm : n < maxLen := by unfold maxLen; omega
        clear HI HD HO1 B1 BN JA hO
        go_wp2_with (first | (at_mapUpdate; refine wpList_mapUpdate_in _ rfl _ _ _ 81 rfl 82 41 keyedAB Try.underlying81 RawV gk n D rfl HOR.out hnm _ _ l rfl rfl HK.out (.held u9) [] rfl ?_; intro w3 ho3 ht3))
        go_ret
        have kk : Kp2 gk gp wr w3 := Kp2.of_grown ht3.grown (.inl rfl)
        exact ⟨u9, rfl, RdI.kp HJ.out HIR.out.m1 HIR.out.m2 kk, HIR.out.putK ht3.grown ho3 HDR.out ⟨⟨_, _, hab, HK.out, HJ.out⟩, HST.out⟩, (Kp2.of_below BW.out).trans kk⟩
end Go.Proofs.Ytgalfhdeldjmpaa
end
