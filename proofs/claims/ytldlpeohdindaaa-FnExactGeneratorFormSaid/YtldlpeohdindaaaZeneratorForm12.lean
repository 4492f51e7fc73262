/-
  Joined: SForm, GPlain, GJoin.
-/
import Derived.Test.YtldlpeohdindaaaZeneratorForm11
import Derived.Deep.RegionLaw
section
namespace Go.Proofs.Ytldlpeohdindaaa
open Go.RowKit
set_option linter.unusedVariables false
set_option maxRecDepth 100000

/-! ### Plain -/
/-- A word whose reduction is asked. -/
def LW (xs : List Int) : Prop := (∀ x ∈ xs, 1 ≤ x) ∧ xs.sum ≤ 40
/-- The admissible form of a word, with repetitions. -/
def formF : List Int → List (List Int)
  | [] => [[]]
  | x :: r => (formF r).flatMap (admF 1700 x)
theorem LW_sum : ∀ {xs : List Int}, (∀ x ∈ xs, 1 ≤ x) → 0 ≤ xs.sum
  | [], _ => by simp
  | x :: r, h => by
    have h1 := h x List.mem_cons_self
    have h2 := LW_sum (xs := r) fun y hy => h y (List.mem_cons_of_mem _ hy)
    rw [List.sum_cons]; omega
theorem LW.tail {x : Int} {r : List Int} (h : LW (x :: r)) : LW r ∧ 1 ≤ x ∧ x + r.sum ≤ 40 ∧ 0 ≤ r.sum := by
  have h1 := h.1 x List.mem_cons_self
  have h2 : ∀ y ∈ r, 1 ≤ y := fun y hy => h.1 y (List.mem_cons_of_mem _ hy)
  have h3 := h.2
  rw [List.sum_cons] at h3
  have := LW_sum h2
  exact ⟨⟨h2, by omega⟩, h1, h3, this⟩
theorem mu_lt {x : Int} {z : List Int} (h0 : 0 ≤ x) (h1 : 0 ≤ z.sum) (h : x + z.sum ≤ 40) : mu x z < 1700 := by unfold mu; omega
theorem formF_ok : ∀ (xs : List Int), LW xs → ∀ z ∈ formF xs, isAdm z ∧ z.sum = xs.sum
  | [], _, z, hz => by rw [List.mem_singleton.1 hz]; exact ⟨trivial, rfl⟩
  | x :: r, h, z, hz => by
    obtain ⟨h1, h2, h3, h4⟩ := h.tail
    obtain ⟨y, hy, hz⟩ := List.mem_flatMap.1 hz
    obtain ⟨a1, a2⟩ := formF_ok r h1 y hy
    obtain ⟨c1, c2⟩ := admF_ok 1700 x y (by omega) a1 (by rw [a2]; exact h3) (mu_lt (by omega) (by rw [a2]; exact h4) (by rw [a2]; exact h3)) z hz
    exact ⟨c1, by rw [c2, a2, List.sum_cons]⟩
theorem LW.drop {xs : List Int} (h : LW xs) : ∀ k, LW (xs.drop k)
  | 0 => h
  | k + 1 => by
    rw [show xs.drop (k + 1) = (xs.drop k).tail by rw [List.tail_drop]]
    have := LW.drop h k
    cases e : xs.drop k with
    | nil => exact ⟨by simp, by simp⟩
    | cons x r => rw [e] at this; exact this.tail.1
theorem drop_consL (xs : List Int) (k : Nat) (hk : k < xs.length) : xs.drop k = xs[k]?.getD 0 :: xs.drop (k + 1) := by
  rw [List.drop_eq_getElem_cons hk, List.getElem?_eq_getElem hk]; rfl

/-! ### The walk of l03Form -/
/-- What a function that makes ascending lists of admissible words leaves. -/
def FormPost (T : List (List Int)) (w : World) (e : Ending) (w' : World) : Prop :=
  ∃ U US zs, e = .returned U ∧ LSt 0 0 T w U US zs w'

theorem form_start (w : World) : LSt 0 0 (formF []) w (.slice (some ⟨w.heap.size + 1, 0, none⟩) 1 1) (fun _ => .slice (some ⟨w.heap.size, 0, none⟩) 0 0) [[]] ((w.alloc (.cells #[] 2)).alloc (.cells #[.slice (some ⟨w.heap.size, 0, none⟩) 0 0] 46)) := by
  have b1 : Below w.heap.size w (w.alloc (.cells #[] 2)) := (Below.refl _ w).alloc (Nat.le_refl _) _
  refine ⟨⟨?_, fun i hi => ?_⟩, fun i j hi hj hne => absurd (by simp at hi hj; omega) hne, List.pairwise_singleton _ _, fun x => ?_, b1.alloc (by simp) _⟩
  · have := World.ownsRow_lit (base := w.heap.size) (e := 46) (size := 1) (w.alloc (.cells #[] 2)) #[.slice (some ⟨w.heap.size, 0, none⟩) 0 0] 1 (by simp) (by unfold maxLen; omega) rfl
    simpa using this
  · have h0 : i = 0 := by simp at hi; omega
    subst h0
    exact (World.ownsRow_made (base := w.heap.size) (e := 2) (size := 1) w #[] 0 (Nat.le_refl _) (Nat.zero_le _) (by simp)).alloc _
  · show x ∈ [[]] ↔ par [[]] x
    rw [par_nodup [([] : List Int)] (by simp)]

theorem l03Form_any (v : Value) (xs : List Int) (w : World) (h : RdI w v xs.length (fun j => xs[j]?.getD 0)) (hw : LW xs) :
    Calls Try.prog 46 #[v] w (FormPost (formF xs) w) := by
  obtain ⟨a, cap, rfl, hm, hc⟩ := h
  unfold maxLen at hm
  have HC := Lib.hid hc
  have HW := Lib.hid fun k => hw.drop k
  have S0 := Lib.hid (form_start w)
  have HX := Lib.hid fun k (hk : k < xs.length) => drop_consL xs k hk
  have E0 : Hid (xs.drop 0 = xs) := Lib.hid rfl
  have EN : Hid (xs.drop xs.length = []) := Lib.hid (List.drop_length)
  have hn : IntKind.i64.wrap ((xs.length : Int) - 1) = (xs.length : Int) - 1 := by rw [IntKind.wrap_i64]; omega
  clear hc hw
  go_enter Try.func46, Try.ntmps46
  go_wp2_with fail
  go_loopw [3, 4] (fun S c wr => ∃ (k : Nat) (US : Nat → Value) (zs : List (List Int)), k ≤ xs.length ∧ c = .int .i64 ((k : Int) - 1) ∧ Hid (LSt 0 0 (formF (xs.drop k)) w S US zs wr)) (fun _ c _ => (intOf c + 1).toNat)
  case atStart => exact ⟨xs.length, _, _, Nat.le_refl _, rfl, Lib.hid (by rw [EN.out]; exact S0.out)⟩
  case round =>
    clear S0
    obtain ⟨k, US, zs, hk, rfl, hS⟩ := hrel
    by_cases hk0 : 0 < k
    · obtain ⟨i, rfl⟩ : ∃ i, k = i + 1 := ⟨k - 1, by omega⟩
      obtain ⟨b, off, rfl, hcell⟩ := HC.out.resolve_left (by omega)
      have hci := hcell i (by omega)
      have D := HX.out i (by omega)
      have LD := HW.out i
      rw [D] at LD
      obtain ⟨x, hx⟩ : ∃ x, xs[i]?.getD 0 = x := ⟨_, rfl⟩
      simp only [hx] at hci
      rw [hx] at D LD
      obtain ⟨L1, L2, L3, L4⟩ := LD.tail
      have c1 : wr.cell? ⟨b, off + i, none⟩ = some (.int .i64 x) := (hS.out.bel.cell (p := ⟨b, off + i, none⟩) (World.block_lt_of_cell? w _ hci)).trans hci
      have FO := formF_ok _ L1
      have hz : ∀ z ∈ zs, isAdm z ∧ z.sum = (xs.drop (i + 1)).sum := fun z hz => FO z (par_mem _ _ ((hS.out.mem z).1 hz))
      have C := Lib.hid (left_any 1700 x _ zs.length (rowsOf zs) wr (by omega) (Fam.rdr hS.out.fam) (adm_count zs hS.out.asc.nodup fun z h => ⟨(hz z h).1, by rw [(hz z h).2]; omega⟩) (fun j hj => by
        unfold rowsOf
        rw [List.getElem?_eq_getElem hj]
        have h1 := hz _ (List.getElem_mem hj)
        exact ⟨h1.1, by simp only [Option.getD_some]; rw [h1.2]; exact L3, mu_lt (by omega) (by simp only [Option.getD_some]; rw [h1.2]; exact L4) (by simp only [Option.getD_some]; rw [h1.2]; exact L3)⟩))
      rw [rowsL_of] at C
      have DH := Lib.hid D
      have hi1 : ((i + 1 : Nat) : Int) - 1 = (i : Int) := by omega
      have hil : (i : Int) < (xs.length : Int) := by omega
      rw [hi1]
      clear hcell hci D LD L1 L2 L3 L4 FO hz hx hi1
      go_wp2_with fail
      refine C.out.mono ?_
      rintro e w2 ⟨U, US2, zs2, rfl, f2, s2, a2, m2, b2⟩
      have hb : w.heap.size ≤ wr.heap.size := hS.out.bel.size
      have S2 : Hid (LSt 0 0 (formF (xs.drop i)) w U US2 zs2 w2) := Lib.hid ⟨Fam.base f2 hb, s2, a2, fun y => by
        rw [m2, DH.out]
        exact par_flatMap _ _ _ _ fun z => by rw [par_nodup zs hS.out.asc.nodup, hS.out.mem], hS.out.bel.trans (b2.mono hb)⟩
      clear f2 s2 a2 m2 b2 C
      go_wp2_with fail
      go_roundw
      case rel => exact ⟨i, US2, zs2, by omega, by go_num, S2⟩
      case measure => simp [intOf]
    · obtain rfl : k = 0 := by omega
      rw [E0.out] at hS
      go_wp2_with fail
      go_ret
      exact ⟨_, US, zs, rfl, hS.out⟩

theorem LSt.ok0 {T : List (List Int)} {w wr : World} {S : Value} {US : Nat → Value} {zs : List (List Int)} (h : LSt 0 0 T w S US zs wr) (hT : ∀ x ∈ T, isAdm x ∧ x.sum ≤ 40) : zs.length ≤ 6000000000 ∧ ∀ j, j < zs.length → (rowsOf zs j).length ≤ 6 := h.ok hT
/-! ### The walk of l03Reduce -/
theorem allForm_ok (L : List (List Int)) (h : ∀ x ∈ L, LW x) : ∀ z ∈ L.flatMap formF, isAdm z ∧ z.sum ≤ 40 := fun z hz => by
  obtain ⟨x, hx, hz⟩ := List.mem_flatMap.1 hz
  have h1 := formF_ok x (h x hx) z hz
  have h2 := (h x hx).2
  exact ⟨h1.1, by omega⟩
theorem l03Reduce_any (V : Value) (m : Nat) (X : Nat → List Int) (w : World) (h : RdSS w V m X) (hX : ∀ i, i < m → LW (X i)) :
    Calls Try.prog 26 #[V] w (FormPost ((rowsL X m).flatMap formF) w) := by
  obtain ⟨⟨a, cap, rfl⟩, hsm, VS, hc, hr⟩ := h
  unfold maxLen at hsm
  have HC := Lib.hid hc
  have HR := Lib.hid hr
  have HX := Lib.hid hX
  have HTT : Hid (∀ k, k ≤ m → ∀ x ∈ (rowsL X k).flatMap formF, isAdm x ∧ x.sum ≤ 40) := Lib.hid fun k hk => allForm_ok _ (fun y hy => by obtain ⟨j, hj, rfl⟩ := mem_rowsL hy; exact hX j (by omega))
  have S0 : Hid (LSt 0 0 ((rowsL X 0).flatMap formF) w (.slice (some ⟨w.heap.size, 0, none⟩) 0 0) (fun _ => undef) [] (w.alloc (.cells #[] 46))) := Lib.hid
    ⟨⟨World.ownsRow_made w #[] 0 (Nat.le_refl _) (Nat.zero_le _) (by simp), fun i hi => absurd hi (Nat.not_lt_zero _)⟩, fun i j hi => absurd hi (Nat.not_lt_zero _), List.Pairwise.nil, fun x => by simp [rowsL, par], (Below.refl _ w).alloc (Nat.le_refl _) _⟩
  clear hc hr hX
  go_enter Try.func26, Try.ntmps26
  go_wp2_with fail
  go_loopw [3, 4] (fun S c wr => ∃ (k : Nat) (US : Nat → Value) (zs : List (List Int)), k ≤ m ∧ c = .int .i64 k ∧ Hid (LSt 0 0 ((rowsL X k).flatMap formF) w S US zs wr)) (fun _ c _ => m - (intOf c).toNat)
  case atStart => exact ⟨0, _, [], Nat.zero_le _, rfl, S0⟩
  case round =>
    clear S0
    obtain ⟨k, US, zs, hk, rfl, hS⟩ := hrel
    rename Value => u3
    by_cases hlt : k < m
    · have hlt' : (k : Int) < (m : Int) := by omega
      obtain ⟨b, off, ⟨cap', e⟩, hcell⟩ := HC.out.resolve_left (by omega)
      cases e
      obtain ⟨vk, hvk⟩ : ∃ v, VS k = v := ⟨_, rfl⟩
      have c1 : wr.cell? ⟨b, off + k, none⟩ = some vk := by rw [← hvk]; exact (hS.out.bel.cell (p := ⟨b, off + k, none⟩) (World.block_lt_of_cell? w _ (hcell k hlt))).trans (hcell k hlt)
      have RK := (HR.out k hlt).below hS.out.bel
      rw [hvk] at RK
      have C := Lib.hid (l03Form_any vk (X k) wr RK (HX.out k hlt))
      have FK := Lib.hid (formF_ok _ (HX.out k hlt))
      have H40 := Lib.hid (HX.out k hlt).2
      have NX : Hid ((rowsL X (k + 1)).flatMap formF = (rowsL X k).flatMap formF ++ formF (X k)) := Lib.hid (by rw [rowsL_succ, List.flatMap_append, List.flatMap_cons, List.flatMap_nil, List.append_nil])
      obtain ⟨hzl, hzr⟩ := hS.out.ok0 (HTT.out k (by omega))
      clear hcell RK hvk
      go_wp2_with fail
      refine C.out.mono ?_
      rintro e w2 ⟨U2, US2, zs2, rfl, s2⟩
      have S2 := Lib.hid s2
      have S3 := Lib.hid (hS.out.up s2.bel)
      have Z2 : Hid (∀ z ∈ zs2, isAdm z ∧ z.sum ≤ 40) := Lib.hid fun z hz => by have h1 := FK.out z (par_mem _ _ ((s2.mem z).1 hz)); have := H40.out; exact ⟨h1.1, by omega⟩
      obtain ⟨hzl2, hzr2⟩ := s2.ok0 (fun z hz => by have h1 := FK.out z hz; have := H40.out; exact ⟨h1.1, by omega⟩)
      have SM := Lib.hid (l01Sum_any _ U2 zs.length zs2.length (rowsOf zs) (rowsOf zs2) US US2 w.heap.size wr.heap.size w2 S3.out.fam s2.fam (by omega) (by omega) (fun i hi => by have := hzr i hi; omega) (fun i hi => by have := hzr2 i hi; omega))
      rw [rowsL_of, rowsL_of] at SM
      clear s2 C
      go_wp2_with fail
      refine SM.out.mono ?_
      rintro e w4 ⟨V4, VS4, rfl, f4, s4, b4⟩
      have S4 := Lib.hid (S3.out.add S2.out.asc S2.out.mem (Fam.base f4 S3.out.bel.size) s4 (S3.out.bel.trans (b4.mono S3.out.bel.size)))
      clear f4 s4 SM
      go_wp2_with fail
      go_roundw
      case rel => exact ⟨k + 1, VS4, _, by omega, by go_num, Lib.hid (by rw [NX.out]; exact S4.out)⟩
      case measure => simp [intOf]; omega
    · obtain rfl : k = m := by omega
      go_wp2_with fail
      go_ret
      exact ⟨_, US, zs, rfl, hS.out⟩
end Go.Proofs.Ytldlpeohdindaaa
end
section
namespace Go.Proofs.Ytldlpeohdindaaa
open Go.RowKit
set_option linter.unusedVariables false
set_option maxRecDepth 100000

/-- All words of the first list followed by words of the second. -/
def jn (A B : List (List Int)) : List (List Int) := A.flatMap fun x => B.map fun y => x ++ y
/-- The greatest power of 2 that is at most n. -/
def pw (n : Nat) : Nat := if n < 2 then 1 else if n < 4 then 2 else if n < 8 then 4 else if n < 16 then 8 else 16
def jsp (b a : Int) : List Int := (js b a).filter fun j => decide (0 < j)
def genT : Nat → Nat → List (List Int)
  | 0, _ => []
  | f + 1, n => if n = pw n then [[(n : Int)]] else jn (genT f (n - pw n)) [[(pw n : Int)]] ++ (jsp (pw n) ((n - pw n : Nat) : Int)).flatMap fun j => jn (genT f (n - j.toNat)) (genT f j.toNat)
/-- The generator form, with repetitions. -/
def gen (n : Nat) : List (List Int) := genT 20 n

theorem gen_facts : ∀ n, n < 21 → 1 ≤ n → (gen n).length ≤ 5 ∧ ∀ x ∈ gen n, x.length ≤ 6 ∧ ∀ z ∈ x, 1 ≤ z ∧ z ≤ 20 := of_decide_eq_true (by kernel_rfl)
theorem gen_one : ∀ n, n < 21 → 1 ≤ n → n = pw n → gen n = [[(n : Int)]] := of_decide_eq_true (by kernel_rfl)
theorem gen_rec : ∀ n, n < 21 → 1 ≤ n → n ≠ pw n → gen n = jn (gen (n - pw n)) [[(pw n : Int)]] ++ (jsp (pw n) ((n - pw n : Nat) : Int)).flatMap fun j => jn (gen (n - j.toNat)) (gen j.toNat) := of_decide_eq_true (by kernel_rfl)
theorem pw_lt {n : Nat} (h1 : 1 ≤ n) (h2 : n ≤ 20) : 1 ≤ pw n ∧ pw n ≤ n ∧ n < 2 * pw n := by
  unfold pw
  repeat' split
  all_goals omega

theorem pw_16 (n : Nat) : pw n ≤ 16 := by
  unfold pw
  repeat' split
  all_goals omega

theorem par_congr {α β : Type} {f g : α → List β} (h : ∀ x y, par (f x) y ↔ par (g x) y) (y : β) : ∀ S : List α, par (S.flatMap f) y ↔ par (S.flatMap g) y
  | [] => Iff.rfl
  | x :: S => by rw [List.flatMap_cons, List.flatMap_cons, par_append, par_append, h, par_congr h y S]
theorem par_map1 {α β : Type} (f : α → β) (S T : List α) (h : ∀ y, par S y ↔ par T y) (y : β) : par (S.map f) y ↔ par (T.map f) y := by
  have e : ∀ U : List α, U.map f = U.flatMap fun x => [f x] := fun U => by induction U with | nil => rfl | cons a U ih => rw [List.map_cons, List.flatMap_cons, ih]; rfl
  rw [e, e]
  exact par_flatMap _ _ _ _ h
theorem par_jn {A A' B B' : List (List Int)} (h1 : ∀ y, par A y ↔ par A' y) (h2 : ∀ y, par B y ↔ par B' y) (y : List Int) : par (jn A B) y ↔ par (jn A' B') y := by
  unfold jn
  rw [par_flatMap _ _ _ _ h1]
  exact par_congr (fun x z => par_map1 _ _ _ h2 z) y A'
theorem jn_snoc (A B : List (List Int)) (x : List Int) : jn (A ++ [x]) B = jn A B ++ B.map fun y => x ++ y := by
  unfold jn
  rw [List.flatMap_append, List.flatMap_cons, List.flatMap_nil, List.append_nil]
end Go.Proofs.Ytldlpeohdindaaa
end
section
namespace Go.Proofs.Ytldlpeohdindaaa
open Go.RowKit
set_option linter.unusedVariables false
set_option maxRecDepth 100000

/-- append of rows of numbers in a region that draws its order. -/
theorem step_ints {ops : Array Oper} {o : Oper} {a : Act} {w : World} {K : Act → World → Prop} {Q : Exit → Act → World → Prop} {E : Prop} (hgd : o.guard = none) (s x : Operand) (ho : o.op = .call { callee := .builtin .append, args := #[s, x], argTypes := #[46, 46] })
    (B n : Nat) (v : Value) (xs : List Value) (hs : a.eval s = v) (hown : w.ownsRow B 2 1 v n xs) (ap : Option Addr) (m c : Nat) (news : List Value) (hx : a.eval x = .slice ap m c)
    (hsrc : (ap = none ∧ m = 0 ∧ c = 0) ∨ ∃ ad, ap = some ad ∧ ∀ j u, news[j]? = some u → w.cell? (ad.add j) = some u) (hl : news.length = m) (h1 : ∀ u ∈ news, u.oneCell' = true) (hn : n + m ≤ 400000000000) (hB : B ≤ w.heap.size)
    (h : ∀ v' w', w'.ownsRow B 2 1 v' (n + m) (xs ++ news) → w.grownBy w' v.ownBlock → K (a.put o.dst v') w') :
    if Region.wanted o (yielded ops a.tmps) = true then Oper.wp Try.prog o a w K Q else E := by
  have hw : Region.wanted o (yielded ops a.tmps) = true := by simp [Region.wanted, hgd]
  rw [if_pos hw]
  obtain ⟨i0, hi, hz0, hz1, hz2⟩ := info_parts Try.info2
  rcases hsrc with ⟨rfl, rfl, rfl⟩ | ⟨ad, rfl, hc⟩
  · have hnews : news = [] := List.eq_nil_of_length_eq_zero hl
    subst hnews
    have hrun := run_append_owned_none (P := Try.prog) (w := w) B 46 o.type 2 i0 1 Try.underlying46 hi v n xs hown
    unfold Oper.wp
    simp [execOp, ho, resolve, invoke, builtin, hs, hx, hrun, Result.andThen]
    refine h v w (by simpa using hown) (World.grownBy.refl w _)
  · exact wp_append_own w s x 46 ho B 2 i0 (.int .i64 0) 1 8 Try.underlying46 hi hz0 hz1 hz2 rfl (by decide) v n xs hs hown ad m c news hx (by omega) hc h1 (by unfold maxLen; omega) (by omega) hB
      (fun v' w' h2 h3 _ => h v' w' h2 h3)

theorem RdR.cellAt {w : World} {V : Value} {A : List (List Int)} (h : RdR w V A.length (rowsOf A)) {i : Nat} (hi : i < A.length) :
    ∃ b off cap au cu, V = .slice (some ⟨b, off, none⟩) A.length cap ∧ w.cell? ⟨b, off + i, none⟩ = some (.slice au (rowsOf A i).length cu) ∧ RdN w (.slice au (rowsOf A i).length cu) (rowsOf A i) := by
  obtain ⟨a, cap, rfl, hm, VS, hc, hr⟩ := h
  obtain ⟨b, off, rfl, hc2⟩ := hc.resolve_left (by omega)
  have h1 := hc2 i hi
  have h2 := hr i hi
  obtain ⟨au, cu, e, _⟩ := id h2
  rw [e] at h1 h2
  exact ⟨b, off, cap, au, cu, rfl, h1, h2⟩
theorem one_ints (y : List Int) : ∀ u ∈ y.map (Value.int .i64), u.oneCell' = true := fun u hu => by
  obtain ⟨z, _, rfl⟩ := List.mem_map.1 hu
  rfl

theorem putL_len (L : List (List Int)) (x : List Int) (h : Asc L) : (putL L x).length ≤ L.length + 1 := by
  obtain ⟨h1, h2⟩ := putL_spec L x h
  have := nodup_len (putL L x) (L ++ [x]) h1.nodup fun z hz => List.mem_append.2 ((h2 z).1 hz |>.elim (fun h => .inl h.1) fun h => .inr (List.mem_singleton.2 h.2))
  rwa [List.length_append, List.length_singleton] at this

set_option maxHeartbeats 2000000 in
theorem l03Join_any (va vb : Value) (A C : List (List Int)) (w : World) (ha : RdR w va A.length (rowsOf A)) (hb : RdR w vb C.length (rowsOf C)) (hA : A.length ≤ 100) (hC : C.length ≤ 100) (la : ∀ i, (rowsOf A i).length ≤ 100) (lc : ∀ i, (rowsOf C i).length ≤ 100) :
    Calls Try.prog 33 #[va, vb] w (FormPost (jn A C) w) := by
  have S0 : Hid (LSt 0 0 (jn (A.take 0) C) w (.slice (some ⟨w.heap.size, 0, none⟩) 0 0) (fun _ => undef) [] (w.alloc (.cells #[] 46))) := Lib.hid
    ⟨⟨World.ownsRow_made w #[] 0 (Nat.le_refl _) (Nat.zero_le _) (by simp), fun i hi => absurd hi (Nat.not_lt_zero _)⟩, fun i j hi => absurd hi (Nat.not_lt_zero _), List.Pairwise.nil, fun x => by simp [jn, par], (Below.refl _ w).alloc (Nat.le_refl _) _⟩
  have HA := Lib.hid ha
  have HB := Lib.hid hb
  have LA := Lib.hid la
  have LC := Lib.hid lc
  obtain ⟨aa, ca, rfl, _, _⟩ := id ha
  obtain ⟨ab, cb, rfl, _, _⟩ := id hb
  clear ha hb la lc
  go_enter Try.func33, Try.ntmps33
  go_wp2_with fail
  go_loopw [5, 6] (fun S c wr => ∃ (i : Nat) (US : Nat → Value) (zs : List (List Int)), i ≤ A.length ∧ c = .int .i64 i ∧ Hid (zs.length ≤ i * 100) ∧ Hid (LSt 0 0 (jn (A.take i) C) w S US zs wr)) (fun _ c _ => A.length - (intOf c).toNat)
  case atStart => exact ⟨0, _, [], Nat.zero_le _, rfl, Lib.hid (Nat.zero_le _), S0⟩
  case round =>
    clear S0
    obtain ⟨i, US, zs, hi, rfl, hz, hS⟩ := hrel
    by_cases hlt : i < A.length
    · have hlt' : (i : Int) < (A.length : Int) := by omega
      obtain ⟨x, hx⟩ : ∃ x, rowsOf A i = x := ⟨_, rfl⟩
      have NX : Hid (jn (A.take (i + 1)) C = jn (A.take i) C ++ C.map fun y => x ++ y) := Lib.hid (by rw [List.take_add_one, List.getElem?_eq_getElem hlt, ← hx]; unfold rowsOf; rw [List.getElem?_eq_getElem hlt]; exact jn_snoc _ _ _)
      have ZL : zs.length + 100 ≤ (i + 1) * 100 := by have := hz.out; rw [Nat.succ_mul]; omega
      have ZA : zs.length ≤ 10000 := by have := hz.out; omega
      have S1 : Hid (LSt 0 0 (jn (A.take i) C ++ (C.take 0).map fun y => x ++ y) w u5 US zs wr) := Lib.hid (by simpa using hS.out)
      have Z0 := hz.out
      clear hz hS
      go_wp2_with fail
      go_loopw [5, 7] (fun S2 c wq => ∃ (k : Nat) (US2 : Nat → Value) (zs2 : List (List Int)), k ≤ C.length ∧ c = .int .i64 k ∧ zs2.length ≤ i * 100 + k ∧ Hid (LSt 0 0 (jn (A.take i) C ++ (C.take k).map fun y => x ++ y) w S2 US2 zs2 wq)) (fun _ c _ => C.length - (intOf c).toNat)
      case atStart => exact ⟨0, US, zs, Nat.zero_le _, rfl, by omega, S1⟩
      case round =>
        clear S1
        rename World => w1
        obtain ⟨k, US2, zs2, hk, rfl, hz2, hS2⟩ := hrel
        by_cases hlk : k < C.length
        · have hlk' : (k : Int) < (C.length : Int) := by omega
          obtain ⟨ba, oa, ca', au, cu, e1, c1, r1⟩ := (HA.out.below hS2.out.bel).cellAt hlt
          cases e1
          obtain ⟨bb, ob, cb', bu, du, e2, c2, r2⟩ := (HB.out.below hS2.out.bel).cellAt hlk
          cases e2
          obtain ⟨y, hy⟩ : ∃ y, rowsOf C k = y := ⟨_, rfl⟩
          have NY : Hid (jn (A.take i) C ++ (C.take (k + 1)).map (fun y => x ++ y) = (jn (A.take i) C ++ (C.take k).map fun y => x ++ y) ++ [x ++ y]) := Lib.hid (by rw [List.take_add_one, List.getElem?_eq_getElem hlk, List.map_append, List.append_assoc, ← hy]; unfold rowsOf; rw [List.getElem?_eq_getElem hlk]; rfl)
          have PL : (putL zs2 (x ++ y)).length ≤ zs2.length + 1 := putL_len _ _ hS2.out.asc
          have lx := LA.out i
          have ly := LC.out k
          rw [hx] at c1 r1 lx
          rw [hy] at c2 r2 ly
          have R1 := Lib.hid r1
          have R2 := Lib.hid r2
          have OWN := Lib.hid (own_rdn _ x w1.drew (r1.below (Below.refl _ _).drew) (by omega))
          have BD : Hid (Below w1.heap.size w1 w1.drew) := Lib.hid (Below.refl _ _).drew
          have HS2 := Lib.hid hS2.out
          have hzs : zs2.length ≤ 100000 := by omega
          clear r1 r2 hy hS2
          go_wp2_with fail
          go_region_law (first
            | (go_simp; go_at_call 60; refine OWN.out.mono ?_; rintro e w7 ⟨u, rfl, hu, hb7⟩; obtain ⟨uu, uc, rfl, _⟩ := own_len hu; have B7 := Lib.hid (BD.out.trans hb7); have HU := Lib.hid hu; have cb7 := (B7.out.cell (p := ⟨bb, ob + k, none⟩) (World.block_lt_of_cell? w1 _ c2)).trans c2; have SRC := Lib.hid (RdN.src R2.out B7.out); clear hu hb7)
            | (refine step_ints (by rfl) _ _ (by rfl) w1.drew.heap.size x.length _ _ (by rfl) HU.out _ y.length _ (y.map (Value.int .i64)) (by rfl) SRC.out (by simp) (one_ints y) (by omega) (by have := B7.out.size; exact this) ?_; intro v8 w8 ho8 hg8; have HV8 : Hid (w8.ownsRow w1.drew.heap.size 2 1 v8 (x ++ y).length ((x ++ y).map (Value.int .i64))) := Lib.hid (by simpa using ho8); have B8 := Lib.hid (B7.out.grown hg8 B7.out.size (fun q hq => (HU.out.lt q hq).1)); have S8 := Lib.hid (HS2.out.up B8.out); have PUT := Lib.hid (l01Put_any _ v8 US2 zs2 (x ++ y) w.heap.size w1.drew.heap.size w8 S8.out.fam S8.out.sep HV8.out (by rw [List.length_append]; omega) S8.out.bel.size (by omega)); clear ho8 hg8)
            | (go_simp; go_at_call 59; refine PUT.out.mono ?_; rintro e w9 ⟨V9, VS9, rfl, f9, s9, b9⟩; have S9 := Lib.hid (S8.out.put f9 s9 (S8.out.bel.trans (b9.mono S8.out.bel.size))); clear f9 s9 b9))
          all_goals
            go_wp2_with fail
            go_roundw
            case rel => exact ⟨k + 1, VS9, putL zs2 (x ++ y), by omega, by go_num, by omega, Lib.hid (by rw [NY.out]; exact S9.out)⟩
            case measure => simp [intOf]; omega
        · obtain rfl : k = C.length := by omega
          rw [List.take_length, ← NX.out] at hS2
          go_wp2_with fail
          go_roundw
          case rel => exact ⟨i + 1, US2, zs2, by omega, by go_num, Lib.hid (by omega), hS2⟩
          case measure => simp [intOf]; omega
    · obtain rfl : i = A.length := by omega
      rw [List.take_length] at hS
      go_wp2_with fail
      go_ret
      exact ⟨_, US, zs, rfl, hS.out⟩
end Go.Proofs.Ytldlpeohdindaaa
end
