/-
  Joined: WPutB.
-/
import Derived.Test.YtnfhfilconcajaaZtTotalSquare17
import Derived.Deep.AppendLies
section
namespace Go.Proofs.Ytnfhfilconcajaa
open Go.RowKit
set_option linter.unusedVariables false
set_option maxRecDepth 100000

/-- The heads that are kept. -/
def hd1 (VS : Nat → Value) (z : Nat) : List Value := (List.range z).map VS
def hd2 (VS : Nat → Value) (z n : Nat) : List Value := (List.range n).map fun i => VS (z + i)
theorem hd1_len (VS : Nat → Value) (z : Nat) : (hd1 VS z).length = z := by simp [hd1]
theorem hd2_len (VS : Nat → Value) (z n : Nat) : (hd2 VS z n).length = n := by simp [hd2]

/-- With one list more, or one less. -/
def insV (VS : Nat → Value) (z : Nat) (u : Value) : Nat → Value := fun i => if i < z then VS i else if i = z then u else VS (i - 1)
def delV (VS : Nat → Value) (z : Nat) : Nat → Value := fun i => if i < z then VS i else VS (i + 1)
def insL (L : List (List Int)) (z : Nat) (x : List Int) : List (List Int) := L.take z ++ x :: L.drop z
def delL (L : List (List Int)) (z : Nat) : List (List Int) := L.take z ++ L.drop (z + 1)
theorem insL_len (L : List (List Int)) (z : Nat) (x : List Int) (h : z ≤ L.length) : (insL L z x).length = L.length + 1 := by simp [insL]; omega
theorem delL_len (L : List (List Int)) (z : Nat) (h : z < L.length) : (delL L z).length = L.length - 1 := by simp [delL]; omega
theorem insL_at (L : List (List Int)) (z : Nat) (x : List Int) (h : z ≤ L.length) (i : Nat) : rowsOf (insL L z x) i = if i < z then rowsOf L i else if i = z then x else rowsOf L (i - 1) := by
  unfold rowsOf insL
  have hl : (L.take z).length = z := by rw [List.length_take]; omega
  by_cases h1 : i < z
  · rw [if_pos h1, List.getElem?_append_left (by omega), List.getElem?_take, if_pos h1]
  · rw [if_neg h1, List.getElem?_append_right (by omega), hl]
    by_cases h2 : i = z
    · subst h2; simp
    · rw [if_neg h2]
      obtain ⟨k, hk⟩ : ∃ k, i - z = k + 1 := ⟨i - z - 1, by omega⟩
      rw [hk, List.getElem?_cons_succ, List.getElem?_drop, show z + k = i - 1 by omega]
theorem delL_at (L : List (List Int)) (z : Nat) (h : z < L.length) (i : Nat) : rowsOf (delL L z) i = if i < z then rowsOf L i else rowsOf L (i + 1) := by
  unfold rowsOf delL
  have hl : (L.take z).length = z := by rw [List.length_take]; omega
  by_cases h1 : i < z
  · rw [if_pos h1, List.getElem?_append_left (by omega), List.getElem?_take, if_pos h1]
  · rw [if_neg h1, List.getElem?_append_right (by omega), hl, List.getElem?_drop, show z + 1 + (i - z) = i + 1 by omega]
theorem ins_heads (VS : Nat → Value) (z m : Nat) (u : Value) (h : z ≤ m) : hd1 VS z ++ ([u] ++ hd2 VS z (m - z)) = (List.range (m + 1)).map (insV VS z u) := by
  apply List.ext_getElem
  · simp [hd1, hd2]; omega
  · intro i h1 h2
    simp only [List.length_map, List.length_range] at h2
    simp only [List.getElem_map, List.getElem_range, insV]
    by_cases h3 : i < z
    · rw [if_pos h3, List.getElem_append_left (by rw [hd1_len]; exact h3)]
      simp [hd1]
    · rw [if_neg h3, List.getElem_append_right (by rw [hd1_len]; omega)]
      by_cases h4 : i = z
      · subst h4; simp [hd1_len]
      · rw [if_neg h4]
        obtain ⟨k, hk⟩ : ∃ k, i - z = k + 1 := ⟨i - z - 1, by omega⟩
        simp only [hd1_len, hk, List.singleton_append, List.getElem_cons_succ, hd2, List.getElem_map, List.getElem_range]
        rw [show z + k = i - 1 by omega]
theorem del_heads (VS : Nat → Value) (z m : Nat) (h : z < m) : hd1 VS z ++ hd2 VS (z + 1) (m - (z + 1)) = (List.range (m - 1)).map (delV VS z) := by
  apply List.ext_getElem
  · simp [hd1, hd2]; omega
  · intro i h1 h2
    simp only [List.length_map, List.length_range] at h2
    simp only [List.getElem_map, List.getElem_range, delV]
    by_cases h3 : i < z
    · rw [if_pos h3, List.getElem_append_left (by rw [hd1_len]; exact h3)]
      simp [hd1]
    · rw [if_neg h3, List.getElem_append_right (by rw [hd1_len]; omega)]
      simp only [hd1_len, hd2, List.getElem_map, List.getElem_range]
      rw [show z + 1 + (i - z) = i + 1 by omega]

theorem ins_fam {w w7 w' : World} {B C g cap : Nat} {V' u : Value} {VS : Nat → Value} {L : List (List Int)} {x : List Int} {z : Nat} (hF : FamL w B (.slice (some ⟨g, 0, none⟩) L.length cap) VS L) (hS : Sep L.length VS) (hz : z ≤ L.length)
    (hBw : B ≤ w.heap.size) (hC : w.heap.size ≤ C) (hu : w7.ownsRow C 2 1 u x.length (x.map (Value.int .i64))) (b7 : Below w7.heap.size w7 w') (bw : Below w.heap.size w w')
    (ho : w'.ownsRow w.heap.size 53 1 V' (L.length + 1) (hd1 VS z ++ ([u] ++ hd2 VS z (L.length - z)))) :
    FamL w' B V' (insV VS z u) (insL L z x) ∧ Sep (insL L z x).length (insV VS z u) := by
  rw [ins_heads VS z L.length u hz] at ho
  have hap : ∀ i, i < L.length → (VS i).ownBlock = none ∨ (VS i).ownBlock ≠ u.ownBlock := fun i hi => apart_new (hF.inn i hi) (fun k hk => Nat.le_trans hC (hu.lt k hk).1)
  refine ⟨⟨by rw [insL_len _ _ _ hz]; exact own_base ho hBw, fun i hi => ?_⟩, fun i j hi hj hij => ?_⟩
  · rw [insL_len _ _ _ hz] at hi
    rw [insL_at _ _ _ hz]
    unfold insV
    by_cases h1 : i < z
    · rw [if_pos h1, if_pos h1]; exact own_below (hF.inn i (by omega)) bw
    · rw [if_neg h1, if_neg h1]
      by_cases h2 : i = z
      · rw [if_pos h2, if_pos h2]; exact own_base (own_below hu b7) (by omega)
      · rw [if_neg h2, if_neg h2]; exact own_below (hF.inn (i - 1) (by omega)) bw
  · rw [insL_len _ _ _ hz] at hi hj
    unfold insV
    by_cases h1 : i < z
    · rw [if_pos h1]
      by_cases h3 : j < z
      · rw [if_pos h3]; exact hS i j (by omega) (by omega) hij
      · rw [if_neg h3]
        by_cases h4 : j = z
        · rw [if_pos h4]; exact hap i (by omega)
        · rw [if_neg h4]; exact hS i (j - 1) (by omega) (by omega) (by omega)
    · rw [if_neg h1]
      by_cases h2 : i = z
      · rw [if_pos h2]
        by_cases h3 : j < z
        · rw [if_pos h3]; exact apart_symm (hap j (by omega))
        · rw [if_neg h3, if_neg (by omega)]; exact apart_symm (hap (j - 1) (by omega))
      · rw [if_neg h2]
        by_cases h3 : j < z
        · rw [if_pos h3]; exact hS (i - 1) j (by omega) (by omega) (by omega)
        · rw [if_neg h3]
          by_cases h4 : j = z
          · rw [if_pos h4]; exact hap (i - 1) (by omega)
          · rw [if_neg h4]; exact hS (i - 1) (j - 1) (by omega) (by omega) (by omega)
theorem del_fam {w w' : World} {B g cap : Nat} {V' : Value} {VS : Nat → Value} {L : List (List Int)} {z : Nat} (hF : FamL w B (.slice (some ⟨g, 0, none⟩) L.length cap) VS L) (hS : Sep L.length VS) (hz : z < L.length)
    (hBw : B ≤ w.heap.size) (bw : Below w.heap.size w w') (ho : w'.ownsRow w.heap.size 53 1 V' (z + (L.length - (z + 1))) (hd1 VS z ++ hd2 VS (z + 1) (L.length - (z + 1)))) :
    FamL w' B V' (delV VS z) (delL L z) ∧ Sep (delL L z).length (delV VS z) := by
  rw [del_heads VS z L.length hz, show z + (L.length - (z + 1)) = L.length - 1 by omega] at ho
  refine ⟨⟨by rw [delL_len _ _ hz]; exact own_base ho hBw, fun i hi => ?_⟩, fun i j hi hj hij => ?_⟩
  · rw [delL_len _ _ hz] at hi
    rw [delL_at _ _ hz]
    unfold delV
    by_cases h1 : i < z
    · rw [if_pos h1, if_pos h1]; exact own_below (hF.inn i (by omega)) bw
    · rw [if_neg h1, if_neg h1]; exact own_below (hF.inn (i + 1) (by omega)) bw
  · rw [delL_len _ _ hz] at hi hj
    unfold delV
    by_cases h1 : i < z <;> by_cases h3 : j < z
    · rw [if_pos h1, if_pos h3]; exact hS i j (by omega) (by omega) hij
    · rw [if_pos h1, if_neg h3]; exact hS i (j + 1) (by omega) (by omega) (by omega)
    · rw [if_neg h1, if_pos h3]; exact hS (i + 1) j (by omega) (by omega) (by omega)
    · rw [if_neg h1, if_neg h3]; exact hS (i + 1) (j + 1) (by omega) (by omega) (by omega)

/-- The heads of a family as a source of an append. -/
theorem src_heads {w wx : World} {B g cap m : Nat} {VS : Nat → Value} {X : Nat → List Int} (hF : Fam w B (.slice (some ⟨g, 0, none⟩) m cap) m VS X) (b : Below w.heap.size w wx) (z k : Nat) (h : z + k ≤ m) :
    ∀ j u, (hd2 VS z k)[j]? = some u → wx.cell? ((⟨g, z, none⟩ : Addr).add j) = some u := by
  intro j u hu
  have hj : j < k := by have := (List.getElem?_eq_some_iff.1 hu).1; rw [hd2_len] at this; exact this
  rw [Addr.add_mid]
  obtain ⟨a', cap', e, _, hc⟩ := hF.head
  cases e
  obtain ⟨b', e2, hc⟩ := hc.resolve_left (by omega)
  cases e2
  have h1 := hc (z + j) (by omega)
  rw [(b.cell (p := ⟨g, z + j, none⟩) (World.block_lt_of_cell? w _ h1)).trans h1]
  simp [hd2, hj] at hu
  rw [hu]
theorem hd1_src {w wx : World} {B g cap m : Nat} {VS : Nat → Value} {X : Nat → List Int} (hF : Fam w B (.slice (some ⟨g, 0, none⟩) m cap) m VS X) (b : Below w.heap.size w wx) (z : Nat) (h : z ≤ m) :
    ∀ j u, (hd1 VS z)[j]? = some u → wx.cell? ((⟨g, 0, none⟩ : Addr).add j) = some u := by
  have := src_heads hF b 0 z (by omega)
  simpa [hd1, hd2] using this
theorem heads_one {w : World} {B g cap m : Nat} {VS : Nat → Value} {X : Nat → List Int} (hF : Fam w B (.slice (some ⟨g, 0, none⟩) m cap) m VS X) (z k : Nat) (h : z + k ≤ m) : ∀ u ∈ hd2 VS z k, u.oneCell' = true := by
  intro u hu
  obtain ⟨i, hi, rfl⟩ := List.mem_map.1 hu
  obtain ⟨a, c, e, _⟩ := own_len (hF.inn (z + i) (by have := List.mem_range.1 hi; omega))
  rw [e]; rfl
theorem hd1_one {w : World} {B g cap m : Nat} {VS : Nat → Value} {X : Nat → List Int} (hF : Fam w B (.slice (some ⟨g, 0, none⟩) m cap) m VS X) (z : Nat) (h : z ≤ m) : ∀ u ∈ hd1 VS z, u.oneCell' = true := by
  have := heads_one hF 0 z (by omega)
  simpa [hd1, hd2] using this

theorem src_cut {w wx : World} {B g cap m : Nat} {VS : Nat → Value} {X : Nat → List Int} (hF : Fam w B (.slice (some ⟨g, 0, none⟩) m cap) m VS X) (b : Below w.heap.size w wx) (z : Nat) (h : z ≤ m) (hc : m ≤ cap) :
    ∃ ad, (if cap = z then (some ⟨g, 0, none⟩ : Option Addr) else some ⟨g, z, none⟩) = some ad ∧ ∀ j u, (hd2 VS z (m - z))[j]? = some u → wx.cell? (ad.add j) = some u := by
  by_cases e : cap = z
  · rw [if_pos e]
    refine ⟨_, rfl, fun j u hu => ?_⟩
    have := (List.getElem?_eq_some_iff.1 hu).1
    rw [hd2_len] at this
    omega
  · rw [if_neg e]
    exact ⟨_, rfl, src_heads hF b z (m - z) (by omega)⟩

set_option maxHeartbeats 2000000 in
/-- The list is there: it is taken out. -/
theorem put_del (g cap : Nat) (v : Value) (VS : Nat → Value) (L : List (List Int)) (x : List Int) (B z : Nat) (w : World) (hF : FamL w B (.slice (some ⟨g, 0, none⟩) L.length cap) VS L) (hS : Sep L.length VS) (hv : RdL w v x)
    (hB : B ≤ w.heap.size) (hl : L.length ≤ 100000000000) (hz : z < L.length) (hlt : ∀ i, i < z → lexLt (rowsOf L i) x = true) (he : rowsOf L z = x) :
    Calls Try.prog 89 #[.slice (some ⟨g, 0, none⟩) L.length cap, v] w fun e w' => ∃ V' VS', e = .returned V' ∧ FamL w' B V' VS' (delL L z) ∧ Sep (delL L z).length VS' ∧ Below w.heap.size w w' := by
  obtain ⟨a0, cap0, e0, hm0, hc0⟩ := hF.head
  cases e0
  obtain ⟨g0, e1, hc0⟩ := hc0.resolve_left (by omega)
  cases e1
  have hcap : L.length ≤ cap := by
    rcases hF.out.2 with ⟨h, _⟩ | ⟨g1, cap1, cur, h, _, _, h1, _⟩
    · cases h
    · cases h; exact h1
  have HC := Lib.hid hc0
  have HF := Lib.hid hF
  have HS := Lib.hid hS
  have HV := Lib.hid hv
  have HLT := Lib.hid hlt
  have LS : Hid (∀ i, i < L.length → ∀ q, Calls Try.prog 83 #[VS i, v] (w.drewN q) fun e w' => e = .returned (.bool (lexLt (rowsOf L i) x)) ∧ ∃ p, w' = (w.drewN q).drewN p) := Lib.hid fun i hi q =>
    l01Less_any _ _ _ _ _ ((hF.rd i hi).drewN q) (hv.drewN q)
  have SM : Hid (∀ q, Calls Try.prog 104 #[VS z, v] (w.drewN q) fun e w' => e = .returned (.bool true) ∧ ∃ p, w' = (w.drewN q).drewN p) := Lib.hid fun q => by
    have := l01Same_any (VS z) v (rowsOf L z) x (w.drewN q) ((hF.rd z hz).drewN q) (hv.drewN q)
    rw [decide_eq_true he] at this
    exact this
  have ZF : Hid (lexLt (rowsOf L z) x = false) := Lib.hid (by rw [he]; exact lexLt_irrefl x)
  obtain ⟨m, hm⟩ : ∃ m, L.length = m := ⟨_, rfl⟩
  have HM := Lib.hid hm
  have ON1 := Lib.hid (hd1_one hF z (by omega))
  have ON2 := Lib.hid (heads_one hF (z + 1) (L.length - (z + 1)) (by omega))
  have hF0 : Hid (Fam w B (.slice (some ⟨g, 0, none⟩) m cap) m VS (rowsOf L)) := Lib.hid (by rw [← hm]; exact hF)
  rw [hm] at ON2
  clear hF hS hv hlt he hc0
  rw [hm] at hz hcap hl hm0 ⊢
  clear hm
  unfold maxLen at hm0
  go_enter Try.func89, Try.ntmps89
  go_wp2_with fail
  go_loopw [5] (fun c wr => ∃ k q : Nat, k ≤ z ∧ c = .int .i64 k ∧ Hid (wr = w.drewN q)) (fun c _ => m - (intOf c).toNat)
  case atStart => exact ⟨0, 0, Nat.zero_le _, rfl, Lib.hid rfl⟩
  case round =>
    obtain ⟨k, q, hk, rfl, hw⟩ := hrel
    have hkm : (k : Int) < (m : Int) := by omega
    have c1 : wr.cell? ⟨g, k, none⟩ = some (VS k) := by rw [hw.out]; exact HC.out k (by rw [HM.out]; omega)
    have E1 := Lib.hid (LS.out k (by rw [HM.out]; omega) q)
    rw [← hw.out] at E1
    by_cases hkz : k < z
    · have E1 := E1.out
      rw [HLT.out k hkz] at E1
      have E1 := Lib.hid E1
      generalize VS k = vk at c1 E1
      go_wp2_with fail
      refine E1.out.mono ?_
      rintro e w' ⟨rfl, p, rfl⟩
      go_wp2_with fail
      go_roundw
      case rel => exact ⟨k + 1, q + p, by omega, by go_num, Lib.hid (by rw [hw.out]; exact World.drewN_drewN ..)⟩
      case measure => simp [intOf]; omega
    · obtain rfl : k = z := by omega
      have E1 := E1.out
      rw [ZF.out] at E1
      have E1 := Lib.hid E1
      obtain ⟨vk, hvk⟩ : ∃ vk, VS k = vk := ⟨_, rfl⟩
      rw [hvk] at c1 E1 SM
      clear hvk
      go_wp2_with fail
      refine E1.out.mono ?_
      rintro e w' ⟨rfl, p, rfl⟩
      obtain rfl := hw.out
      rw [World.drewN_drewN]
      have c2 : (w.drewN (q + p)).cell? ⟨g, k, none⟩ = some vk := c1
      go_wp2_with fail
      refine (SM.out (q + p)).mono ?_
      rintro e w' ⟨rfl, p2, rfl⟩
      rw [World.drewN_drewN]
      clear E1 c1 c2 LS SM hw
      have BQ : Below w.heap.size w (w.drewN (q + p + p2)) := below_drewN (Below.refl _ _) _
      generalize w.drewN (q + p + p2) = wq at *
      have B0 : Hid (Below w.heap.size w (wq.drew.alloc (.cells #[] 53))) := Lib.hid (BQ.drew.alloc BQ.size _)
      have OW1 : Hid ((wq.drew.alloc (.cells #[] 53)).ownsRow w.heap.size 53 1 (.slice (some ⟨wq.heap.size, 0, none⟩) 0 0) 0 []) := Lib.hid (own_base (World.ownsRow_made wq.drew #[] 0 (Nat.le_refl _) (Nat.zero_le _) (by simp)) BQ.size)
      have SR1 := Lib.hid (hd1_src (hF0.out) B0.out k (by omega))
      have hk1 : (k : Int) ≤ (cap : Int) := by omega
      have hk2 : (k : Int) + 1 ≤ (m : Int) := by omega
      have hwr : IntKind.i64.wrap ((k : Int) + 1) = (k : Int) + 1 := by rw [IntKind.wrap_i64]; omega
      have hk3 : (m : Int) ≤ (cap : Int) := by omega
      go_wp2_with fail
      have hk0 : (0 : Int) ≤ (k : Int) + 1 := by omega
      have BG : Hid (∀ w1, (wq.drew.alloc (.cells #[] 53)).grownBy w1 (Value.slice (some ⟨wq.heap.size, 0, none⟩) 0 0).ownBlock → Below w.heap.size w w1) := Lib.hid fun w1 hg => B0.out.grown hg B0.out.size (fun q hq => by cases hq; exact BQ.size)
      go_region_law (first
        | (refine step_rows (by rfl) _ _ (by rfl) w.heap.size 0 (.slice (some ⟨wq.heap.size, 0, none⟩) 0 0) [] (by rfl) OW1.out (some ⟨g, 0, none⟩) k cap (hd1 VS k) (by rfl) (.inr ⟨_, rfl, SR1.out⟩) (hd1_len _ _) ON1.out (by omega) B0.out.size ?_; intro v1 w1 ho1 hg1; have Q1 : Hid (w1.ownsRow w.heap.size 53 1 v1 k (hd1 VS k)) := Lib.hid (by simpa using ho1); have G1 := Lib.hid (BG.out w1 hg1); clear ho1 hg1)
        | (refine step_rows (by rfl) _ _ (by rfl) w.heap.size k v1 (hd1 VS k) (by rfl) Q1.out _ (m - (k + 1)) (cap - (k + 1)) (hd2 VS (k + 1) (m - (k + 1))) (by rfl) (.inr (src_cut hF0.out G1.out (k + 1) (by omega) hcap)) (hd2_len _ _ _) ON2.out (by omega) G1.out.size ?_; intro v2 w2 ho2 hg2; have Q2 := Lib.hid ho2; have G2 := Lib.hid (G1.out.grown hg2 G1.out.size (fun q hq => (Q1.out.lt q hq).1)); clear ho2 hg2))
      go_wp2_with fail
      all_goals
        go_ret
        have FIN := del_fam (z := k) HF.out HS.out (by rw [HM.out]; exact hz) hB G2.out (by rw [HM.out]; exact Q2.out)
        exact ⟨_, rfl, _, FIN.1, FIN.2, G2.out⟩

theorem own_one (w : World) (u : Value) (e : TypeId) : (w.alloc (.cells #[u] e)).ownsRow w.heap.size e 1 (.slice (some ⟨w.heap.size, 0, none⟩) 1 1) 1 [u] :=
  ⟨rfl, .inr ⟨w.heap.size, 1, #[u], rfl, Nat.le_refl _, heap_alloc_new w _, Nat.le_refl _, by unfold maxLen; omega, rfl, rfl⟩⟩
theorem own_src {w : World} {B g n cap : Nat} {e : TypeId} {xs : List Value} (h : w.ownsRow B e 1 (.slice (some ⟨g, 0, none⟩) n cap) n xs) : ∀ j u, xs[j]? = some u → w.cell? ((⟨g, 0, none⟩ : Addr).add j) = some u := by
  intro j u hu
  have hj := (List.getElem?_eq_some_iff.1 hu).1
  have e1 := h.1
  rw [Addr.add_mid, Nat.zero_add, h.cellAt j (by omega)]
  exact hu

set_option maxHeartbeats 4000000 in
/-- The list is not there: it is put in. -/
theorem put_ins (g cap : Nat) (v : Value) (VS : Nat → Value) (L : List (List Int)) (x : List Int) (B B2 z : Nat) (w : World) (hF : FamL w B (.slice (some ⟨g, 0, none⟩) L.length cap) VS L) (hS : Sep L.length VS) (hv : w.ownsRow B2 2 1 v x.length (x.map (Value.int .i64)))
    (hx : x.length ≤ 1000000) (hB : B ≤ w.heap.size) (hl : L.length ≤ 100000000000) (hz : z ≤ L.length) (hlt : ∀ i, i < z → lexLt (rowsOf L i) x = true) (hnl : z < L.length → lexLt (rowsOf L z) x = false) (he : z < L.length → rowsOf L z ≠ x) :
    Calls Try.prog 89 #[.slice (some ⟨g, 0, none⟩) L.length cap, v] w fun e w' => ∃ V' VS', e = .returned V' ∧ FamL w' B V' VS' (insL L z x) ∧ Sep (insL L z x).length VS' ∧ Below w.heap.size w w' := by
  have hcap : L.length ≤ cap := by
    rcases hF.out.2 with ⟨h, _⟩ | ⟨g1, cap1, cur, h, _, _, h1, _⟩
    · cases h
    · cases h; exact h1
  have HC : Hid (∀ i, i < L.length → w.cell? ⟨g, i, none⟩ = some (VS i)) := Lib.hid fun i hi => by
    obtain ⟨a0, cap0, e0, hm0, hc0⟩ := hF.head
    cases e0
    obtain ⟨g0, e1, hc0⟩ := hc0.resolve_left (by omega)
    cases e1
    exact hc0 i hi
  have hr : RdL w v x := rd_of_own hv rfl
  have hm0 : L.length ≤ maxLen := by obtain ⟨_, _, e, h, _⟩ := hF.head; exact h
  have HF := Lib.hid hF
  have HS := Lib.hid hS
  have HV := Lib.hid hv
  have HLT := Lib.hid hlt
  have HNL := Lib.hid hnl
  have LS : Hid (∀ i, i < L.length → ∀ q, Calls Try.prog 83 #[VS i, v] (w.drewN q) fun e w' => e = .returned (.bool (lexLt (rowsOf L i) x)) ∧ ∃ p, w' = (w.drewN q).drewN p) := Lib.hid fun i hi q =>
    l01Less_any _ _ _ _ _ ((hF.rd i hi).drewN q) (hr.drewN q)
  have SM : Hid (z < L.length → ∀ q, Calls Try.prog 104 #[VS z, v] (w.drewN q) fun e w' => e = .returned (.bool false) ∧ ∃ p, w' = (w.drewN q).drewN p) := Lib.hid fun hz q => by
    have := l01Same_any (VS z) v (rowsOf L z) x (w.drewN q) ((hF.rd z hz).drewN q) (hr.drewN q)
    rw [decide_eq_false (he hz)] at this
    exact this
  have ON1 := Lib.hid (hd1_one hF z (by omega))
  have ON2 := Lib.hid (heads_one hF z (L.length - z) (by omega))
  obtain ⟨m, hm⟩ : ∃ m, L.length = m := ⟨_, rfl⟩
  have HM := Lib.hid hm
  have hF0 : Hid (Fam w B (.slice (some ⟨g, 0, none⟩) m cap) m VS (rowsOf L)) := Lib.hid (by rw [← hm]; exact hF)
  clear hF hS hv hlt he hr hnl
  rw [hm] at hz hcap hl hm0 ON2 LS SM HNL HC ⊢
  clear hm
  unfold maxLen at hm0
  go_enter Try.func89, Try.ntmps89
  go_wp2_with fail
  go_loopw [5] (fun c wr => ∃ k q : Nat, k ≤ z ∧ c = .int .i64 k ∧ Hid (wr = w.drewN q)) (fun c _ => m - (intOf c).toNat)
  case atStart => exact ⟨0, 0, Nat.zero_le _, rfl, Lib.hid rfl⟩
  case round =>
    obtain ⟨k, q, hk, rfl, hw⟩ := hrel
    by_cases hkz : k < z
    · have hkm : (k : Int) < (m : Int) := by omega
      have c1 : wr.cell? ⟨g, k, none⟩ = some (VS k) := by rw [hw.out]; exact HC.out k (by omega)
      have E1 := LS.out k (by omega) q
      rw [← hw.out, HLT.out k hkz] at E1
      have E1 := Lib.hid E1
      generalize VS k = vk at c1 E1
      go_wp2_with fail
      refine E1.out.mono ?_
      rintro e w' ⟨rfl, p, rfl⟩
      go_wp2_with fail
      go_roundw
      case rel => exact ⟨k + 1, q + p, by omega, by go_num, Lib.hid (by rw [hw.out]; exact World.drewN_drewN ..)⟩
      case measure => simp [intOf]; omega
    · obtain rfl : k = z := by omega
      by_cases hkm0 : k < m
      · have hkm : (k : Int) < (m : Int) := by omega
        have c1 : wr.cell? ⟨g, k, none⟩ = some (VS k) := by rw [hw.out]; exact HC.out k (by omega)
        have E1 := LS.out k (by omega) q
        rw [← hw.out, HNL.out hkm0] at E1
        have E1 := Lib.hid E1
        have SM1 := Lib.hid (SM.out hkm0)
        obtain ⟨vk, hvk⟩ : ∃ vk, VS k = vk := ⟨_, rfl⟩
        rw [hvk] at c1 E1 SM1
        clear hvk
        go_wp2_with fail
        refine E1.out.mono ?_
        rintro e w' ⟨rfl, p, rfl⟩
        obtain rfl := hw.out
        rw [World.drewN_drewN]
        have c2 : (w.drewN (q + p)).cell? ⟨g, k, none⟩ = some vk := c1
        go_wp2_with fail
        refine (SM1.out (q + p)).mono ?_
        rintro e w' ⟨rfl, p2, rfl⟩
        rw [World.drewN_drewN]
        clear E1 c1 c2 LS SM SM1 hw
        have BQ : Below w.heap.size w (w.drewN (q + p + p2)) := below_drewN (Below.refl _ _) _
        have OV := Lib.hid (own_below HV.out ((Below.refl _ w).trans (below_drewN (Below.refl _ _) _ : Below w.heap.size w (w.drewN (q + p + p2)))))
        generalize (w.drewN (q + p + p2)) = wq at *
        have OWN := Lib.hid (ownAny v x B2 wq.drew hx OV.out)
        have hk1 : (k : Int) ≤ (cap : Int) := by omega
        have hk2 : (0 : Int) ≤ (k : Int) := by omega
        have hk3 : (k : Int) ≤ (m : Int) := by omega
        have hk4 : (m : Int) ≤ (cap : Int) := by omega
        go_wp2_with fail
        go_region_law (first
          | (go_simp; go_at_call 84; refine OWN.out.mono ?_; rintro e w7 ⟨u, rfl, hu, hb7⟩; obtain ⟨ua, uc, rfl, _⟩ := own_len hu; have HU : Hid (w7.ownsRow wq.heap.size 2 1 (.slice ua x.length uc) x.length (x.map (Value.int .i64))) := Lib.hid hu; have B7 := Lib.hid (BQ.drew.trans (hb7.mono BQ.size)); have B8 := Lib.hid ((Below.refl w7.heap.size w7).alloc (Nat.le_refl _) (.cells #[.slice ua x.length uc] 53)); have OWS : Hid ((w7.alloc (.cells #[.slice ua x.length uc] 53)).ownsRow w7.heap.size 53 1 (.slice (some ⟨w7.heap.size, 0, none⟩) 1 1) 1 [.slice ua x.length uc]) := Lib.hid (own_one w7 _ _); have BW8 := Lib.hid (B7.out.trans (B8.out.mono B7.out.size)); clear hu hb7)
          | (refine step_rows (by rfl) _ _ (by rfl) w7.heap.size 1 (.slice (some ⟨w7.heap.size, 0, none⟩) 1 1) [.slice ua x.length uc] (by rfl) OWS.out _ (m - k) (cap - k) (hd2 VS k (m - k)) (by rfl) (.inr (src_cut hF0.out BW8.out k (by omega) hcap)) (hd2_len _ _ _) ON2.out (by omega) B8.out.size ?_; intro v9 w9 ho9 hg9; obtain ⟨g9, c9, rfl, _, _⟩ := ho9.form (by omega); have Q9 := Lib.hid ho9; have B9 := Lib.hid (B8.out.grown hg9 B8.out.size (fun q hq => by cases hq; exact Nat.le_refl _)); clear ho9 hg9))
        have AP10 : Hid ((Value.slice (some ⟨g9, 0, none⟩) (1 + (m - k)) c9).ownBlock = none ∨ (Value.slice (some ⟨g9, 0, none⟩) (1 + (m - k)) c9).ownBlock ≠ (Value.slice (some ⟨w9.heap.size, 0, none⟩) 0 0).ownBlock) := Lib.hid (.inr (by have := (Q9.out.lt g9 rfl).2; simp [Value.ownBlock]; omega))
        have B10 := Lib.hid (B9.out.alloc B9.out.size (.cells #[] 53))
        have OW10 : Hid ((w9.alloc (.cells #[] 53)).ownsRow w7.heap.size 53 1 (.slice (some ⟨w9.heap.size, 0, none⟩) 0 0) 0 []) := Lib.hid (own_base (World.ownsRow_made w9 #[] 0 (Nat.le_refl _) (Nat.zero_le _) (by simp)) B9.out.size)
        have BW10 := Lib.hid (B7.out.trans (B10.out.mono B7.out.size))
        have SR10 := Lib.hid (hd1_src hF0.out BW10.out k (by omega))
        have Q10 := Lib.hid (Q9.out.alloc (.cells #[] 53))
        have ONE9 : Hid (∀ u ∈ [Value.slice ua x.length uc] ++ hd2 VS k (m - k), u.oneCell' = true) := Lib.hid fun u hu => by
          rcases List.mem_append.1 hu with h | h
          · rw [List.mem_singleton.1 h]; rfl
          · exact ON2.out u h
        have hkI : (k : Int) ≤ (cap : Int) := by omega
        go_wp2_with (first
          | (at_builtin; refine wpList_rows _ rfl _ _ rfl w7.heap.size 0 (.slice (some ⟨w9.heap.size, 0, none⟩) 0 0) [] rfl OW10.out (some ⟨g, 0, none⟩) k cap (hd1 VS k) rfl (.inr ⟨_, rfl, SR10.out⟩) (hd1_len _ _) ON1.out (by omega) B10.out.size ?_; intro v11 w11 ho11 hg11; have Q11 : Hid (w11.ownsRow w7.heap.size 53 1 v11 k (hd1 VS k)) := Lib.hid (by simpa using ho11); have B11 := Lib.hid (B10.out.grown hg11 B10.out.size (fun q hq => by cases hq; exact B9.out.size)); have R11 := Lib.hid (Q10.out.kept hg11 AP10.out); clear ho11 hg11)
          | (at_builtin; refine wpList_rows _ rfl _ _ rfl w7.heap.size k v11 (hd1 VS k) rfl Q11.out (some ⟨g9, 0, none⟩) (1 + (m - k)) c9 ([.slice ua x.length uc] ++ hd2 VS k (m - k)) rfl (.inr ⟨_, rfl, own_src R11.out⟩) (by simp [hd2_len]; omega) ONE9.out (by omega) B11.out.size ?_; intro v12 w12 ho12 hg12; have Q12 := Lib.hid ho12; have B12 := Lib.hid (B11.out.grown hg12 B11.out.size (fun q hq => (Q11.out.lt q hq).1)); clear ho12 hg12))
        all_goals
          go_ret
          have BW12 := Lib.hid (B7.out.trans (B12.out.mono B7.out.size))
          have FIN := ins_fam (z := k) HF.out HS.out (by rw [HM.out]; omega) hB BQ.size HU.out B12.out BW12.out (own_base (by rw [HM.out, show m + 1 = k + (1 + (m - k)) by omega]; exact Q12.out) B7.out.size)
          exact ⟨_, rfl, _, FIN.1, FIN.2, BW12.out⟩
      · have hkm : ¬ (k : Int) < (m : Int) := by omega
        obtain rfl := hw.out
        clear hw LS SM
        have BQ : Below w.heap.size w (w.drewN q) := below_drewN (Below.refl _ _) _
        have OV := Lib.hid (own_below HV.out ((Below.refl _ w).trans (below_drewN (Below.refl _ _) _ : Below w.heap.size w (w.drewN q))))
        generalize (w.drewN q) = wq at *
        have OWN := Lib.hid (ownAny v x B2 wq.drew hx OV.out)
        have hk1 : (k : Int) ≤ (cap : Int) := by omega
        have hk2 : (0 : Int) ≤ (k : Int) := by omega
        have hk3 : (k : Int) ≤ (m : Int) := by omega
        have hk4 : (m : Int) ≤ (cap : Int) := by omega
        go_wp2_with fail
        go_region_law (first
          | (go_simp; go_at_call 84; refine OWN.out.mono ?_; rintro e w7 ⟨u, rfl, hu, hb7⟩; obtain ⟨ua, uc, rfl, _⟩ := own_len hu; have HU : Hid (w7.ownsRow wq.heap.size 2 1 (.slice ua x.length uc) x.length (x.map (Value.int .i64))) := Lib.hid hu; have B7 := Lib.hid (BQ.drew.trans (hb7.mono BQ.size)); have B8 := Lib.hid ((Below.refl w7.heap.size w7).alloc (Nat.le_refl _) (.cells #[.slice ua x.length uc] 53)); have OWS : Hid ((w7.alloc (.cells #[.slice ua x.length uc] 53)).ownsRow w7.heap.size 53 1 (.slice (some ⟨w7.heap.size, 0, none⟩) 1 1) 1 [.slice ua x.length uc]) := Lib.hid (own_one w7 _ _); have BW8 := Lib.hid (B7.out.trans (B8.out.mono B7.out.size)); clear hu hb7)
          | (refine step_rows (by rfl) _ _ (by rfl) w7.heap.size 1 (.slice (some ⟨w7.heap.size, 0, none⟩) 1 1) [.slice ua x.length uc] (by rfl) OWS.out _ (m - k) (cap - k) (hd2 VS k (m - k)) (by rfl) (.inr (src_cut hF0.out BW8.out k (by omega) hcap)) (hd2_len _ _ _) ON2.out (by omega) B8.out.size ?_; intro v9 w9 ho9 hg9; obtain ⟨g9, c9, rfl, _, _⟩ := ho9.form (by omega); have Q9 := Lib.hid ho9; have B9 := Lib.hid (B8.out.grown hg9 B8.out.size (fun q hq => by cases hq; exact Nat.le_refl _)); clear ho9 hg9))
        have AP10 : Hid ((Value.slice (some ⟨g9, 0, none⟩) (1 + (m - k)) c9).ownBlock = none ∨ (Value.slice (some ⟨g9, 0, none⟩) (1 + (m - k)) c9).ownBlock ≠ (Value.slice (some ⟨w9.heap.size, 0, none⟩) 0 0).ownBlock) := Lib.hid (.inr (by have := (Q9.out.lt g9 rfl).2; simp [Value.ownBlock]; omega))
        have B10 := Lib.hid (B9.out.alloc B9.out.size (.cells #[] 53))
        have OW10 : Hid ((w9.alloc (.cells #[] 53)).ownsRow w7.heap.size 53 1 (.slice (some ⟨w9.heap.size, 0, none⟩) 0 0) 0 []) := Lib.hid (own_base (World.ownsRow_made w9 #[] 0 (Nat.le_refl _) (Nat.zero_le _) (by simp)) B9.out.size)
        have BW10 := Lib.hid (B7.out.trans (B10.out.mono B7.out.size))
        have SR10 := Lib.hid (hd1_src hF0.out BW10.out k (by omega))
        have Q10 := Lib.hid (Q9.out.alloc (.cells #[] 53))
        have ONE9 : Hid (∀ u ∈ [Value.slice ua x.length uc] ++ hd2 VS k (m - k), u.oneCell' = true) := Lib.hid fun u hu => by
          rcases List.mem_append.1 hu with h | h
          · rw [List.mem_singleton.1 h]; rfl
          · exact ON2.out u h
        have hkI : (k : Int) ≤ (cap : Int) := by omega
        go_wp2_with (first
          | (at_builtin; refine wpList_rows _ rfl _ _ rfl w7.heap.size 0 (.slice (some ⟨w9.heap.size, 0, none⟩) 0 0) [] rfl OW10.out (some ⟨g, 0, none⟩) k cap (hd1 VS k) rfl (.inr ⟨_, rfl, SR10.out⟩) (hd1_len _ _) ON1.out (by omega) B10.out.size ?_; intro v11 w11 ho11 hg11; have Q11 : Hid (w11.ownsRow w7.heap.size 53 1 v11 k (hd1 VS k)) := Lib.hid (by simpa using ho11); have B11 := Lib.hid (B10.out.grown hg11 B10.out.size (fun q hq => by cases hq; exact B9.out.size)); have R11 := Lib.hid (Q10.out.kept hg11 AP10.out); clear ho11 hg11)
          | (at_builtin; refine wpList_rows _ rfl _ _ rfl w7.heap.size k v11 (hd1 VS k) rfl Q11.out (some ⟨g9, 0, none⟩) (1 + (m - k)) c9 ([.slice ua x.length uc] ++ hd2 VS k (m - k)) rfl (.inr ⟨_, rfl, own_src R11.out⟩) (by simp [hd2_len]; omega) ONE9.out (by omega) B11.out.size ?_; intro v12 w12 ho12 hg12; have Q12 := Lib.hid ho12; have B12 := Lib.hid (B11.out.grown hg12 B11.out.size (fun q hq => (Q11.out.lt q hq).1)); clear ho12 hg12))
        all_goals
          go_ret
          have BW12 := Lib.hid (B7.out.trans (B12.out.mono B7.out.size))
          have FIN := ins_fam (z := k) HF.out HS.out (by rw [HM.out]; omega) hB BQ.size HU.out B12.out BW12.out (own_base (by rw [HM.out, show m + 1 = k + (1 + (m - k)) by omega]; exact Q12.out) B7.out.size)
          exact ⟨_, rfl, _, FIN.1, FIN.2, BW12.out⟩
end Go.Proofs.Ytnfhfilconcajaa
end
