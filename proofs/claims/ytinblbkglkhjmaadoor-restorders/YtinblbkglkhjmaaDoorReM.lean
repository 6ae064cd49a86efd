/-
  What comes out of an order is an order: the dual, a part, points side by side and above one another, pairs, a form. Plain facts. Conditions: at most ten points.
-/
import Derived.Test.YtinblbkglkhjmaaDoorRzD
import Derived.Test.YtinblbkglkhjmaaDoorPart
import Derived.Test.YtinblbkglkhjmaaDoorCaF
import Derived.Test.YtinblbkglkhjmaaDoorTimesM
namespace Go.Proofs.YtinblbkglkhjmaaDoor
open Go.RowKit

theorem ord_of_srd {g : Nat → Nat} {n : Nat} (hn : n ≤ 10) (hu : Sm n n g) (hs : Srd n (ltU g n)) : Ord n g := fun u hu' => by
  refine ⟨?_, fun p hp hb => ?_⟩
  · have := hs.irr u; unfold ltU at this; simpa [hu'] using this
  · have hpn := pw_le n hn
    have s1 := hu u hu'
    have s2 := hu p hp
    refine (lack_zero _ _ (by omega) (by omega)).2 fun i hi => ?_
    have h := hs.tr i p u (by unfold ltU; simp [hp, hi]) (by unfold ltU; simp [hu', hb])
    unfold ltU at h; simpa [hu'] using h
theorem srd_sub {lt lt' : Nat → Nat → Bool} {n m : Nat} {e : Nat → Nat} (hs : Srd n lt) (h : ∀ p q, lt' p q = true ↔ p < m ∧ q < m ∧ lt (e p) (e q) = true) : Srd m lt' := by
  refine ⟨fun p => ?_, fun p q r h1 h2 => ?_, fun p q h1 => ⟨((h p q).1 h1).1, ((h p q).1 h1).2.1⟩⟩
  · rw [Bool.eq_false_iff]; intro h1
    have := ((h p p).1 h1).2.2; rw [hs.irr] at this; cases this
  · obtain ⟨a1, a2, a3⟩ := (h p q).1 h1
    obtain ⟨b1, b2, b3⟩ := (h q r).1 h2
    exact (h p r).2 ⟨a1, b2, hs.tr _ _ _ a3 b3⟩
theorem trn_bt (g : Nat → Nat) (n l x : Nat) : (trn g n l).testBit x = (decide (x < n) && (g x).testBit l) := by rw [trn, setBy_bit]
theorem trn_lt {g : Nat → Nat} {n p q : Nat} (hp : p < n) (hq : q < n) : ltU (trn g n) n p q = ltU g n q p := by
  unfold ltU; rw [trn_bt]; simp [hp, hq]
theorem trn_good {g : Nat → Nat} {n : Nat} (hn : n ≤ 10) (hu : Sm n n g) (ho : Ord n g) : Sm n n (trn g n) ∧ Ord n (trn g n) := by
  have hs := ltU_srd hn hu ho
  have h1 : Sm n n (trn g n) := fun k _ => by rw [trn]; exact setBy_lt _ n
  refine ⟨h1, ord_of_srd hn h1 ?_⟩
  have inn : ∀ p q, ltU (trn g n) n p q = true → p < n ∧ q < n := fun p q h => by
    unfold ltU at h; rw [trn_bt] at h; simp at h; exact ⟨h.2.1, h.1⟩
  refine ⟨fun p => ?_, fun p q r h2 h3 => ?_, inn⟩
  · rw [Bool.eq_false_iff]; intro h
    obtain ⟨hp, _⟩ := inn p p h
    rw [trn_lt hp hp, hs.irr] at h; cases h
  · obtain ⟨a1, a2⟩ := inn p q h2
    obtain ⟨b1, b2⟩ := inn q r h3
    rw [trn_lt a1 a2] at h2
    rw [trn_lt b1 b2] at h3
    rw [trn_lt a1 b2]
    exact hs.tr _ _ _ h3 h2
theorem pts_rise (s : Nat) : ∀ n i j, i < j → j < (pts s n).length → nth (pts s n) i < nth (pts s n) j
  | 0, i, j, _, h => by simp [pts] at h
  | n + 1, i, j, hij, h => by
    cases hb : s.testBit n
    · rw [pts_no hb] at h ⊢; exact pts_rise s n i j hij h
    · rw [pts_yes hb] at h ⊢
      rw [List.length_append] at h
      simp only [List.length_singleton] at h
      by_cases e : j < (pts s n).length
      · have h1 := pts_rise s n i j hij e
        unfold nth at h1 ⊢
        rw [List.getD_eq_getElem?_getD, List.getD_eq_getElem?_getD, List.getElem?_append_left (by omega), List.getElem?_append_left e]
        rw [List.getD_eq_getElem?_getD, List.getD_eq_getElem?_getD] at h1
        exact h1
      · obtain rfl : j = (pts s n).length := by omega
        have h1 := nth_lt (s := s) (n := n) (k := i) hij
        unfold nth at h1 ⊢
        rw [List.getD_eq_getElem?_getD, List.getD_eq_getElem?_getD, List.getElem?_append_left hij, List.getElem?_append_right (Nat.le_refl _)]
        rw [List.getD_eq_getElem?_getD] at h1
        simpa using h1
theorem pts_inj {s n i j : Nat} (hi : i < (pts s n).length) (hj : j < (pts s n).length) (e : nth (pts s n) i = nth (pts s n) j) : i = j := by
  rcases Nat.lt_trichotomy i j with h | h | h
  · have := pts_rise s n i j h hj; omega
  · exact h
  · have := pts_rise s n j i h hi; omega
theorem prt_lt {g : Nat → Nat} {s n p q : Nat} (hp : p < (pts s n).length) (hq : q < (pts s n).length) : ltU (prt g (pts s n)) (pts s n).length p q = ltU g n (nth (pts s n) p) (nth (pts s n) q) := by
  have := nth_lt hq
  unfold ltU prt; rw [setBy_bit]; simp [hp, hq, this]
theorem prt_good {g : Nat → Nat} {s n : Nat} (hn : n ≤ 10) (hu : Sm n n g) (ho : Ord n g) : (pts s n).length ≤ n ∧ Sm (pts s n).length (pts s n).length (prt g (pts s n)) ∧ Ord (pts s n).length (prt g (pts s n)) := by
  have hs := ltU_srd hn hu ho
  have h0 := pts_len s n
  have h1 : Sm (pts s n).length (pts s n).length (prt g (pts s n)) := fun k _ => by rw [prt]; exact setBy_lt _ _
  refine ⟨h0, h1, ord_of_srd (by omega) h1 (srd_sub (e := nth (pts s n)) hs fun p q => ?_)⟩
  refine ⟨fun h => ?_, fun ⟨a, b, c⟩ => by rw [prt_lt a b]; exact c⟩
  have hp : p < (pts s n).length ∧ q < (pts s n).length := by
    unfold ltU prt at h; rw [setBy_bit] at h; simp at h; exact ⟨h.2.1, h.1⟩
  exact ⟨hp.1, hp.2, by rw [← prt_lt hp.1 hp.2]; exact h⟩
/-- An order in which nothing is wrong. -/
theorem chk_of {g : Nat → Nat} {n : Nat} (h10 : n ≤ 10) (hu : Sm n n g) (ho : Ord n g) : Chk (n : Nat) n (fun k => (g k : Nat)) 0 :=
  .inr ⟨n, rfl, h10, .inr ⟨rfl, .inr ⟨fun k hk => ⟨Int.natCast_nonneg _, by have := hu k hk; show ((g k : Nat) : Int) < _; omega⟩, .inr ⟨rfl, ho⟩⟩⟩⟩
theorem lst_lt {g : Nat → Nat} {L : List Nat} {n p q : Nat} (hL : L.length = n) (hn : ∀ k, k < n → nth L k < n) (hp : p < n) (hq : q < n) : ltU (prt g L) n p q = ltU g n (nth L p) (nth L q) := by
  have := hn q hq
  unfold ltU prt; rw [setBy_bit]; simp [hL, hp, hq, this]
theorem lst_good {g : Nat → Nat} {L : List Nat} {n : Nat} (h10 : n ≤ 10) (hL : L.length = n) (hn : ∀ k, k < n → nth L k < n) (hu : Sm n n g) (ho : Ord n g) : Sm n n (prt g L) ∧ Ord n (prt g L) := by
  have hs := ltU_srd h10 hu ho
  have h1 : Sm n n (prt g L) := fun k _ => by rw [prt, hL]; exact setBy_lt _ _
  refine ⟨h1, ord_of_srd h10 h1 (srd_sub (e := nth L) hs fun p q => ?_)⟩
  refine ⟨fun h => ?_, fun ⟨a, b, c⟩ => by rw [lst_lt hL hn a b]; exact c⟩
  have hp : p < n ∧ q < n := by
    unfold ltU prt at h; rw [setBy_bit] at h; simp [hL] at h; exact ⟨h.2.1, h.1⟩
  exact ⟨hp.1, hp.2, by rw [← lst_lt hL hn hp.1 hp.2]; exact h⟩
theorem jn_bit {g1 : Nat → Nat} {n1 : Nat} {g2 : Nat → Nat} {u k i : Nat} (hu : u < pw n1) (hk : n1 ≤ k) : (jn g1 n1 g2 u k).testBit i = if i < n1 then u.testBit i else (g2 (k - n1)).testBit (i - n1) := by
  unfold jn
  rw [if_neg (by omega), Nat.mul_comm]
  exact Nat.testBit_two_pow_mul_add _ hu _
theorem jn_lt {g1 g2 : Nat → Nat} {n1 n2 u k : Nat} (h1 : Sm n1 n1 g1) (h2 : Sm n2 n2 g2) (hu : u < pw n1) (hk : k < n1 + n2) : jn g1 n1 g2 u k < pw (n1 + n2) := by
  unfold jn
  by_cases e : k < n1
  · rw [if_pos e]; exact Nat.lt_of_lt_of_le (h1 k e) (Nat.pow_le_pow_right (by decide) (by omega))
  · rw [if_neg e, pw_add]
    have h3 := h2 (k - n1) (by omega)
    have h4 : (g2 (k - n1) + 1) * pw n1 ≤ pw n2 * pw n1 := Nat.mul_le_mul_right _ h3
    rw [Nat.add_mul, Nat.one_mul, Nat.mul_comm (pw n2)] at h4
    omega
theorem jn_good {g1 g2 : Nat → Nat} {n1 n2 u : Nat} (h10 : n1 + n2 ≤ 10) (hu1 : Sm n1 n1 g1) (ho1 : Ord n1 g1) (hu2 : Sm n2 n2 g2) (ho2 : Ord n2 g2) (hu : u = 0 ∨ u = pw n1 - 1) : Sm (n1 + n2) (n1 + n2) (jn g1 n1 g2 u) ∧ Ord (n1 + n2) (jn g1 n1 g2 u) := by
  have hpp := pw_pos n1
  have hu' : u < pw n1 := by rcases hu with h | h <;> omega
  have s1 := ltU_srd (by omega) hu1 ho1
  have s2 := ltU_srd (by omega) hu2 ho2
  have hsm : Sm (n1 + n2) (n1 + n2) (jn g1 n1 g2 u) := fun k hk => jn_lt hu1 hu2 hu' hk
  have e1 : ∀ p q, q < n1 → (ltU (jn g1 n1 g2 u) (n1 + n2) p q = ltU g1 n1 p q) := fun p q hq => by
    unfold ltU; rw [jn_lo hq]; simp [hq]; omega
  have e2 : ∀ p q, n1 ≤ q → n1 ≤ p → ltU (jn g1 n1 g2 u) (n1 + n2) p q = ltU g2 n2 (p - n1) (q - n1) := fun p q hq hp => by
    unfold ltU; rw [jn_bit hu' hq, if_neg (by omega)]
    by_cases e : q < n1 + n2
    · have : q - n1 < n2 := by omega
      simp [e, this]
    · have : ¬ q - n1 < n2 := by omega
      simp [e, this]
  have e3 : ∀ p q, n1 ≤ q → p < n1 → ltU (jn g1 n1 g2 u) (n1 + n2) p q = (decide (q < n1 + n2) && u.testBit p) := fun p q hq hp => by
    unfold ltU; rw [jn_bit hu' hq, if_pos hp]
  have hub : ∀ p q, p < n1 → q < n1 → u.testBit p = true → u.testBit q = true := fun p q hp hq h => by
    rcases hu with e | e
    · rw [e] at h; simp at h
    · rw [e]; unfold pw; rw [Nat.testBit_two_pow_sub_one]; simp [hq]
  have inn : ∀ p q, ltU (jn g1 n1 g2 u) (n1 + n2) p q = true → p < n1 + n2 ∧ q < n1 + n2 := fun p q h => by
    have hq : q < n1 + n2 := by unfold ltU at h; simp at h; exact h.1
    refine ⟨?_, hq⟩
    unfold ltU at h; simp at h
    exact bit_of_lt (hsm q hq) h.2
  refine ⟨hsm, ord_of_srd h10 hsm ⟨fun p => ?_, fun p q r h1 h2 => ?_, inn⟩⟩
  · by_cases e : p < n1
    · rw [e1 p p e]; exact s1.irr p
    · rw [e2 p p (by omega) (by omega)]; exact s2.irr _
  · obtain ⟨hp, hq⟩ := inn p q h1
    obtain ⟨_, hr⟩ := inn q r h2
    by_cases er : r < n1
    · rw [e1 q r er] at h2
      have hq1 := (s1.inn q r h2).1
      rw [e1 p q hq1] at h1
      rw [e1 p r er]; exact s1.tr _ _ _ h1 h2
    · by_cases eq : q < n1
      · rw [e1 p q eq] at h1
        have hp1 := (s1.inn p q h1).1
        rw [e3 q r (by omega) eq] at h2
        rw [e3 p r (by omega) hp1]
        simp at h2
        simp [hr, hub q p eq hp1 h2.2]
      · by_cases ep : p < n1
        · rw [e3 p q (by omega) ep] at h1
          rw [e3 p r (by omega) ep]
          simp at h1
          simp [hr, h1.2]
        · rw [e2 p q (by omega) (by omega)] at h1
          rw [e2 q r (by omega) (by omega)] at h2
          rw [e2 p r (by omega) (by omega)]
          exact s2.tr _ _ _ h1 h2
theorem up_tr {g : Nat → Nat} {n : Nat} (h10 : n ≤ 10) (hu : Sm n n g) (ho : Ord n g) {a b c : Nat} (hb : b < n) (hc : c < n) (h1 : upB g a b = true) (h2 : upB g b c = true) : upB g a c = true := by
  have hs := ltU_srd h10 hu ho
  unfold upB at h1 h2 ⊢
  simp only [Bool.or_eq_true, beq_iff_eq] at h1 h2 ⊢
  rcases h1 with rfl | h1
  · exact h2
  · rcases h2 with rfl | h2
    · exact .inr h1
    · have := hs.tr a b c (by unfold ltU; simp [hb, h1]) (by unfold ltU; simp [hc, h2])
      unfold ltU at this; simp at this; exact .inr this.2
theorem up_asy {g : Nat → Nat} {n : Nat} (h10 : n ≤ 10) (hu : Sm n n g) (ho : Ord n g) {a b : Nat} (ha : a < n) (hb : b < n) (h1 : upB g a b = true) (h2 : upB g b a = true) : a = b := by
  have hs := ltU_srd h10 hu ho
  unfold upB at h1 h2
  simp only [Bool.or_eq_true, beq_iff_eq] at h1 h2
  rcases h1 with rfl | h1
  · rfl
  · rcases h2 with rfl | h2
    · rfl
    · have := hs.asy (p := a) (q := b) (by unfold ltU; simp [hb, h1])
      unfold ltU at this; simp [ha, h2] at this
theorem tm_good {g1 g2 : Nat → Nat} {n1 n2 : Nat} (hN : n1 * n2 ≤ 10) (h1 : n1 ≤ 10) (h2 : n2 ≤ 10) (hu1 : Sm n1 n1 g1) (ho1 : Ord n1 g1) (hu2 : Sm n2 n2 g2) (ho2 : Ord n2 g2) : Sm (n1 * n2) (n1 * n2) (tmq g1 g2 n2) ∧ Ord (n1 * n2) (tmq g1 g2 n2) := by
  have he : ∀ t, t < n1 * n2 → tmq g1 g2 n2 t = tms g1 g2 n1 n2 t := fun t ht => tm_eq hN hu1 hu2 h1 ht
  have hsm : Sm (n1 * n2) (n1 * n2) (tmq g1 g2 n2) := fun k hk => by rw [he k hk]; unfold tms; exact setBy_lt _ _
  have hb : ∀ p q, ltU (tmq g1 g2 n2) (n1 * n2) p q = true ↔ p < n1 * n2 ∧ q < n1 * n2 ∧ tmP g1 g2 n2 p q = true := fun p q => by
    unfold ltU
    by_cases hq : q < n1 * n2
    · rw [he q hq]; unfold tms; rw [setBy_bit]; simp [hq]
    · simp [hq]
  have dv : ∀ p, p < n1 * n2 → p / n2 < n1 ∧ p % n2 < n2 := fun p hp => by
    have h0 : 0 < n2 := by
      rcases Nat.eq_zero_or_pos n2 with h | h
      · rw [h] at hp; omega
      · exact h
    exact ⟨Nat.div_lt_of_lt_mul (by rw [Nat.mul_comm]; exact hp), Nat.mod_lt _ h0⟩
  refine ⟨hsm, ord_of_srd hN hsm ⟨fun p => ?_, fun p q r h3 h4 => ?_, fun p q h => ⟨((hb p q).1 h).1, ((hb p q).1 h).2.1⟩⟩⟩
  · rw [Bool.eq_false_iff]; intro h
    have := ((hb p p).1 h).2.2
    unfold tmP at this; simp at this
  · obtain ⟨hp, hq, k1⟩ := (hb p q).1 h3
    obtain ⟨_, hr, k2⟩ := (hb q r).1 h4
    refine (hb p r).2 ⟨hp, hr, ?_⟩
    unfold tmP at k1 k2 ⊢
    simp only [Bool.and_eq_true, bne_iff_ne, ne_eq] at k1 k2 ⊢
    obtain ⟨⟨a1, a2⟩, a3⟩ := k1
    obtain ⟨⟨b1, b2⟩, b3⟩ := k2
    obtain ⟨p1, p2⟩ := dv p hp
    obtain ⟨q1, q2⟩ := dv q hq
    obtain ⟨r1, r2⟩ := dv r hr
    refine ⟨⟨fun e => ?_, up_tr h1 hu1 ho1 q1 r1 a2 b2⟩, up_tr h2 hu2 ho2 q2 r2 a3 b3⟩
    subst e
    have x1 := up_asy h1 hu1 ho1 p1 q1 a2 b2
    have x2 := up_asy h2 hu2 ho2 p2 q2 a3 b3
    apply a1
    rw [← Nat.div_add_mod p n2, ← Nat.div_add_mod q n2, x1, x2]
end Go.Proofs.YtinblbkglkhjmaaDoor
