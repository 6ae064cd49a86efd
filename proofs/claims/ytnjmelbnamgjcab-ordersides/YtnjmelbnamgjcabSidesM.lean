/-
  Orders side by side: they are an order; its ideals are one of each. Plain facts: no Go text here. Conditions: two orders of at most ten points together.
-/
import Derived.Test.YtnjmelbnamgjcabTwiceM
import Derived.Test.YtnjmelbnamgjcabJoins
namespace Go.Proofs.Ytnjmelbnamgjcab
open Go.RowKit

theorem pw_add (a b : Nat) : pw (a + b) = pw a * pw b := Nat.pow_add 2 a b
theorem jn_bit_hi (g1 : Nat → Nat) (n1 : Nat) (g2 : Nat → Nat) (k j : Nat) : (jn g1 n1 g2 0 (n1 + k)).testBit j = (decide (n1 ≤ j) && (g2 k).testBit (j - n1)) := by
  rw [jn_hi, Nat.add_zero]
  show (g2 k * 2 ^ n1).testBit j = _
  rw [Nat.testBit_mul_two_pow]
theorem jn_lt {g1 : Nat → Nat} {n1 : Nat} {g2 : Nat → Nat} {n2 : Nat} (h1 : ∀ k, k < n1 → g1 k < pw n1) (h2 : ∀ k, k < n2 → g2 k < pw n2) : ∀ k, k < n1 + n2 → jn g1 n1 g2 0 k < pw (n1 + n2) := by
  intro k hk
  rw [pw_add]
  rcases Nat.lt_or_ge k n1 with h | h
  · rw [jn_lo h]
    exact Nat.lt_of_lt_of_le (h1 k h) (Nat.le_mul_of_pos_right _ (pw_pos n2))
  · obtain ⟨d, rfl⟩ : ∃ d, k = n1 + d := ⟨k - n1, by omega⟩
    rw [jn_hi, Nat.add_zero, Nat.mul_comm]
    exact Nat.mul_lt_mul_of_pos_left (h2 d (by omega)) (pw_pos n1)
theorem jn_ord {g1 : Nat → Nat} {n1 : Nat} {g2 : Nat → Nat} {n2 : Nat} (hn : n1 + n2 ≤ 10) (h1 : ∀ k, k < n1 → g1 k < pw n1) (h2 : ∀ k, k < n2 → g2 k < pw n2) (o1 : Ord n1 g1) (o2 : Ord n2 g2) : Ord (n1 + n2) (jn g1 n1 g2 0) := by
  have hl := jn_lt h1 h2
  intro u hu
  rcases Nat.lt_or_ge u n1 with h | h
  · refine ⟨by rw [jn_lo h]; exact (o1 u h).1, fun p hp hb => ?_⟩
    rw [jn_lo h] at hb ⊢
    have hpn : p < n1 := bit_of_lt (h1 u h) hb
    rw [jn_lo hpn]
    exact (o1 u h).2 p hpn hb
  · obtain ⟨d, rfl⟩ : ∃ d, u = n1 + d := ⟨u - n1, by omega⟩
    refine ⟨by rw [jn_bit_hi]; simp [(o2 d (by omega)).1], fun p hp hb => ?_⟩
    rw [jn_bit_hi] at hb
    simp only [Bool.and_eq_true, decide_eq_true_eq] at hb
    obtain ⟨e, rfl⟩ : ∃ e, p = n1 + e := ⟨p - n1, by omega⟩
    rw [Nat.add_sub_cancel_left] at hb
    refine (lack_zero _ _ (big hn (hl _ hp)) (big hn (hl _ hu))).2 fun j hj => ?_
    rw [jn_bit_hi] at hj ⊢
    simp only [Bool.and_eq_true, decide_eq_true_eq] at hj ⊢
    exact ⟨hj.1, (lack_zero _ _ (big (by omega) (h2 e (by omega))) (big (by omega) (h2 d (by omega)))).1 ((o2 d (by omega)).2 e (by omega) hb.2) _ hj.2⟩
theorem jn_chk {g1 : Nat → Nat} {n1 : Nat} {g2 : Nat → Nat} {n2 : Nat} (hn : n1 + n2 ≤ 10) (h1 : ∀ k, k < n1 → g1 k < pw n1) (h2 : ∀ k, k < n2 → g2 k < pw n2) (o1 : Ord n1 g1) (o2 : Ord n2 g2) :
    Chk ((n1 + n2 : Nat) : Int) (n1 + n2) (fun k => ((jn g1 n1 g2 0 k : Nat) : Int)) 0 := by
  refine .inr ⟨n1 + n2, rfl, hn, .inr ⟨rfl, .inr ⟨fun k hk => ⟨Int.natCast_nonneg _, Int.ofNat_lt.2 (jn_lt h1 h2 k hk)⟩, .inr ⟨rfl, ?_⟩⟩⟩⟩
  rw [nat_cast]; exact jn_ord hn h1 h2 o1 o2

theorem sum_bit {n1 lo hi : Nat} (hlo : lo < pw n1) (j : Nat) : (pw n1 * hi + lo).testBit j = if j < n1 then lo.testBit j else hi.testBit (j - n1) := by
  show (2 ^ n1 * hi + lo).testBit j = _
  rw [Nat.testBit_two_pow_mul_add hi (show lo < 2 ^ n1 from hlo)]
theorem idl_sides {g1 : Nat → Nat} {n1 : Nat} {g2 : Nat → Nat} {n2 lo hi : Nat} (hn : n1 + n2 ≤ 10) (h1 : ∀ k, k < n1 → g1 k < pw n1) (h2 : ∀ k, k < n2 → g2 k < pw n2) (hlo : lo < pw n1) (hhi : hi < pw n2) :
    idlTo (jn g1 n1 g2 0) (pw n1 * hi + lo) (n1 + n2) = (idlTo g1 lo n1 && idlTo g2 hi n2) := by
  have hl := jn_lt h1 h2
  have hs : pw n1 * hi + lo < pw (n1 + n2) := by
    rw [pw_add]
    have : pw n1 * hi + pw n1 ≤ pw n1 * pw n2 := by
      rw [← Nat.mul_succ]; exact Nat.mul_le_mul_left _ hhi
    omega
  rw [Bool.eq_iff_iff, Bool.and_eq_true, idlTo_iff, idlTo_iff, idlTo_iff]
  constructor
  · intro h
    constructor
    · intro p hp hb
      refine (lack_zero _ _ (big (by omega) (h1 p hp)) (big (by omega) hlo)).2 fun j hj => ?_
      have hjn := bit_of_lt (h1 p hp) hj
      have hb' : (pw n1 * hi + lo).testBit p = true := by rw [sum_bit hlo, if_pos hp]; exact hb
      have := (lack_zero _ _ (big hn (hl p (by omega))) (big hn hs)).1 (h p (by omega) hb') j (by rw [jn_lo hp]; exact hj)
      rw [sum_bit hlo, if_pos hjn] at this
      exact this
    · intro p hp hb
      refine (lack_zero _ _ (big (by omega) (h2 p hp)) (big (by omega) hhi)).2 fun j hj => ?_
      have hb' : (pw n1 * hi + lo).testBit (n1 + p) = true := by rw [sum_bit hlo, if_neg (by omega), Nat.add_sub_cancel_left]; exact hb
      have := (lack_zero _ _ (big hn (hl (n1 + p) (by omega))) (big hn hs)).1 (h (n1 + p) (by omega) hb') (n1 + j) (by rw [jn_bit_hi, Nat.add_sub_cancel_left]; simp [hj])
      rw [sum_bit hlo, if_neg (by omega), Nat.add_sub_cancel_left] at this
      exact this
  · rintro ⟨k1, k2⟩ p hp hb
    refine (lack_zero _ _ (big hn (hl p hp)) (big hn hs)).2 fun j hj => ?_
    rw [sum_bit hlo] at hb ⊢
    rcases Nat.lt_or_ge p n1 with h | h
    · rw [if_pos h] at hb
      rw [jn_lo h] at hj
      have hjn := bit_of_lt (h1 p h) hj
      rw [if_pos hjn]
      exact (lack_zero _ _ (big (by omega) (h1 p h)) (big (by omega) hlo)).1 (k1 p h hb) j hj
    · obtain ⟨d, rfl⟩ : ∃ d, p = n1 + d := ⟨p - n1, by omega⟩
      rw [if_neg (by omega), Nat.add_sub_cancel_left] at hb
      rw [jn_bit_hi] at hj
      simp only [Bool.and_eq_true, decide_eq_true_eq] at hj
      rw [if_neg (by omega)]
      exact (lack_zero _ _ (big (by omega) (h2 d (by omega))) (big (by omega) hhi)).1 (k2 d (by omega) hb) _ hj.2

theorem fil_row {I I1 I2 : Nat → Bool} {P h : Nat} (H : ∀ k, k < P → I (P * h + k) = (I1 k && I2 h)) : ∀ k, k ≤ P → fil I (P * h + k) = fil I (P * h) ++ (if I2 h = true then (fil I1 k).map (fun x => x + P * h) else [])
  | 0, _ => by simp [fil]
  | k + 1, hk => by
    have ih := fil_row H k (by omega)
    have hb := H k (by omega)
    rw [← Nat.add_assoc]
    cases e2 : I2 h
    · rw [e2, Bool.and_false] at hb
      rw [fil_no hb, ih, e2]; simp
    · rw [e2, Bool.and_true] at hb
      cases e1 : I1 k
      · rw [e1] at hb
        rw [fil_no hb, ih, e2, fil_no e1]
      · rw [e1] at hb
        rw [fil_yes hb, ih, e2, fil_yes e1]
        simp [Nat.add_comm]
theorem nth_append_left {l m : List Nat} {i : Nat} (h : i < l.length) : nth (l ++ m) i = nth l i := by simp [nth, List.getElem?_append_left h]
theorem nth_append_right {l m : List Nat} {i : Nat} : nth (l ++ m) (l.length + i) = nth m i := by simp [nth, List.getElem?_append_right]
theorem nth_map {l : List Nat} {f : Nat → Nat} {i : Nat} (h : i < l.length) : nth (l.map f) i = f (nth l i) := by simp [nth, h]
theorem fil_prod {I I1 I2 : Nat → Bool} {P Q : Nat} (H : ∀ h, h < Q → ∀ k, k < P → I (P * h + k) = (I1 k && I2 h)) : ∀ h, h ≤ Q →
    (fil I (P * h)).length = (fil I1 P).length * (fil I2 h).length ∧ ∀ i, i < (fil I1 P).length * (fil I2 h).length → nth (fil I (P * h)) i = nth (fil I1 P) (i % (fil I1 P).length) + nth (fil I2 h) (i / (fil I1 P).length) * P
  | 0, _ => by
    refine ⟨by simp [fil], fun i hi => ?_⟩
    simp [fil] at hi
  | h + 1, hh => by
    obtain ⟨ih1, ih2⟩ := fil_prod H h (by omega)
    have e := fil_row (H h (by omega)) P (Nat.le_refl _)
    rw [show P * (h + 1) = P * h + P from Nat.mul_succ P h, e]
    cases e2 : I2 h
    · rw [fil_no e2]
      simp only [Bool.false_eq_true, if_false, List.append_nil]
      exact ⟨ih1, ih2⟩
    · rw [fil_yes e2]
      simp only [if_true]
      have hl : (fil I2 h ++ [h]).length = (fil I2 h).length + 1 := by simp
      refine ⟨by rw [List.length_append, List.length_map, ih1, hl, Nat.mul_succ], fun i hi => ?_⟩
      rw [hl, Nat.mul_succ] at hi
      generalize hS : (fil I1 P).length = S at *
      generalize hV : (fil I2 h).length = V at *
      rcases Nat.lt_or_ge i (S * V) with h1 | h1
      · have hq : i / S < V := Nat.div_lt_of_lt_mul h1
        rw [nth_append_left (by rw [ih1]; exact h1), ih2 i h1, nth_append_left (by rw [hV]; exact hq)]
      · obtain ⟨r, rfl⟩ : ∃ r, i = S * V + r := ⟨i - S * V, by omega⟩
        have hr : r < S := by omega
        have hd : (S * V + r) / S = V := by
          rw [Nat.mul_add_div (by omega), Nat.div_eq_of_lt hr, Nat.add_zero]
        have hm : (S * V + r) % S = r := by
          rw [Nat.mul_add_mod, Nat.mod_eq_of_lt hr]
        have hx : nth (fil I2 h ++ [h]) V = h := by
          have := nth_append_right (l := fil I2 h) (m := [h]) (i := 0)
          rw [hV, Nat.add_zero] at this
          rw [this]; rfl
        have hy := nth_append_right (l := fil I (P * h)) (m := (fil I1 P).map (fun x => x + P * h)) (i := r)
        rw [ih1] at hy
        rw [hd, hm, hx, hy, nth_map (by rw [hS]; exact hr), Nat.mul_comm]
theorem sides_list {g1 : Nat → Nat} {n1 : Nat} {g2 : Nat → Nat} {n2 : Nat} (hn : n1 + n2 ≤ 10) (h1 : ∀ k, k < n1 → g1 k < pw n1) (h2 : ∀ k, k < n2 → g2 k < pw n2) :
    (idls (jn g1 n1 g2 0) (n1 + n2)).length = (idls g1 n1).length * (idls g2 n2).length ∧ ∀ i, i < (idls g1 n1).length * (idls g2 n2).length → nth (idls (jn g1 n1 g2 0) (n1 + n2)) i = nth (idls g1 n1) (i % (idls g1 n1).length) + nth (idls g2 n2) (i / (idls g1 n1).length) * pw n1 := by
  have := fil_prod (I := fun s => idlTo (jn g1 n1 g2 0) s (n1 + n2)) (I1 := fun s => idlTo g1 s n1) (I2 := fun s => idlTo g2 s n2) (P := pw n1) (Q := pw n2) (fun h hh k hk => idl_sides hn h1 h2 hk hh) (pw n2) (Nat.le_refl _)
  rw [← pw_add] at this
  exact this
theorem idls_pos (g : Nat → Nat) (n : Nat) : 0 < (idls g n).length := by
  have h0 : idlTo g 0 n = true := (idlTo_iff g 0 n).2 (fun p _ hb => by simp at hb)
  have : 0 ∈ idls g n := by
    unfold idls
    rw [fil_filter, List.mem_filter]
    exact ⟨by simpa using pw_pos n, h0⟩
  exact List.length_pos_of_mem this
end Go.Proofs.Ytnjmelbnamgjcab
