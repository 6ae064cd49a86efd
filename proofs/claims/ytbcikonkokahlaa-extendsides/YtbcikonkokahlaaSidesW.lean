/-
  How many rows two orders have side by side, and one over the other: plain facts. No Go text here. Conditions: at most ten points.
-/
import Derived.Test.YtbcikonkokahlaaSidesX
namespace Go.Proofs.Ytbcikonkokahlaa
open Go.RowKit

theorem miss_full (n : Nat) : miss n (pw n - 1) = 0 := (miss_zero_iff (by have := pw_pos n; omega)).2 rfl
theorem miss_some {n s : Nat} (hs : s < pw n) (h : s ≠ pw n - 1) : ∃ m, miss n s = m + 1 := by
  rcases Nat.eq_zero_or_pos (miss n s) with h0 | h0
  · exact absurd ((miss_zero_iff hs).1 h0) h
  · exact ⟨miss n s - 1, by omega⟩
theorem s_lo (n1 hi lo j : Nat) : pw n1 * hi + lo + pw j = pw n1 * hi + (lo + pw j) := by omega
theorem s_hi (n1 hi lo k : Nat) : pw n1 * hi + lo + pw (n1 + k) = pw n1 * (hi + pw k) + lo := by rw [pw_add, Nat.mul_add]; omega
theorem sums_mul {φ ψ : Nat → Nat} {c n : Nat} (h : ∀ k, k < n → φ k = c * ψ k) : sumTo φ n = c * sumTo ψ n := by
  rw [← sumTo_mul, sumTo_congr n h]
theorem ways_beside {g1 : Nat → Nat} {n1 : Nat} {g2 : Nat → Nat} {n2 : Nat} (hn : n1 + n2 ≤ 10) (h1 : Sm n1 n1 g1) (h2 : Sm n2 n2 g2) : ∀ m lo hi, pw (n1 + n2) - (pw n1 * hi + lo) ≤ m → lo < pw n1 → hi < pw n2 →
    ways (jn g1 n1 g2 0) (n1 + n2) (pw n1 * hi + lo) = cb (miss n1 lo) (miss n2 hi) * (ways g1 n1 lo * ways g2 n2 hi)
  | 0, lo, hi, hm, hlo, hhi => by have := sum_lt hlo hhi; omega
  | m + 1, lo, hi, hm, hlo, hhi => by
    by_cases hf : lo = pw n1 - 1 ∧ hi = pw n2 - 1
    · obtain ⟨rfl, rfl⟩ := hf
      have hnot := full_iff hlo hhi
      have hl := sum_lt hlo hhi
      have : pw n1 * (pw n2 - 1) + (pw n1 - 1) = pw (n1 + n2) - 1 := by
        rcases Nat.lt_or_ge (pw n1 * (pw n2 - 1) + (pw n1 - 1) + 1) (pw (n1 + n2)) with h | h
        · exact absurd ⟨rfl, rfl⟩ (hnot.1 h)
        · omega
      rw [this, ways_all, ways_all, ways_all, miss_full, miss_full, cb_left]
    · have hfull := (full_iff hlo hhi).2 hf
      rw [ways_eq hfull, sumTo_split]
      have S1 : sumTo (goes (jn g1 n1 g2 0) (n1 + n2) (pw n1 * hi + lo)) n1 = (cb (miss n1 lo - 1) (miss n2 hi) * ways g2 n2 hi) * sumTo (goes g1 n1 lo) n1 := by
        refine sums_mul fun j hj => ?_
        have hmj := may_lo (g2 := g2) (u := 0) hn h1 hlo hhi hj
        cases hb : may g1 lo j
        · rw [goes_no hb, goes_no (hmj.trans hb)]; rfl
        · rw [goes_yes hb, goes_yes (hmj.trans hb), s_lo]
          have hlo' := add_lt hlo hj (may_out hb)
          rw [ways_beside hn h1 h2 m (lo + pw j) hi (by have := pw_pos j; omega) hlo' hhi]
          have hms := miss_add (may_out hb) n1 hj
          rw [show miss n1 lo - 1 = miss n1 (lo + pw j) by omega, Nat.mul_assoc, Nat.mul_comm (ways g2 n2 hi)]
      have S2 : sumTo (fun k => goes (jn g1 n1 g2 0) (n1 + n2) (pw n1 * hi + lo) (n1 + k)) n2 = (cb (miss n1 lo) (miss n2 hi - 1) * ways g1 n1 lo) * sumTo (goes g2 n2 hi) n2 := by
        refine sums_mul fun k hk => ?_
        have hmk := may_hi (g1 := g1) hn (pw_pos n1) h2 hlo hhi hk
        have hz : lack 0 lo = 0 := by simp [lack]
        rw [hz] at hmk
        simp only [decide_true, Bool.true_and] at hmk
        cases hb : may g2 hi k
        · rw [goes_no hb, goes_no (hmk.trans hb)]; rfl
        · rw [goes_yes hb, goes_yes (hmk.trans hb), s_hi]
          have hhi' := add_lt hhi hk (may_out hb)
          have hgt : pw n1 * hi + lo < pw n1 * (hi + pw k) + lo := by rw [← s_hi]; have := pw_pos (n1 + k); omega
          rw [ways_beside hn h1 h2 m lo (hi + pw k) (by omega) hlo hhi']
          have hms := miss_add (may_out hb) n2 hk
          rw [show miss n2 hi - 1 = miss n2 (hi + pw k) by omega, Nat.mul_assoc]
      rw [S1, S2, ways_sum hlo, ways_sum hhi]
      by_cases e1 : lo = pw n1 - 1
      · have e2 : hi ≠ pw n2 - 1 := fun e => hf ⟨e1, e⟩
        rw [if_pos e1, if_neg e2, e1, miss_full, cb_left, cb_left, Nat.mul_zero, Nat.zero_add, Nat.one_mul, Nat.one_mul]
      · rw [if_neg e1]
        obtain ⟨a, ha⟩ := miss_some hlo e1
        rw [ha]
        by_cases e2 : hi = pw n2 - 1
        · rw [if_pos e2, e2, miss_full, cb_zero, cb_zero, Nat.mul_zero, Nat.add_zero, Nat.one_mul, Nat.one_mul, Nat.mul_comm]
        · rw [if_neg e2]
          obtain ⟨b, hb⟩ := miss_some hhi e2
          rw [hb, cb_both, Nat.add_mul, show a + 1 - 1 = a by omega, show b + 1 - 1 = b by omega, Nat.mul_assoc, Nat.mul_assoc, Nat.mul_comm (ways g2 n2 hi)]
theorem rows_beside {g1 : Nat → Nat} {n1 : Nat} {g2 : Nat → Nat} {n2 : Nat} (hn : n1 + n2 ≤ 10) (h1 : Sm n1 n1 g1) (h2 : Sm n2 n2 g2) : ways (jn g1 n1 g2 0) (n1 + n2) 0 = cb n1 n2 * (ways g1 n1 0 * ways g2 n2 0) := by
  have := ways_beside hn h1 h2 _ 0 0 (Nat.le_refl _) (pw_pos n1) (pw_pos n2)
  rw [miss_empty, miss_empty] at this
  exact this
theorem lack_self {x : Nat} (hx : x < 18446744073709551616) : lack x x = 0 := (lack_zero x x hx hx).2 fun _ h => h
theorem lack_full {n lo : Nat} (hn : n ≤ 10) (hlo : lo < pw n) (h : lack (pw n - 1) lo = 0) : lo = pw n - 1 := by
  have hp := pw_le n hn
  have hb := (lack_zero (pw n - 1) lo (by omega) (by omega)).1 h
  refine (miss_zero_iff hlo).1 ?_
  have := sumTo_le (φ := fun i => if lo.testBit i = true then 0 else 1) (B := 0) n (fun i hi => by rw [hb i (all_bit hi)]; simp)
  unfold miss; omega
theorem ways_upper {g1 : Nat → Nat} {n1 : Nat} {g2 : Nat → Nat} {n2 : Nat} (hn : n1 + n2 ≤ 10) (h1 : Sm n1 n1 g1) (h2 : Sm n2 n2 g2) : ∀ m hi, pw n2 - hi ≤ m → hi < pw n2 →
    ways (jn g1 n1 g2 (pw n1 - 1)) (n1 + n2) (pw n1 * hi + (pw n1 - 1)) = ways g2 n2 hi
  | 0, hi, hm, hhi => by omega
  | m + 1, hi, hm, hhi => by
    have hlo : pw n1 - 1 < pw n1 := by have := pw_pos n1; omega
    have hp1 := pw_le n1 (by omega)
    by_cases e : hi = pw n2 - 1
    · have hnot := full_iff hlo hhi
      have hl := sum_lt hlo hhi
      have : pw n1 * hi + (pw n1 - 1) = pw (n1 + n2) - 1 := by
        rcases Nat.lt_or_ge (pw n1 * hi + (pw n1 - 1) + 1) (pw (n1 + n2)) with h | h
        · exact absurd ⟨rfl, e⟩ (hnot.1 h)
        · omega
      rw [this, ways_all, e, ways_all]
    · have hfull := (full_iff hlo hhi).2 (fun h => e h.2)
      rw [ways_eq hfull, sumTo_split, ways_eq (show hi + 1 < pw n2 by omega)]
      rw [sumTo_zero (n := n1) (fun j hj => goes_no ((may_lo hn h1 hlo hhi hj).trans (may_in (all_bit hj)))), Nat.zero_add]
      refine sumTo_congr n2 fun k hk => ?_
      have hmk := may_hi (g1 := g1) hn hlo h2 hlo hhi hk
      rw [lack_self (by omega)] at hmk
      simp only [decide_true, Bool.true_and] at hmk
      cases hb : may g2 hi k
      · rw [goes_no hb, goes_no (hmk.trans hb)]
      · rw [goes_yes hb, goes_yes (hmk.trans hb), s_hi]
        exact ways_upper hn h1 h2 m (hi + pw k) (by have := pw_pos k; omega) (add_lt hhi hk (may_out hb))
theorem ways_over {g1 : Nat → Nat} {n1 : Nat} {g2 : Nat → Nat} {n2 : Nat} (hn : n1 + n2 ≤ 10) (h1 : Sm n1 n1 g1) (h2 : Sm n2 n2 g2) : ∀ m lo, pw n1 - lo ≤ m → lo < pw n1 →
    ways (jn g1 n1 g2 (pw n1 - 1)) (n1 + n2) (pw n1 * 0 + lo) = ways g2 n2 0 * ways g1 n1 lo
  | 0, lo, hm, hlo => by omega
  | m + 1, lo, hm, hlo => by
    have hu : pw n1 - 1 < pw n1 := by omega
    have hhi := pw_pos n2
    by_cases e : lo = pw n1 - 1
    · rw [e, ways_upper hn h1 h2 _ 0 (Nat.le_refl _) hhi, ways_all, Nat.mul_one]
    · have hfull := (full_iff hlo hhi).2 (fun h => e h.1)
      rw [ways_eq hfull, sumTo_split, ways_eq (show lo + 1 < pw n1 by omega)]
      have S2 : sumTo (fun k => goes (jn g1 n1 g2 (pw n1 - 1)) (n1 + n2) (pw n1 * 0 + lo) (n1 + k)) n2 = 0 := sumTo_zero fun k hk => by
        refine goes_no ((may_hi hn hu h2 hlo hhi hk).trans ?_)
        have : ¬ lack (pw n1 - 1) lo = 0 := fun h => e (lack_full (by omega) hlo h)
        simp [this]
      rw [S2, Nat.add_zero]
      refine sums_mul fun j hj => ?_
      have hmj := may_lo (g2 := g2) (u := pw n1 - 1) hn h1 hlo hhi hj
      cases hb : may g1 lo j
      · rw [goes_no hb, goes_no (hmj.trans hb)]; rfl
      · rw [goes_yes hb, goes_yes (hmj.trans hb), s_lo]
        exact ways_over hn h1 h2 m (lo + pw j) (by have := pw_pos j; omega) (add_lt hlo hj (may_out hb))
theorem rows_over {g1 : Nat → Nat} {n1 : Nat} {g2 : Nat → Nat} {n2 : Nat} (hn : n1 + n2 ≤ 10) (h1 : Sm n1 n1 g1) (h2 : Sm n2 n2 g2) : ways (jn g1 n1 g2 (pw n1 - 1)) (n1 + n2) 0 = ways g1 n1 0 * ways g2 n2 0 := by
  have := ways_over hn h1 h2 _ 0 (Nat.le_refl _) (pw_pos n1)
  rw [Nat.mul_comm (ways g1 n1 0)]
  exact this
end Go.Proofs.Ytbcikonkokahlaa
