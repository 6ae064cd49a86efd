/-
  Rows of two orders side by side, or one over the other: plain facts. No Go text here. Conditions: at most ten points.
-/
import Derived.Test.YtbcikonkokahlaaJoins
import Derived.Test.YtbcikonkokahlaaTurnsM
namespace Go.Proofs.Ytbcikonkokahlaa
open Go.RowKit

theorem pw_add (a b : Nat) : pw (a + b) = pw a * pw b := Nat.pow_add 2 a b
theorem sum_bit {n1 lo hi : Nat} (hlo : lo < pw n1) (j : Nat) : (pw n1 * hi + lo).testBit j = if j < n1 then lo.testBit j else hi.testBit (j - n1) := by
  have := Nat.testBit_two_pow_mul_add hi (b := lo) (i := n1) hlo j
  exact this
theorem sum_lt {n1 n2 lo hi : Nat} (hlo : lo < pw n1) (hhi : hi < pw n2) : pw n1 * hi + lo < pw (n1 + n2) := by
  rw [pw_add]
  have h : pw n1 * (hi + 1) ≤ pw n1 * pw n2 := Nat.mul_le_mul (Nat.le_refl _) hhi
  rw [Nat.mul_add, Nat.mul_one] at h
  omega
theorem sumTo_split (φ : Nat → Nat) (n1 : Nat) : ∀ n2, sumTo φ (n1 + n2) = sumTo φ n1 + sumTo (fun k => φ (n1 + k)) n2
  | 0 => rfl
  | n2 + 1 => by
    rw [show n1 + (n2 + 1) = (n1 + n2) + 1 from rfl, sumTo, sumTo, sumTo_split φ n1 n2]; omega
theorem sumTo_zero {φ : Nat → Nat} {n : Nat} (h : ∀ k, k < n → φ k = 0) : sumTo φ n = 0 := by
  have := sumTo_le (φ := φ) (B := 0) n (fun k hk => by rw [h k hk]; exact Nat.le_refl _)
  omega
/-- Has a set all of the first points, if it has one? -/
def Flat (n1 u : Nat) : Prop := ∀ p q, p < n1 → q < n1 → u.testBit p = true → u.testBit q = true
theorem flat_zero (n1 : Nat) : Flat n1 0 := fun _ _ _ _ h => by simp at h
theorem flat_all (n1 : Nat) : Flat n1 (pw n1 - 1) := fun _ _ _ hq _ => all_bit hq
theorem hi_bit {g1 : Nat → Nat} {n1 : Nat} {g2 : Nat → Nat} {u : Nat} (hu : u < pw n1) (k j : Nat) : (jn g1 n1 g2 u (n1 + k)).testBit j = if j < n1 then u.testBit j else (g2 k).testBit (j - n1) := by
  rw [jn_hi, Nat.mul_comm]; exact sum_bit hu j
theorem jn_sm {g1 : Nat → Nat} {n1 : Nat} {g2 : Nat → Nat} {n2 u : Nat} (hu : u < pw n1) (h1 : Sm n1 n1 g1) (h2 : Sm n2 n2 g2) : Sm (n1 + n2) (n1 + n2) (jn g1 n1 g2 u) := fun k hk => by
  rcases Nat.lt_or_ge k n1 with h | h
  · rw [jn_lo h]
    exact Nat.lt_of_lt_of_le (h1 k h) (Nat.pow_le_pow_right (by decide) (by omega))
  · obtain ⟨k', rfl⟩ : ∃ k', k = n1 + k' := ⟨k - n1, by omega⟩
    rw [jn_hi, Nat.mul_comm]
    exact sum_lt hu (h2 k' (by omega))
theorem jn_ord {g1 : Nat → Nat} {n1 : Nat} {g2 : Nat → Nat} {n2 u : Nat} (hn : n1 + n2 ≤ 10) (hu : u < pw n1) (hf : Flat n1 u) (h1 : Sm n1 n1 g1) (h2 : Sm n2 n2 g2) (o1 : Ord n1 g1) (o2 : Ord n2 g2) : Ord (n1 + n2) (jn g1 n1 g2 u) := by
  have hp := pw_le (n1 + n2) hn
  have hsm := jn_sm hu h1 h2
  have hb : ∀ k, k < n1 + n2 → jn g1 n1 g2 u k < 18446744073709551616 := fun k hk => by have := hsm k hk; omega
  have hp1 := pw_le n1 (by omega)
  have hp2 := pw_le n2 (by omega)
  intro i hi
  rcases Nat.lt_or_ge i n1 with h | h
  · rw [OrdAt, jn_lo h]
    refine ⟨(o1 i h).1, fun p hpn hpb => ?_⟩
    have hpl : p < n1 := bit_of_lt (h1 i h) hpb
    rw [jn_lo hpl]
    exact (o1 i h).2 p hpl hpb
  · obtain ⟨k, rfl⟩ : ∃ k, i = n1 + k := ⟨i - n1, by omega⟩
    have hk : k < n2 := by omega
    refine ⟨?_, fun p hpn hpb => ?_⟩
    · rw [hi_bit hu, if_neg (by omega), show n1 + k - n1 = k by omega]; exact (o2 k hk).1
    · refine (lack_zero _ _ (hb p hpn) (hb _ hi)).2 fun q hq => ?_
      rw [hi_bit hu] at hpb ⊢
      rcases Nat.lt_or_ge p n1 with hp0 | hp0
      · rw [if_pos hp0] at hpb
        rw [jn_lo hp0] at hq
        have hql : q < n1 := bit_of_lt (h1 p hp0) hq
        rw [if_pos hql]
        exact hf p q hp0 hql hpb
      · obtain ⟨p', rfl⟩ : ∃ p', p = n1 + p' := ⟨p - n1, by omega⟩
        have hp' : p' < n2 := by omega
        rw [if_neg (by omega), show n1 + p' - n1 = p' by omega] at hpb
        rw [hi_bit hu] at hq
        rcases Nat.lt_or_ge q n1 with hq0 | hq0
        · rw [if_pos hq0] at hq ⊢; exact hq
        · rw [if_neg (by omega)] at hq ⊢
          have h3 := h2 p' hp'
          have h4 := h2 k hk
          exact (lack_zero _ _ (by omega) (by omega)).1 ((o2 k hk).2 p' hp' hpb) _ hq
theorem jn_chk {g1 : Nat → Nat} {n1 : Nat} {g2 : Nat → Nat} {n2 u : Nat} (hn : n1 + n2 ≤ 10) (hu : u < pw n1) (hf : Flat n1 u) (h1 : Sm n1 n1 g1) (h2 : Sm n2 n2 g2) (o1 : Ord n1 g1) (o2 : Ord n2 g2) :
    Chk ((n1 + n2 : Nat) : Int) (n1 + n2) (fun k => (jn g1 n1 g2 u k : Nat)) 0 := by
  refine .inr ⟨n1 + n2, rfl, hn, .inr ⟨rfl, .inr ⟨fun k hk => ⟨Int.natCast_nonneg _, Int.ofNat_lt.2 (jn_sm hu h1 h2 k hk)⟩, .inr ⟨rfl, ?_⟩⟩⟩⟩
  rw [nat_cast]; exact jn_ord hn hu hf h1 h2 o1 o2
theorem may_lo {g1 : Nat → Nat} {n1 : Nat} {g2 : Nat → Nat} {n2 u lo hi j : Nat} (hn : n1 + n2 ≤ 10) (h1 : Sm n1 n1 g1) (hlo : lo < pw n1) (hhi : hi < pw n2) (hj : j < n1) : may (jn g1 n1 g2 u) (pw n1 * hi + lo) j = may g1 lo j := by
  have hp := pw_le (n1 + n2) hn
  have hp1 := pw_le n1 (by omega)
  have hs := sum_lt hlo hhi
  have hg := h1 j hj
  unfold may
  rw [jn_lo hj, sum_bit hlo, if_pos hj]
  congr 1
  rw [Bool.eq_iff_iff, decide_eq_true_iff, decide_eq_true_iff, lack_zero _ _ (by omega) (by omega), lack_zero _ _ (by omega) (by omega)]
  constructor
  · intro h i hi2
    have := h i hi2
    rw [sum_bit hlo, if_pos (bit_of_lt hg hi2)] at this
    exact this
  · intro h i hi2
    rw [sum_bit hlo, if_pos (bit_of_lt hg hi2)]
    exact h i hi2
theorem may_hi {g1 : Nat → Nat} {n1 : Nat} {g2 : Nat → Nat} {n2 u lo hi k : Nat} (hn : n1 + n2 ≤ 10) (hu : u < pw n1) (h2 : Sm n2 n2 g2) (hlo : lo < pw n1) (hhi : hi < pw n2) (hk : k < n2) : may (jn g1 n1 g2 u) (pw n1 * hi + lo) (n1 + k) = (decide (lack u lo = 0) && may g2 hi k) := by
  have hp := pw_le (n1 + n2) hn
  have hp1 := pw_le n1 (by omega)
  have hp2 := pw_le n2 (by omega)
  have hs := sum_lt hlo hhi
  have hg := h2 k hk
  have hj : jn g1 n1 g2 u (n1 + k) < pw (n1 + n2) := by rw [jn_hi, Nat.mul_comm]; exact sum_lt hu hg
  unfold may
  rw [sum_bit hlo, if_neg (by omega), show n1 + k - n1 = k by omega]
  have key : (lack (jn g1 n1 g2 u (n1 + k)) (pw n1 * hi + lo) = 0) ↔ (lack u lo = 0 ∧ lack (g2 k) hi = 0) := by
    rw [lack_zero _ _ (by omega) (by omega), lack_zero _ _ (by omega) (by omega), lack_zero _ _ (by omega) (by omega)]
    constructor
    · intro h
      refine ⟨fun i hi2 => ?_, fun i hi2 => ?_⟩
      · have hin := bit_of_lt hu hi2
        have := h i (by rw [hi_bit hu, if_pos hin]; exact hi2)
        rw [sum_bit hlo, if_pos hin] at this; exact this
      · have := h (n1 + i) (by rw [hi_bit hu, if_neg (by omega), show n1 + i - n1 = i by omega]; exact hi2)
        rw [sum_bit hlo, if_neg (by omega), show n1 + i - n1 = i by omega] at this; exact this
    · rintro ⟨a, b⟩ i hi2
      rw [hi_bit hu] at hi2
      rw [sum_bit hlo]
      rcases Nat.lt_or_ge i n1 with h | h
      · rw [if_pos h] at hi2 ⊢; exact a i hi2
      · rw [if_neg (by omega)] at hi2 ⊢; exact b _ hi2
  have e : decide (lack (jn g1 n1 g2 u (n1 + k)) (pw n1 * hi + lo) = 0) = (decide (lack u lo = 0) && decide (lack (g2 k) hi = 0)) := by
    rw [Bool.eq_iff_iff]; simp [key]
  rw [e]
  cases hi.testBit k <;> cases decide (lack u lo = 0) <;> rfl
/-- In how many ways a row of so many goes into one of so many. -/
def cb : Nat → Nat → Nat
  | 0, _ => 1
  | _ + 1, 0 => 1
  | a + 1, b + 1 => cb a (b + 1) + cb (a + 1) b
theorem cb_left (b : Nat) : cb 0 b = 1 := by rw [cb]
theorem cb_zero (a : Nat) : cb a 0 = 1 := by cases a <;> rw [cb]
theorem cb_both (a b : Nat) : cb (a + 1) (b + 1) = cb a (b + 1) + cb (a + 1) b := by rw [cb]
theorem cb_symm : ∀ m a b, a + b ≤ m → cb a b = cb b a
  | 0, a, b, h => by rw [show a = 0 by omega, show b = 0 by omega]
  | m + 1, 0, b, h => by rw [cb_zero, cb_left]
  | m + 1, a + 1, 0, h => by rw [cb_zero, cb_left]
  | m + 1, a + 1, b + 1, h => by rw [cb_both, cb_both, cb_symm m a (b + 1) (by omega), cb_symm m (a + 1) b (by omega)]; omega
theorem cb_step : ∀ m a b, a + b ≤ m → cb a (b + 1) * (b + 1) = cb a b * (a + b + 1)
  | 0, a, b, h => by rw [show a = 0 by omega, show b = 0 by omega, cb_left, cb_left]
  | m + 1, 0, b, h => by rw [cb_left, cb_left]; omega
  | m + 1, a + 1, b, h => by
    have e1 := cb_step m a b (by omega)
    have e2 := cb_step m b a (by omega)
    rw [cb_symm _ b (a + 1) (Nat.le_refl _), cb_symm _ b a (Nat.le_refl _)] at e2
    rw [cb_both, Nat.add_mul, e1]
    have e3 : cb (a + 1) b * (a + 1 + b + 1) = cb (a + 1) b * (a + 1) + cb (a + 1) b * (b + 1) := by rw [← Nat.mul_add, show a + 1 + b + 1 = a + 1 + (b + 1) by omega]
    rw [e3, e2, show b + a + 1 = a + b + 1 by omega]
theorem cb_le : ∀ m a b, a + b ≤ m → cb a b ≤ pw (a + b)
  | 0, a, b, h => by rw [show a = 0 by omega, cb_left]; exact pw_pos _
  | m + 1, 0, b, h => by rw [cb_left]; exact pw_pos _
  | m + 1, a + 1, 0, h => by rw [cb_zero]; exact pw_pos _
  | m + 1, a + 1, b + 1, h => by
    have e1 := cb_le m a (b + 1) (by omega)
    have e2 := cb_le m (a + 1) b (by omega)
    rw [cb_both, show a + 1 + (b + 1) = (a + b + 1) + 1 by omega, pw_succ]
    rw [show a + (b + 1) = a + b + 1 by omega] at e1
    rw [show a + 1 + b = a + b + 1 by omega] at e2
    omega
theorem cb_some : ∀ m a b, a + b ≤ m → 0 < cb a b
  | _, 0, b, h => by rw [cb_left]; decide
  | m, a + 1, 0, h => by rw [cb_zero]; decide
  | 0, a + 1, b + 1, h => by omega
  | m + 1, a + 1, b + 1, h => by have := cb_some m a (b + 1) (by omega); rw [cb_both]; omega
theorem ways_sum {u : Nat → Nat} {n s : Nat} (h : s < pw n) : sumTo (goes u n s) n = if s = pw n - 1 then 0 else ways u n s := by
  by_cases e : s = pw n - 1
  · rw [if_pos e, e, sum_all n (Nat.le_refl _)]
  · rw [if_neg e, ways_eq (by omega)]
theorem full_iff {n1 n2 lo hi : Nat} (hlo : lo < pw n1) (hhi : hi < pw n2) : pw n1 * hi + lo + 1 < pw (n1 + n2) ↔ ¬ (lo = pw n1 - 1 ∧ hi = pw n2 - 1) := by
  rw [pw_add]
  constructor
  · rintro h ⟨rfl, rfl⟩
    have hp := pw_pos n1
    have hq := pw_pos n2
    have e : pw n1 * (pw n2 - 1) + pw n1 = pw n1 * pw n2 := by
      rw [← Nat.mul_succ, show (pw n2 - 1).succ = pw n2 by omega]
    omega
  · intro h
    rcases Nat.lt_or_ge (hi + 1) (pw n2) with h1 | h1
    · have h3 : pw n1 * (hi + 2) ≤ pw n1 * pw n2 := Nat.mul_le_mul (Nat.le_refl _) h1
      rw [Nat.mul_add] at h3
      omega
    · have h2 : hi = pw n2 - 1 := by omega
      have hlo2 : lo + 1 < pw n1 := by
        rcases Nat.lt_or_ge (lo + 1) (pw n1) with h4 | h4
        · exact h4
        · exact absurd ⟨by omega, h2⟩ h
      have h3 : pw n1 * (hi + 1) ≤ pw n1 * pw n2 := Nat.mul_le_mul (Nat.le_refl _) hhi
      rw [Nat.mul_add, Nat.mul_one] at h3
      omega
end Go.Proofs.Ytbcikonkokahlaa
