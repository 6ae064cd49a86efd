/-
  The row with a number: which point stands next. Plain facts: no Go text here. Conditions: at most ten points.
-/
import Derived.Test.YtklfnghgpmjnmaaDoorExtM
import Derived.Test.YtklfnghgpmjnmaaDoorBuild
namespace Go.Proofs.YtklfnghgpmjnmaaDoor
open Go.RowKit

/-- Where a number falls among sums. -/
def pick (φ : Nat → Nat) (k : Nat) : Nat → Nat
  | 0 => 0
  | m + 1 => if k < sumTo φ m then pick φ k m else m
theorem pick_spec {φ : Nat → Nat} {k : Nat} : ∀ n, k < sumTo φ n → pick φ k n < n ∧ sumTo φ (pick φ k n) ≤ k ∧ k < sumTo φ (pick φ k n + 1)
  | 0, h => absurd h (Nat.not_lt_zero _)
  | m + 1, h => by
    by_cases e : k < sumTo φ m
    · obtain ⟨h1, h2, h3⟩ := pick_spec m e
      rw [pick, if_pos e]
      exact ⟨by omega, h2, h3⟩
    · rw [pick, if_neg e]
      exact ⟨by omega, by omega, h⟩
theorem pick_uniq {φ : Nat → Nat} {k i n : Nat} (h1 : sumTo φ i ≤ k) (h2 : k < sumTo φ (i + 1)) (hi : i < n) : pick φ k n = i := by
  have hn : k < sumTo φ n := Nat.lt_of_lt_of_le h2 (sumTo_mono n hi)
  obtain ⟨p1, p2, p3⟩ := pick_spec n hn
  generalize pick φ k n = j at *
  rcases Nat.lt_trichotomy j i with h | h | h
  · have := sumTo_mono (φ := φ) i (show j + 1 ≤ i from h); omega
  · exact h
  · have := sumTo_mono (φ := φ) j (show i + 1 ≤ j from h); omega
/-- What stands, and what is left to count, behind t points of the row with a number. -/
def nst (u : Nat → Nat) (n k : Nat) : Nat → Nat × Nat
  | 0 => (0, k)
  | t + 1 => ((nst u n k t).1 + pw (pick (goes u n (nst u n k t).1) (nst u n k t).2 n), (nst u n k t).2 - sumTo (goes u n (nst u n k t).1) (pick (goes u n (nst u n k t).1) (nst u n k t).2 n))
def nS (u : Nat → Nat) (n k t : Nat) : Nat := (nst u n k t).1
def nK (u : Nat → Nat) (n k t : Nat) : Nat := (nst u n k t).2
/-- The point that stands there. -/
def nP (u : Nat → Nat) (n k t : Nat) : Nat := pick (goes u n (nS u n k t)) (nK u n k t) n
theorem nS_zero (u : Nat → Nat) (n k : Nat) : nS u n k 0 = 0 := rfl
theorem nK_zero (u : Nat → Nat) (n k : Nat) : nK u n k 0 = k := rfl
theorem nS_succ (u : Nat → Nat) (n k t : Nat) : nS u n k (t + 1) = nS u n k t + pw (nP u n k t) := rfl
theorem nK_succ (u : Nat → Nat) (n k t : Nat) : nK u n k (t + 1) = nK u n k t - sumTo (goes u n (nS u n k t)) (nP u n k t) := rfl
theorem miss_zero_iff {n s : Nat} (hs : s < pw n) : miss n s = 0 ↔ s = pw n - 1 := by
  constructor
  · intro h
    have hb : ∀ i, i < n → s.testBit i = true := fun i hi => by
      cases hb : s.testBit i
      · have := le_sumTo (φ := fun i => if s.testBit i = true then 0 else 1) n hi
        unfold miss at h
        rw [h] at this
        simp [hb] at this
      · rfl
    refine Nat.eq_of_testBit_eq fun i => ?_
    rcases Nat.lt_or_ge i n with hi | hi
    · rw [hb i hi, all_bit hi]
    · have h1 : s.testBit i = false := Nat.testBit_lt_two_pow (Nat.lt_of_lt_of_le hs (Nat.pow_le_pow_right (by decide) hi))
      have h2 : (pw n - 1).testBit i = false := Nat.testBit_lt_two_pow (Nat.lt_of_lt_of_le (by have := pw_pos n; show pw n - 1 < pw n; omega) (Nat.pow_le_pow_right (by decide) hi))
      rw [h1, h2]
  · intro h
    have := sumTo_le (φ := fun i => if s.testBit i = true then 0 else 1) (B := 0) n (fun i hi => by rw [h, all_bit hi]; simp)
    unfold miss; omega
theorem miss_empty : ∀ n, miss n 0 = n
  | 0 => rfl
  | n + 1 => by
    have := miss_empty n
    unfold miss at *
    rw [sumTo, this]; simp
/-- What is so at each place of the row. -/
structure NOk (u : Nat → Nat) (n k t : Nat) : Prop where
  lt : nS u n k t < pw n
  miss : miss n (nS u n k t) + t = n
  rest : nK u n k t < ways u n (nS u n k t)
structure NPt (u : Nat → Nat) (n k t : Nat) : Prop where
  room : nS u n k t + 1 < pw n
  lt : nP u n k t < n
  le : sumTo (goes u n (nS u n k t)) (nP u n k t) ≤ nK u n k t
  gt : nK u n k t < sumTo (goes u n (nS u n k t)) (nP u n k t + 1)
  all : nK u n k t < sumTo (goes u n (nS u n k t)) n
  may : may u (nS u n k t) (nP u n k t) = true
theorem NOk.pt {u : Nat → Nat} {n k t : Nat} (h : NOk u n k t) (ht : t < n) : NPt u n k t := by
  have hm := h.miss
  have hr : nS u n k t + 1 < pw n := by
    have h1 := h.lt
    have h2 := (miss_zero_iff h1).2
    by_cases e : nS u n k t = pw n - 1
    · have := h2 e; omega
    · omega
  have hw := h.rest
  rw [ways_eq hr] at hw
  obtain ⟨p1, p2, p3⟩ := pick_spec n hw
  refine ⟨hr, p1, p2, p3, hw, ?_⟩
  cases hmay : Go.Proofs.YtklfnghgpmjnmaaDoor.may u (nS u n k t) (nP u n k t)
  · exfalso
    have : goes u n (nS u n k t) (nP u n k t) = 0 := goes_no hmay
    have h3 : nK u n k t < sumTo (goes u n (nS u n k t)) (nP u n k t) + goes u n (nS u n k t) (nP u n k t) := p3
    have h4 : sumTo (goes u n (nS u n k t)) (nP u n k t) ≤ nK u n k t := p2
    omega
  · rfl
theorem nok {u : Nat → Nat} {n k : Nat} (hk : k < ways u n 0) : ∀ t, t ≤ n → NOk u n k t
  | 0, _ => ⟨pw_pos n, by rw [nS_zero, miss_empty]; rfl, hk⟩
  | t + 1, ht => by
    have ih := nok hk t (by omega)
    have p := ih.pt (by omega)
    have hb := may_out p.may
    refine ⟨?_, ?_, ?_⟩
    · rw [nS_succ]; exact add_lt ih.lt p.lt hb
    · rw [nS_succ]
      have := miss_add hb n p.lt
      have := ih.miss
      omega
    · rw [nS_succ, nK_succ, ← goes_yes p.may]
      have h1 := p.le
      have h2 := p.gt
      rw [sumTo] at h2
      omega
theorem nK_le {u : Nat → Nat} {n k : Nat} : ∀ t, nK u n k t ≤ k
  | 0 => Nat.le_refl _
  | t + 1 => by have := nK_le (u := u) (n := n) (k := k) t; rw [nK_succ]; omega
/-- Where the search stands: not yet behind the point. -/
theorem search_in {φ : Nat → Nat} {k j n : Nat} (h : k < sumTo φ n) (hj : sumTo φ j ≤ k) : j < n := by
  rcases Nat.lt_or_ge j n with h1 | h1
  · exact h1
  · have := sumTo_mono (φ := φ) j h1; omega
end Go.Proofs.YtklfnghgpmjnmaaDoor
