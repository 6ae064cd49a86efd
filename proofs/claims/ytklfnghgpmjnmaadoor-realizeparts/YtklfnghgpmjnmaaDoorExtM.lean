/-
  In how many ways the points that do not stand yet go behind a set, each behind those that it needs. Plain facts: no Go text here. Conditions: at most ten points.
-/
import Derived.Test.YtklfnghgpmjnmaaDoorSums
namespace Go.Proofs.YtklfnghgpmjnmaaDoor
open Go.RowKit

/-- May a point stand next behind a set? -/
def may (u : Nat → Nat) (s i : Nat) : Bool := !s.testBit i && decide (lack (u i) s = 0)
theorem may_in {u : Nat → Nat} {s i : Nat} (h : s.testBit i = true) : may u s i = false := by simp [may, h]
theorem may_yes {u : Nat → Nat} {s i : Nat} (h : s.testBit i = false) (h2 : lack (u i) s = 0) : may u s i = true := by simp [may, h, h2]
theorem may_no {u : Nat → Nat} {s i : Nat} (h2 : lack (u i) s ≠ 0) : may u s i = false := by simp [may, h2]
theorem may_out {u : Nat → Nat} {s i : Nat} (h : may u s i = true) : s.testBit i = false := by
  cases hb : s.testBit i
  · rfl
  · rw [may_in hb] at h; cases h
/-- How many of n points a set has not. -/
def miss (n s : Nat) : Nat := sumTo (fun i => if s.testBit i = true then 0 else 1) n
theorem miss_le (n s : Nat) : miss n s ≤ n := by
  have := sumTo_le (φ := fun i => if s.testBit i = true then 0 else 1) (B := 1) n (fun k _ => by split <;> omega)
  unfold miss; omega
theorem add_bit {s i : Nat} (h : s.testBit i = false) (k : Nat) : (s + pw i).testBit k = (s.testBit k || decide (i = k)) := by
  rw [← or_free h, Nat.testBit_or, pw_bit]
theorem miss_add {s i : Nat} (h : s.testBit i = false) : ∀ n, i < n → miss n (s + pw i) + 1 = miss n s
  | 0, hi => absurd hi (Nat.not_lt_zero _)
  | n + 1, hi => by
    unfold miss
    rw [sumTo, sumTo]
    by_cases e : i = n
    · subst e
      have e1 : sumTo (fun k => if (s + pw i).testBit k = true then 0 else 1) i = sumTo (fun k => if s.testBit k = true then 0 else 1) i := sumTo_congr i fun k hk => by
        have hne : ¬ i = k := by omega
        rw [add_bit h k]; simp [hne]
      rw [e1, add_bit h i, h]; simp
    · have ih := miss_add h n (by omega)
      unfold miss at ih
      rw [add_bit h n, decide_eq_false e, Bool.or_false]
      omega
theorem add_lt {n s i : Nat} (hs : s < pw n) (hi : i < n) (h : s.testBit i = false) : s + pw i < pw n := by
  rw [← or_free h]; exact or_lt hs hi

/-- In how many ways the others go behind a set, with so much fuel. -/
def waysF (u : Nat → Nat) (n : Nat) : Nat → Nat → Nat
  | 0, s => if s = pw n - 1 then 1 else 0
  | f + 1, s => if pw n - 1 ≤ s then (if s = pw n - 1 then 1 else 0) else sumTo (fun i => if may u s i = true then waysF u n f (s + pw i) else 0) n
theorem waysF_top (u : Nat → Nat) (n : Nat) {s : Nat} (h : pw n - 1 ≤ s) : ∀ f, waysF u n f s = if s = pw n - 1 then 1 else 0
  | 0 => rfl
  | f + 1 => by unfold waysF; rw [if_pos h]
theorem waysF_eq (u : Nat → Nat) (n : Nat) : ∀ f f' s, pw n - s ≤ f → pw n - s ≤ f' → waysF u n f s = waysF u n f' s
  | 0, f', s, h, _ => by rw [waysF_top u n (by omega), waysF_top u n (by omega)]
  | f + 1, 0, s, _, h' => by rw [waysF_top u n (by omega), waysF_top u n (by omega)]
  | f + 1, f' + 1, s, h, h' => by
    by_cases e : pw n - 1 ≤ s
    · rw [waysF_top u n e, waysF_top u n e]
    · unfold waysF
      rw [if_neg e, if_neg e]
      refine sumTo_congr n fun i _ => ?_
      have hp := pw_pos i
      rw [waysF_eq u n f f' (s + pw i) (by omega) (by omega)]
/-- In how many ways the others go behind a set. -/
def ways (u : Nat → Nat) (n s : Nat) : Nat := waysF u n (pw n) s
/-- In how many ways they go behind a set with a point next. -/
def goes (u : Nat → Nat) (n s i : Nat) : Nat := if may u s i = true then ways u n (s + pw i) else 0
theorem goes_no {u : Nat → Nat} {n s i : Nat} (h : may u s i = false) : goes u n s i = 0 := by simp [goes, h]
theorem goes_yes {u : Nat → Nat} {n s i : Nat} (h : may u s i = true) : goes u n s i = ways u n (s + pw i) := by simp [goes, h]
theorem ways_all (u : Nat → Nat) (n : Nat) : ways u n (pw n - 1) = 1 := by unfold ways; rw [waysF_top u n (Nat.le_refl _)]; simp
theorem ways_eq {u : Nat → Nat} {n s : Nat} (h : s + 1 < pw n) : ways u n s = sumTo (goes u n s) n := by
  obtain ⟨f, hf⟩ : ∃ f, pw n = f + 1 := ⟨pw n - 1, by omega⟩
  have e : ways u n s = waysF u n (f + 1) s := by unfold ways; rw [hf]
  rw [e]
  unfold waysF
  rw [if_neg (by omega)]
  refine sumTo_congr n fun i _ => ?_
  unfold goes ways
  have hp := pw_pos i
  rw [waysF_eq u n f (pw n) (s + pw i) (by omega) (by omega)]
theorem all_bit {n i : Nat} (hi : i < n) : (pw n - 1).testBit i = true := by
  have := Nat.testBit_two_pow_sub_one n i
  unfold pw; rw [this]; simp [hi]
theorem goes_all {u : Nat → Nat} {n i : Nat} (hi : i < n) : goes u n (pw n - 1) i = 0 := goes_no (may_in (all_bit hi))
theorem sum_all {u : Nat → Nat} {n : Nat} : ∀ k, k ≤ n → sumTo (goes u n (pw n - 1)) k = 0
  | 0, _ => rfl
  | k + 1, h => by rw [sumTo, sum_all k (by omega), goes_all (by omega)]
theorem ways_le {u : Nat → Nat} {n : Nat} (h10 : n ≤ 10) : ∀ m s, pw n - s ≤ m → s < pw n → ways u n s ≤ 10 ^ miss n s
  | 0, s, h, hs => by omega
  | m + 1, s, h, hs => by
    by_cases e : s + 1 < pw n
    · rw [ways_eq e]
      by_cases z : ∃ i, i < n ∧ may u s i = true
      · obtain ⟨i, hi, hm⟩ := z
        have hb := may_out hm
        have h1 := miss_add hb n hi
        have h2 := sumTo_le (φ := goes u n s) (B := 10 ^ (miss n s - 1)) n (fun k hk => by
          cases hk2 : may u s k
          · rw [goes_no hk2]; exact Nat.zero_le _
          · rw [goes_yes hk2]
            have h3 := ways_le (u := u) h10 m (s + pw k) (by have := pw_pos k; omega) (add_lt hs hk (may_out hk2))
            have h4 := miss_add (may_out hk2) n hk
            rw [show miss n s - 1 = miss n (s + pw k) by omega]; exact h3)
        refine Nat.le_trans h2 ?_
        rw [show miss n s = (miss n s - 1) + 1 by omega, Nat.pow_succ, Nat.mul_comm]
        exact Nat.mul_le_mul (Nat.le_refl _) h10
      · have h2 := sumTo_le (φ := goes u n s) (B := 0) n (fun k hk => by
          cases hk2 : may u s k
          · rw [goes_no hk2]; exact Nat.zero_le _
          · exact absurd ⟨k, hk, hk2⟩ z)
        exact Nat.le_trans (by omega) (Nat.zero_le _)
    · have : s = pw n - 1 := by omega
      rw [this, ways_all]; exact Nat.pos_of_ne_zero (by have := Nat.pow_pos (n := miss n (pw n - 1)) (show 0 < 10 by decide); omega)
theorem ways_small {u : Nat → Nat} {n s : Nat} (h10 : n ≤ 10) (hs : s < pw n) : ways u n s ≤ 10000000000 := by
  refine Nat.le_trans (ways_le h10 _ s (Nat.le_refl _) hs) ?_
  have h1 := miss_le n s
  exact Nat.le_trans (Nat.pow_le_pow_right (by decide) (show miss n s ≤ 10 by omega)) (by decide)
theorem goes_small {u : Nat → Nat} {n s i : Nat} (h10 : n ≤ 10) (hs : s < pw n) (hi : i < n) : goes u n s i ≤ 10000000000 := by
  cases h : may u s i
  · rw [goes_no h]; exact Nat.zero_le _
  · rw [goes_yes h]; exact ways_small h10 (add_lt hs hi (may_out h))
theorem sum_small {u : Nat → Nat} {n s k : Nat} (h10 : n ≤ 10) (hs : s < pw n) (hk : k ≤ n) : sumTo (goes u n s) k ≤ 100000000000 := by
  have := sumTo_le (φ := goes u n s) (B := 10000000000) k (fun j hj => goes_small h10 hs (by omega))
  omega
theorem ways_congr {u v : Nat → Nat} {n : Nat} (h : ∀ s i, s < pw n → i < n → may u s i = may v s i) : ∀ m s, pw n - s ≤ m → s < pw n → ways u n s = ways v n s
  | 0, s, hm, hs => by omega
  | m + 1, s, hm, hs => by
    by_cases e : s + 1 < pw n
    · rw [ways_eq e, ways_eq e]
      refine sumTo_congr n fun k hk => ?_
      cases h1 : may u s k
      · rw [goes_no h1, goes_no (by rw [← h s k hs hk]; exact h1)]
      · rw [goes_yes h1, goes_yes (by rw [← h s k hs hk]; exact h1)]
        exact ways_congr h m _ (by have := pw_pos k; omega) (add_lt hs hk (may_out h1))
    · have : s = pw n - 1 := by omega
      rw [this, ways_all, ways_all]
/-- Where a point needs itself there is no way. -/
theorem ways_self {u : Nat → Nat} {n a : Nat} (ha : a < n) (hu : u a < 18446744073709551616) (h : (u a).testBit a = true) (hn : n ≤ 10) : ∀ m s, pw n - s ≤ m → s < pw n → s.testBit a = false → ways u n s = 0
  | 0, s, hm, hs, _ => by omega
  | m + 1, s, hm, hs, hb => by
    have e : s + 1 < pw n := by
      rcases Nat.lt_or_ge (s + 1) (pw n) with h1 | h1
      · exact h1
      · have : s = pw n - 1 := by omega
        rw [this, all_bit ha] at hb; cases hb
    rw [ways_eq e]
    have h2 := sumTo_le (φ := goes u n s) (B := 0) n (fun k hk => by
      cases hk2 : may u s k
      · rw [goes_no hk2]; exact Nat.zero_le _
      · rw [goes_yes hk2]
        have hka : k ≠ a := by
          intro hka; subst hka
          have hz : lack (u k) s ≠ 0 := by
            intro hz
            have := (lack_zero (u k) s hu (by have := pw_le n hn; omega)).1 hz k h
            rw [hb] at this; cases this
          rw [may_no hz] at hk2; cases hk2
        rw [ways_self ha hu h hn m _ (by have := pw_pos k; omega) (add_lt hs hk (may_out hk2)) (by rw [add_bit (may_out hk2), hb]; simpa using hka)]
        exact Nat.zero_le _)
    omega
end Go.Proofs.YtklfnghgpmjnmaaDoor
