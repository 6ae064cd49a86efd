/-
  Sets by a test on their points; what order.turn and order.bare answer. Conditions: at most ten sets of so many points.
-/
import Derived.Test.YtklfnghgpmjnmaaMake
namespace Go.Proofs.Ytklfnghgpmjnmaa
open Go.RowKit

/-- The set of those of the first k points that P lets by. -/
def setBy (P : Nat → Bool) : Nat → Nat
  | 0 => 0
  | k + 1 => if P k = true then setBy P k + pw k else setBy P k
theorem setBy_yes {P : Nat → Bool} {k : Nat} (h : P k = true) : setBy P (k + 1) = setBy P k + pw k := by simp [setBy, h]
theorem setBy_no {P : Nat → Bool} {k : Nat} (h : P k = false) : setBy P (k + 1) = setBy P k := by simp [setBy, h]
theorem setBy_lt (P : Nat → Bool) : ∀ k, setBy P k < pw k
  | 0 => by simp [setBy, pw]
  | k + 1 => by
    have := setBy_lt P k
    rw [pw_succ]
    cases h : P k
    · rw [setBy_no h]; omega
    · rw [setBy_yes h]; omega
theorem setBy_congr {P Q : Nat → Bool} : ∀ k, (∀ i, i < k → P i = Q i) → setBy P k = setBy Q k
  | 0, _ => rfl
  | k + 1, h => by
    have ih := setBy_congr k (fun i hi => h i (by omega))
    have hk := h k (by omega)
    simp only [setBy, hk, ih]
theorem or_pw_add {x k : Nat} (h : x < pw k) : x ||| pw k = x + pw k := by
  have e := Nat.two_pow_add_eq_or_of_lt (show x < 2 ^ k from h) 1
  rw [Nat.mul_one] at e
  show x ||| 2 ^ k = x + 2 ^ k
  rw [Nat.or_comm, ← e]; omega
theorem pw_bit (k i : Nat) : (pw k).testBit i = decide (k = i) := Nat.testBit_two_pow
theorem setBy_bit (P : Nat → Bool) : ∀ k i, (setBy P k).testBit i = (decide (i < k) && P i)
  | 0, i => by simp [setBy]
  | k + 1, i => by
    have ih := setBy_bit P k i
    cases h : P k
    · rw [setBy_no h, ih]
      by_cases e : i = k
      · subst e; simp [h]
      · have : decide (i < k + 1) = decide (i < k) := by simp; omega
        rw [this]
    · rw [setBy_yes h, ← or_pw_add (setBy_lt P k), Nat.testBit_or, ih, pw_bit]
      by_cases e : i = k
      · subst e; simp [h]
      · have : decide (i < k + 1) = decide (i < k) := by simp; omega
        rw [this]
        have : decide (k = i) = false := by simp; omega
        simp [this]
theorem eq_of_bits {x y n : Nat} (hx : x < pw n) (hy : y < pw n) (h : ∀ i, i < n → x.testBit i = y.testBit i) : x = y := by
  apply Nat.eq_of_testBit_eq
  intro i
  by_cases hi : i < n
  · exact h i hi
  · have h1 : x.testBit i = false := by
      cases e : x.testBit i
      · rfl
      · exact absurd (bit_of_lt hx e) hi
    have h2 : y.testBit i = false := by
      cases e : y.testBit i
      · rfl
      · exact absurd (bit_of_lt hy e) hi
    rw [h1, h2]

/-- Those of the first u points above l. -/
def trn (g : Nat → Nat) (u l : Nat) : Nat := setBy (fun x => (g x).testBit l) u
def mix (g : Nat → Nat) (u k l : Nat) : Nat := if l < k then trn g (u + 1) l else trn g u l
theorem mix_zero (g : Nat → Nat) (u : Nat) : mix g u 0 = trn g u := by funext l; simp [mix]
theorem mix_same (g : Nat → Nat) (u k : Nat) : mix g u k k = trn g u k := by simp [mix]
theorem mix_yes {g : Nat → Nat} {u k : Nat} (h : (g u).testBit k = true) : mix g u (k + 1) = upd (mix g u k) k (trn g u k ||| pw u) := by
  funext l
  by_cases e : l = k
  · subst e
    rw [upd_same, or_pw_add (show trn g u l < pw u from setBy_lt _ u)]
    simp only [mix, Nat.lt_succ_self, if_true]
    exact setBy_yes h
  · rw [upd_other _ _ _ _ e]
    have : (l < k + 1) = (l < k) := by simp; omega
    simp only [mix, this]
theorem mix_no {g : Nat → Nat} {u k : Nat} (h : (g u).testBit k = false) : mix g u (k + 1) = mix g u k := by
  funext l
  by_cases e : l = k
  · subst e
    simp only [mix, Nat.lt_succ_self, if_true, Nat.lt_irrefl, if_false]
    exact setBy_no h
  · have : (l < k + 1) = (l < k) := by simp; omega
    simp only [mix, this]
theorem Own.congr {w : World} {b n : Nat} {g h : Nat → Nat} (ho : Own w b n g) (e : ∀ k, k < n → g k = h k) : Own w b n h :=
  fun k hk => by rw [← e k hk]; exact ho k hk
theorem trn_small (g : Nat → Nat) (u l m : Nat) (h : u ≤ m) : trn g u l < pw m := Nat.lt_of_lt_of_le (setBy_lt _ u) (Nat.pow_le_pow_right (by decide) h)

end Go.Proofs.Ytklfnghgpmjnmaa
