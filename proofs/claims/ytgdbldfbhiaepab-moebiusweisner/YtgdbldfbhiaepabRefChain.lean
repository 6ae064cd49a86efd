/-
  What the reference's Size, Apart and IsChain answer. Conditions: an order of at most ten points that lies in a slice of numbers; sets of so many points.
-/
import Derived.Test.YtgdbldfbhiaepabChains
namespace Go.Proofs.Ytgdbldfbhiaepab
open Go.RowKit

theorem pcn_stop {s k : Nat} (h : ∀ j, k ≤ j → s.testBit j = false) : ∀ d, pcn s (k + d) = pcn s k
  | 0 => rfl
  | d + 1 => by
    rw [← Nat.add_assoc, pcn, h (k + d) (by omega)]
    simpa using pcn_stop h d
theorem pcn_step (s k : Nat) : pcn s (k + 1) = pcn s k + hv s k % 2 := by
  rw [pcn, hv_bit]
  rcases Nat.mod_two_eq_zero_or_one (hv s k) with h | h <;> simp [h]
theorem hv_zero_bits {s k : Nat} (h : hv s k = 0) : ∀ j, k ≤ j → s.testBit j = false := by
  intro j hj
  have hlt : s < 2 ^ k := by
    unfold hv at h
    rcases Nat.div_eq_zero_iff.1 h with h1 | h1
    · have := Nat.two_pow_pos k; omega
    · exact h1
  exact Nat.testBit_lt_two_pow (Nat.lt_of_lt_of_le hlt (Nat.pow_le_pow_right (by decide) hj))
theorem hv_big {s : Nat} (hs : s < 1024) {k : Nat} (hk : 10 ≤ k) : hv s k = 0 := by
  unfold hv
  exact Nat.div_eq_zero_iff.2 (.inr (Nat.lt_of_lt_of_le hs (Nat.le_trans (by decide : 1024 ≤ 2 ^ 10) (Nat.pow_le_pow_right (by decide) hk))))
/-- Is neither of two points below the other one? -/
def apB (g : Nat → Nat) (i k : Nat) : Bool := !(g k).testBit i && !(g i).testBit k
/-- What holds of the pair i, k of a chain. -/
def okP (g : Nat → Nat) (S i k : Nat) : Prop := S.testBit i = true → S.testBit k = true → (g k).testBit i = true ∨ (g i).testBit k = true
theorem okP_no1 {g : Nat → Nat} {S i k : Nat} (h : S.testBit i = false) : okP g S i k := fun h1 => by rw [h] at h1; cases h1
theorem okP_no2 {g : Nat → Nat} {S i k : Nat} (h : S.testBit k = false) : okP g S i k := fun _ h1 => by rw [h] at h1; cases h1
theorem okP_ap {g : Nat → Nat} {S i k : Nat} (h : apB g i k = false) : okP g S i k := fun _ _ => by
  unfold apB at h
  cases h1 : (g k).testBit i
  · cases h2 : (g i).testBit k
    · rw [h1, h2] at h; cases h
    · exact .inr rfl
  · exact .inl rfl
end Go.Proofs.Ytgdbldfbhiaepab
