/-
  What the reference's Inside, and hasselaw.numberIs answer. Conditions: sets of at most ten points.
-/
import Derived.Test.YtklfnghgpmjnmaaExtM
namespace Go.Proofs.Ytklfnghgpmjnmaa
open Go.RowKit

theorem has_as (s p : Nat) (w : World) (b : Bool) (h : s.testBit p = b) (hs : s < 9223372036854775808) (hp : p < 63) :
    Calls Try.prog 46 #[.int .i64 s, .int .i64 p] w fun e w' => e = .returned (.bool b) ∧ w' = w :=
  (has_any s p w hs hp).mono fun _ _ ⟨h1, h2⟩ => ⟨by rw [← h]; exact h1, h2.symm⟩
theorem in_as (s p : Nat) (w : World) (b : Bool) (h : s.testBit p = b) (hs : s < 9223372036854775808) (hp : p < 63) :
    Calls Try.prog 61 #[.int .i64 s, .int .i64 p] w fun e w' => e = .returned (.bool b) ∧ w' = w :=
  (in_any s p w hs hp).mono fun _ _ ⟨h1, h2⟩ => ⟨by rw [← h]; exact h1, h2.symm⟩

def Sub (a b : Nat) : Prop := ∀ j, a.testBit j = true → b.testBit j = true
theorem hv_zero_bits {s k : Nat} (h : hv s k = 0) : ∀ j, k ≤ j → s.testBit j = false := by
  intro j hj
  have hlt : s < 2 ^ k := by
    unfold hv at h
    rcases Nat.div_eq_zero_iff.1 h with h1 | h1
    · have := Nat.two_pow_pos k; omega
    · exact h1
  exact Nat.testBit_lt_two_pow (Nat.lt_of_lt_of_le hlt (Nat.pow_le_pow_right (by decide) hj))
theorem hv_big {s : Nat} (hs : s < 1024) {k : Nat} (hk : 10 ≤ k) : hv s k = 0 := by
  unfold hv
  exact Nat.div_eq_zero_iff.2 (.inr (Nat.lt_of_lt_of_le hs (Nat.le_trans (by decide : 1024 ≤ 2 ^ 10) (Nat.pow_le_pow_right (by decide) hk))))
theorem sub_iff {a b : Nat} (ha : a < 1024) (hb : b < 1024) : lack a b = 0 ↔ Sub a b := lack_zero a b (by omega) (by omega)
end Go.Proofs.Ytklfnghgpmjnmaa
