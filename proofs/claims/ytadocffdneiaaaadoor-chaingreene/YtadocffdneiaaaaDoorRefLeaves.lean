/-
  What the reference's In and Bit answer. Conditions: a set that is not negative, a point below 62.
-/
import Derived.Test.YtadocffdneiaaaaDoorLeaves
namespace Go.Proofs.YtadocffdneiaaaaDoor
open Go.RowKit

/-- s halved k times. -/
def hv (s k : Nat) : Nat := s / 2 ^ k
theorem hv_zero (s : Nat) : hv s 0 = s := by simp [hv]
theorem hv_succ (s k : Nat) : hv s (k + 1) = hv s k / 2 := by simp [hv, Nat.pow_succ, Nat.div_div_eq_div_mul]
theorem hv_bit (s k : Nat) : s.testBit k = decide (hv s k % 2 = 1) := Nat.testBit_eq_decide_div_mod_eq
theorem hv_le (s k : Nat) : hv s k ≤ s := Nat.div_le_self _ _

end Go.Proofs.YtadocffdneiaaaaDoor
