/-
  What the reference's Rows answers: how many ways go on behind each set. Conditions: an order of at most ten points that lies in a slice of numbers.
-/
import Derived.Test.YtdnpegjekckmgaaLayOut
namespace Go.Proofs.Ytdnpegjekckmgaa
open Go.RowKit

/-- All stand already: one way. -/
def st (n s : Nat) : Nat := if s + 1 = pw n then 1 else 0
theorem st_le (n s : Nat) : st n s ≤ 1 := by unfold st; split <;> omega
theorem ways_st {u : Nat → Nat} {n s : Nat} (hs : s < pw n) : st n s + sumTo (goes u n s) n = ways u n s := by
  unfold st
  by_cases e : s + 1 = pw n
  · rw [if_pos e, show s = pw n - 1 by omega, sum_all n (Nat.le_refl _), ways_all]
  · rw [if_neg e, ways_eq (by omega), Nat.zero_add]

theorem tb_none {u : Nat → Nat} {n s : Nat} (hs : s < pw n) : 0 = tb u n (pw n) s := by
  have : ¬ pw n ≤ s := by omega
  simp [tb, this]
end Go.Proofs.Ytdnpegjekckmgaa
