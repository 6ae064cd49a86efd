/-
  What match.seated answers. Conditions: a graph of at most ten points on either side that lies in a slice of numbers; not too many ways together.
-/
import Derived.Test.YtadocffdneiaaaaDoorMCountM
namespace Go.Proofs.YtadocffdneiaaaaDoor
open Go.RowKit

theorem iwrap_pow (n : Nat) (h : n < 62) : IntKind.i64.wrap ((2 : Int) ^ n) = ((pw n : Nat) : Int) := by
  have := pw_small n h
  rw [show ((2 : Int) ^ n) = ((pw n : Nat) : Int) by simp [pw]]
  generalize pw n = m at *
  exact wrap_i64_small _ (by omega) (by omega)
theorem fre_no1 {t : Nat → Nat} {left taken k : Nat} (h : (t left).testBit k = false) : fre t left taken k = false := by simp [fre, h]
theorem fre_no2 {t : Nat → Nat} {left taken k : Nat} (h : taken.testBit k = true) : fre t left taken k = false := by simp [fre, h]
theorem fre_yes {t : Nat → Nat} {left taken k : Nat} (h : (t left).testBit k = true) (h2 : taken.testBit k = false) : fre t left taken k = true := by simp [fre, h, h2]

end Go.Proofs.YtadocffdneiaaaaDoor
