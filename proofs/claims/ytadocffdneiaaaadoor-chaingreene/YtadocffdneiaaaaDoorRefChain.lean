/-
  What the reference's Apart and IsChain answer. Conditions: an order of at most ten points that lies in a slice of numbers.
-/
import Derived.Test.YtadocffdneiaaaaDoorMWith
import Derived.Test.YtadocffdneiaaaaDoorDual
namespace Go.Proofs.YtadocffdneiaaaaDoor
open Go.RowKit

/-- Is S a chain? -/
def CH (g : Nat → Nat) (n S : Nat) : Prop := ∀ i, i < n → ∀ k, k < i → S.testBit i = true → S.testBit k = true → (g k).testBit i = true ∨ (g i).testBit k = true
def chB (g : Nat → Nat) (n S : Nat) : Bool := decide (∀ i, i < n → ∀ k, k < i → S.testBit i = true → S.testBit k = true → (g k).testBit i = true ∨ (g i).testBit k = true)
theorem chB_iff (g : Nat → Nat) (n S : Nat) : chB g n S = true ↔ CH g n S := by unfold chB CH; exact decide_eq_true_iff
theorem cmp_of {g : Nat → Nat} {n S i k : Nat} (h : CH g n S) (hi : i < n) (hk : k < n) (hne : i ≠ k) (h1 : S.testBit i = true) (h2 : S.testBit k = true) : (g k).testBit i = true ∨ (g i).testBit k = true := by
  rcases Nat.lt_or_gt_of_ne hne with h3 | h3
  · exact (h k hk i h3 h2 h1).symm
  · exact h i hi k h3 h1 h2
/-- Is neither of two points below the other one? -/
def apB (g : Nat → Nat) (i k : Nat) : Bool := !(g k).testBit i && !(g i).testBit k
/-- What holds of the pair i, k of a chain. -/
def okP (g : Nat → Nat) (S i k : Nat) : Prop := S.testBit i = true → S.testBit k = true → (g k).testBit i = true ∨ (g i).testBit k = true
theorem okP_no1 {g : Nat → Nat} {S i k : Nat} (h : S.testBit i = false) : okP g S i k := fun h1 => by rw [h] at h1; cases h1
theorem okP_no2 {g : Nat → Nat} {S i k : Nat} (h : S.testBit k = false) : okP g S i k := fun _ h1 => by rw [h] at h1; cases h1
theorem okP_ap {g : Nat → Nat} {S i k : Nat} (h : apB g i k = false) : okP g S i k := fun _ _ => by
  unfold apB at h
  cases h1 : (g k).testBit i
  · cases h2 : (g i).testBit k
    · rw [h1, h2] at h; cases h
    · exact .inr rfl
  · exact .inl rfl
end Go.Proofs.YtadocffdneiaaaaDoor
