/-
  What order.Covers and the reference's Cover and Covers answer; hasselaw.OrderCovers returns true for every order. No condition but that a slice reads as a slice of numbers.
-/
import Derived.Test.YtipgojoiakbaiaaGood
import Derived.Test.YtipgojoiakbaiaaPairs
import Derived.Test.YtipgojoiakbaiaaWoQ
namespace Go.Proofs.Ytipgojoiakbaiaa
open Go.RowKit

def Cov (g : Nat → Nat) (n x y : Nat) : Prop := (g y).testBit x = true ∧ ∀ k, k < n → ¬ ((g k).testBit x = true ∧ (g y).testBit k = true)
def covB (g : Nat → Nat) (n x y : Nat) : Bool := (g y).testBit x && (trn g n x &&& g y == 0)
theorem covB_iff (g : Nat → Nat) (n x y : Nat) : covB g n x y = true ↔ Cov g n x y := by
  unfold covB Cov
  rw [Bool.and_eq_true, beq_iff_eq]
  refine and_congr Iff.rfl ⟨fun h k hk hh => ?_, fun h => ?_⟩
  · have := setBy_bit (fun z => (g z).testBit x) n k
    have h2 : (trn g n x &&& g y).testBit k = true := by
      rw [Nat.testBit_and, show (trn g n x).testBit k = (decide (k < n) && (g k).testBit x) from this]
      simp [hk, hh.1, hh.2]
    rw [h] at h2
    simp at h2
  · apply Nat.eq_of_testBit_eq
    intro k
    rw [Nat.testBit_and, show (trn g n x).testBit k = (decide (k < n) && (g k).testBit x) from setBy_bit _ n k]
    by_cases hk : k < n
    · cases h1 : (g k).testBit x
      · simp
      · cases h2 : (g y).testBit k
        · simp
        · exact absurd ⟨h1, h2⟩ (h k hk)
    · simp [hk]
theorem covB_of {g : Nat → Nat} {n x y : Nat} (h : Cov g n x y) : covB g n x y = true := (covB_iff g n x y).2 h
theorem covB_not {g : Nat → Nat} {n x y : Nat} (h : ¬ Cov g n x y) : covB g n x y = false := by
  cases e : covB g n x y
  · rfl
  · exact absurd ((covB_iff g n x y).1 e) h

def covs (g : Nat → Nat) (n : Nat) : List (Nat × Nat) := allPairs (covB g n) n n

/-- An order's box, and what lies below it, kept: the box reads as it did. -/
theorem Held.kept {w wx : World} {n : Int} {a : Option Addr} {len cap : Nat} {f : Nat → Int} (h : Row w a len f) (hb : Below (w.heap.size + 1) (w.alloc (.cells #[.int .i64 n, .slice a len cap] 24)) wx) : Held wx w.heap.size n a len cap f :=
  (Held.box h).step (by rw [World.size_alloc]; exact hb)
theorem below_call {w wx w1 : World} {o : Obj} (h : Below (w.heap.size + 1) (w.alloc o) wx) (hb : Below wx.heap.size wx w1) : Below (w.heap.size + 1) (w.alloc o) w1 :=
  h.trans (hb.mono (by have := h.size; simpa using this))
theorem below_append {w wx w1 : World} {o o2 : Obj} {e : TypeId} {size n : Nat} {v : Value} {xs : List Value} (h : Below (w.heap.size + 1) (w.alloc o) wx) (hown : wx.ownsRow (w.heap.size + 1) e size v n xs) (hg : (wx.alloc o2).grownBy w1 v.ownBlock) : Below (w.heap.size + 1) (w.alloc o) w1 :=
  (h.alloc (by have := h.size; simpa using this) o2).grown hg (by have := h.size; simp at this ⊢; omega) (owns_block hown)

end Go.Proofs.Ytipgojoiakbaiaa
