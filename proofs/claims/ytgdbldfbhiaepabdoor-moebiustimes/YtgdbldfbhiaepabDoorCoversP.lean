/-
  What order.Covers and the reference's Cover and Covers answer; hasselaw.OrderCovers returns true for every order. No condition but that a slice reads as a slice of numbers.
  What order.Covers answers, whatever it is handed. No condition but that a slice reads as a slice of numbers.
-/
import Derived.Test.YtgdbldfbhiaepabDoorGood
import Derived.Test.YtgdbldfbhiaepabDoorBuild
namespace Go.Proofs.YtgdbldfbhiaepabDoor
open Go.RowKit

def Cov (g : Nat → Nat) (n x y : Nat) : Prop := (g y).testBit x = true ∧ ∀ k, k < n → ¬ ((g k).testBit x = true ∧ (g y).testBit k = true)
def covB (g : Nat → Nat) (n x y : Nat) : Bool := (g y).testBit x && (trn g n x &&& g y == 0)
theorem covB_iff (g : Nat → Nat) (n x y : Nat) : covB g n x y = true ↔ Cov g n x y := by
  unfold covB Cov
  rw [Bool.and_eq_true, beq_iff_eq]
  refine and_congr Iff.rfl ⟨fun h k hk hh => ?_, fun h => ?_⟩
  · have := setBy_bit (fun z => (g z).testBit x) n k
    have h2 : (trn g n x &&& g y).testBit k = true := by
      rw [Nat.testBit_and, show (trn g n x).testBit k = (decide (k < n) && (g k).testBit x) from this]
      simp [hk, hh.1, hh.2]
    rw [h] at h2
    simp at h2
  · apply Nat.eq_of_testBit_eq
    intro k
    rw [Nat.testBit_and, show (trn g n x).testBit k = (decide (k < n) && (g k).testBit x) from setBy_bit _ n k]
    by_cases hk : k < n
    · cases h1 : (g k).testBit x
      · simp
      · cases h2 : (g y).testBit k
        · simp
        · exact absurd ⟨h1, h2⟩ (h k hk)
    · simp [hk]
theorem covB_of {g : Nat → Nat} {n x y : Nat} (h : Cov g n x y) : covB g n x y = true := (covB_iff g n x y).2 h
theorem covB_not {g : Nat → Nat} {n x y : Nat} (h : ¬ Cov g n x y) : covB g n x y = false := by
  cases e : covB g n x y
  · rfl
  · exact absurd ((covB_iff g n x y).1 e) h


/-- An order's box, and what lies below it, kept: the box reads as it did. -/
theorem Held.kept {w wx : World} {n : Int} {a : Option Addr} {len cap : Nat} {f : Nat → Int} (h : Row w a len f) (hb : Below (w.heap.size + 1) (w.alloc (.cells #[.int .i64 n, .slice a len cap] 24)) wx) : Held wx w.heap.size n a len cap f :=
  (Held.box h).step (by rw [World.size_alloc]; exact hb)
theorem below_call {w wx w1 : World} {o : Obj} (h : Below (w.heap.size + 1) (w.alloc o) wx) (hb : Below wx.heap.size wx w1) : Below (w.heap.size + 1) (w.alloc o) w1 :=
  h.trans (hb.mono (by have := h.size; simpa using this))
theorem below_append {w wx w1 : World} {o o2 : Obj} {e : TypeId} {size n : Nat} {v : Value} {xs : List Value} (h : Below (w.heap.size + 1) (w.alloc o) wx) (hown : wx.ownsRow (w.heap.size + 1) e size v n xs) (hg : (wx.alloc o2).grownBy w1 v.ownBlock) : Below (w.heap.size + 1) (w.alloc o) w1 :=
  (h.alloc (by have := h.size; simpa using this) o2).grown hg (by have := h.size; simp at this ⊢; omega) (owns_block hown)



theorem has_quiet (s p : Nat) (w : World) (hs : s < 9223372036854775808) (hp : p < 63) :
    Calls Tryd.prog 23 #[.int .i64 s, .int .i64 p] w fun e w' => e = .returned (.bool (s.testBit p)) ∧ w' = w :=
  (has_any s p w hs hp).mono fun _ _ ⟨h, h'⟩ => ⟨h, h'.symm⟩
theorem has_as (s p : Nat) (b : Bool) (w : World) (h : s.testBit p = b) (hs : s < 9223372036854775808) (hp : p < 63) :
    Calls Tryd.prog 23 #[.int .i64 s, .int .i64 p] w fun e w' => e = .returned (.bool b) ∧ w' = w := by
  rw [← h]; exact has_quiet s p w hs hp
theorem covB_no1 {g : Nat → Nat} {n x y : Nat} (h : (g y).testBit x = false) : covB g n x y = false := by simp [covB, h]
theorem covB_eq {g : Nat → Nat} {n x y : Nat} (h : (g y).testBit x = true) : covB g n x y = (trn g n x &&& g y == 0) := by simp [covB, h]
theorem own_kept {w wx : World} {b n : Nat} {g : Nat → Nat} (h : Own w b n g) (hb : Below w.heap.size w wx) : Own wx b n g :=
  fun k hk => (h.keep hb (h.lt hk)) k hk
theorem below_append2 {w wx w1 : World} {o2 : Obj} {e : TypeId} {size n : Nat} {v : Value} {xs : List Value} (h : Below w.heap.size w wx) (hown : wx.ownsRow w.heap.size e size v n xs) (hg : (wx.alloc o2).grownBy w1 v.ownBlock) : Below w.heap.size w w1 :=
  (h.alloc h.size o2).grown hg (by have := h.size; simp; omega) (owns_block hown)

end Go.Proofs.YtgdbldfbhiaepabDoor
