/-
  What extend.Count answers, and that hasselaw.extendBegun answers true. No condition but that a slice reads as a slice of numbers.
-/
import Derived.Test.YtnommlfenaijoabRefRows
import Derived.Test.YtnommlfenaijoabNats
import Derived.Test.YtnommlfenaijoabGood
namespace Go.Proofs.Ytnommlfenaijoab
open Go.RowKit

def CountPost (n : Int) (len : Nat) (f : Nat → Int) (e : Ending) : Prop :=
  ∃ c : Int, Chk n len f c ∧ ((c ≠ 0 ∧ e = .returned (.tuple #[.int .i64 0, .int .i64 c])) ∨
    (c = 0 ∧ e = .returned (.tuple #[.int .i64 (ways (nat f) len 0 : Nat), .int .i64 0])))

/-- Three points apart have six rows. -/
theorem three_rows (u : Nat → Nat) (h : ∀ k, k < 3 → u k = 0) : ways u 3 0 = 6 := by
  have m : ∀ s i, i < 3 → may u s i = !s.testBit i := fun s i hi => by
    have e : lack (u i) s = 0 := by rw [h i hi]; simp [lack]
    simp [may, e]
  have e8 : pw 3 = 8 := by decide
  have p0 : pw 0 = 1 := by decide
  have p1 : pw 1 = 2 := by decide
  have p2 : pw 2 = 4 := by decide
  have w7 : ways u 3 7 = 1 := by have := ways_all u 3; rw [e8] at this; exact this
  have go : ∀ s, s + 1 < 8 → ways u 3 s = (if s.testBit 0 = true then 0 else ways u 3 (s + 1)) + (if s.testBit 1 = true then 0 else ways u 3 (s + 2)) + (if s.testBit 2 = true then 0 else ways u 3 (s + 4)) := fun s hs => by
    rw [ways_eq (by rw [e8]; exact hs)]
    simp only [sumTo, goes, m s 0 (by decide), m s 1 (by decide), m s 2 (by decide), p0, p1, p2, Nat.zero_add]
    cases s.testBit 0 <;> cases s.testBit 1 <;> cases s.testBit 2 <;> simp
  have w6 : ways u 3 6 = 1 := by rw [go 6 (by decide)]; simp (decide := true) [w7]
  have w5 : ways u 3 5 = 1 := by rw [go 5 (by decide)]; simp (decide := true) [w7]
  have w3 : ways u 3 3 = 1 := by rw [go 3 (by decide)]; simp (decide := true) [w7]
  have w4 : ways u 3 4 = 2 := by rw [go 4 (by decide)]; simp (decide := true) [w5, w6]
  have w2 : ways u 3 2 = 2 := by rw [go 2 (by decide)]; simp (decide := true) [w3, w6]
  have w1 : ways u 3 1 = 2 := by rw [go 1 (by decide)]; simp (decide := true) [w3, w5]
  rw [go 0 (by decide)]; simp (decide := true) [w1, w2, w4]
theorem zero_chk : Chk 3 3 (fun _ => 0) 0 := by
  refine .inr ⟨3, rfl, by omega, .inr ⟨rfl, .inr ⟨?_, .inr ⟨rfl, ?_⟩⟩⟩⟩
  · unfold Rng; decide +kernel
  · unfold Ord OrdAt nat; decide +kernel

end Go.Proofs.Ytnommlfenaijoab
