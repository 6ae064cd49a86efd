/-
  What level.Levels and level.Heights answer; what hasselaw.numbersAre answers; that hasselaw.levelBegun answers true. No condition but that a slice reads as a slice of numbers.
-/
import Derived.Test.YtncjlfhgenmheaaDoorPeel
import Derived.Test.YtncjlfhgenmheaaDoorRefLevels
namespace Go.Proofs.YtncjlfhgenmheaaDoor
open Go.RowKit

theorem NSl.below {w w' : World} {v : Value} {l : List Nat} (h : NSl w v l) (hb : Below w.heap.size w w') : NSl w' v l := by
  obtain ⟨a, cap, rfl, hr⟩ := h
  exact ⟨a, cap, rfl, hr.below hb⟩
/-- What comes with a code: a list, or nothing. -/
def ListPost (L : (Nat → Nat) → Nat → List Nat) (n : Int) (len : Nat) (f : Nat → Int) (e : Ending) (w' : World) : Prop :=
  ∃ (c : Int) (v : Value), Chk n len f c ∧ e = .returned (.tuple #[v, .int .i64 c]) ∧ ((c ≠ 0 ∧ v = .slice none 0 0) ∨ (c = 0 ∧ NSl w' v (L (nat f) len)))

def ListPostC (L : (Nat → Nat) → Nat → List Nat) (n : Int) (len : Nat) (f : Nat → Int) (e : Ending) (w' : World) : Prop :=
  ∃ (c : Int) (v : Value), Chk n len f c ∧ e = .returned (.tuple #[v, .int .i64 c]) ∧ ((c ≠ 0 ∧ v = .slice none 0 0) ∨ (c = 0 ∧ NSc w' v (L (nat f) len)))
end Go.Proofs.YtncjlfhgenmheaaDoor
